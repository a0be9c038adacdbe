/-
 A drawn program. No condition of its own.
-/
import Derived.Test.YthikhkeofcjdfaaGreatDrawP
namespace Go.Proofs.YthikhkeofcjdfaaGreat
set_option linter.unusedVariables false
set_option linter.unusedSimpArgs false
open Go.RowKit
set_option maxRecDepth 100000

theorem info_extQ : (Tryz.prog.info? 132).map (fun i => (i.zero, i.size, i.bytes)) = some (some (.agg #[.int .i64 0, .int .i64 0]), 2, 16) := by kernel_rfl
/-- The box of a program whose rules are being drawn. -/
abbrev bxA (n : Int) (v : Value) : List Value := [.int .i64 n, v, .slice none 0 0, .bool false, .slice none 0 0, .slice none 0 0, .slice none 0 0, .slice none 0 0]
theorem smL_of {a : Int} {l : List (Int × Int)} (h : l.length ≤ 30) : SmL ⟨a, l⟩ := h
theorem smW_of {t : ByteArray} {l : List Int} (h : l.length ≤ 30) : SmW ⟨t, l⟩ := h
theorem PS.widen {w wz : World} {c N G M : Nat} {bx cs : List Value} {p : ProgD} (h : PS w c N G M wz bx cs p) : PS w c N G wz.heap.size wz bx cs p := h.next (h.fin.mono (Nat.le_refl _) h.le.2) h.sm
theorem on_proj {w : World} {lo hi : Nat} {c1 c2 c4 c5 c6 c7 : Value} {p : ProgD} (h : OwnIn lo hi w [.int .i64 p.atoms, c1, c2, .bool p.projOn, c4, c5, c6, c7] p) (b : Bool) : OwnIn lo hi w [.int .i64 p.atoms, c1, c2, .bool b, c4, c5, c6, c7] { p with projOn := b } := by
 obtain ⟨fp, ⟨d1, d2, d4, d5, d6, d7, f1, f2, f4, f5, f6, f7, e, hf, o1, o2, o4, o5, o6, o7, rfl, hn⟩, hl⟩ := h
 simp only [List.cons.injEq, and_true, true_and] at e
 obtain ⟨rfl, rfl, rfl, rfl, rfl, rfl⟩ := e
 exact ⟨_, ⟨_, _, _, _, _, _, f1, f2, f4, f5, f6, f7, rfl, hf, o1, o2, o4, o5, o6, o7, rfl, hn⟩, hl⟩
/-- With its levels. -/
abbrev bxB (n : Int) (v1 v2 : Value) : List Value := [.int .i64 n, v1, v2, .bool false, .slice none 0 0, .slice none 0 0, .slice none 0 0, .slice none 0 0]
def pB (n : Int) (rs : List RuleD) (ls : List LevelD) : ProgD := ⟨n, rs, ls, false, [], [], [], []⟩
/-- With what is projected. -/
abbrev bxC (n : Int) (v1 v2 : Value) (on : Bool) (v4 : Value) : List Value := [.int .i64 n, v1, v2, .bool on, v4, .slice none 0 0, .slice none 0 0, .slice none 0 0]
def pC (n : Int) (rs : List RuleD) (ls : List LevelD) (on : Bool) (pj : List Int) : ProgD := ⟨n, rs, ls, on, pj, [], [], []⟩
/-- With what is shown. -/
abbrev bxD (n : Int) (v1 v2 : Value) (on : Bool) (v4 v5 : Value) : List Value := [.int .i64 n, v1, v2, .bool on, v4, v5, .slice none 0 0, .slice none 0 0]
def pD (n : Int) (rs : List RuleD) (ls : List LevelD) (on : Bool) (pj : List Int) (sh : List ShowD) : ProgD := ⟨n, rs, ls, on, pj, sh, [], []⟩
/-- With its external atoms. -/
abbrev bxE (n : Int) (v1 v2 : Value) (on : Bool) (v4 v5 v6 : Value) : List Value := [.int .i64 n, v1, v2, .bool on, v4, v5, v6, .slice none 0 0]
def pE (n : Int) (rs : List RuleD) (ls : List LevelD) (on : Bool) (pj : List Int) (sh : List ShowD) (es : List (Int × Int)) : ProgD := ⟨n, rs, ls, on, pj, sh, es, []⟩
theorem res_cg8 (w : World) (g : Nat) (u0 u1 u2 u3 u4 u5 u6 u7 : Value) : Cg (fun b => b = g) w ((((((((w.setCell ⟨g, 0, none⟩ u0).setCell ⟨g, 1, none⟩ u1).setCell ⟨g, 2, none⟩ u2).setCell ⟨g, 3, none⟩ u3).setCell ⟨g, 4, none⟩ u4).setCell ⟨g, 5, none⟩ u5).setCell ⟨g, 6, none⟩ u6).setCell ⟨g, 7, none⟩ u7) :=
 (((((((((Cg.refl (fun b => b = g) w).set 0 u0 (show g = g from rfl)).set 1 u1 (show g = g from rfl)).set 2 u2 (show g = g from rfl)).set 3 u3 (show g = g from rfl)).set 4 u4 (show g = g from rfl)).set 5 u5 (show g = g from rfl)).set 6 u6 (show g = g from rfl)).set 7 u7 (show g = g from rfl))
/-- The length of the slice in a cell. -/
def lenA : Option Value → Nat
 | some (.slice _ n _) => n
 | _ => 0
theorem lenA_at {w : World} {p : Addr} {a : Option Addr} {n c : Nat} (h : w.cell? p = some (.slice a n c)) : lenA (w.cell? p) = n := by rw [h]; rfl
/-- With what is assumed. -/
abbrev bxF (n : Int) (v1 v2 : Value) (on : Bool) (v4 v5 v6 v7 : Value) : List Value := [.int .i64 n, v1, v2, .bool on, v4, v5, v6, v7]
/-- The texts of drawn shows. -/
def tx5 (i : Nat) : ByteArray := match i with
 | 0 => ⟨#[97]⟩
 | 1 => ⟨#[98, 40, 49, 41]⟩
 | 2 => ⟨#[99]⟩
 | 3 => ⟨#[108, 111, 110, 103, 95, 110, 97, 109, 101, 40, 120, 44, 121, 41]⟩
 | _ => ⟨#[126]⟩
theorem tx5_at {i : Nat} (h : i < 5) : ([.string ⟨#[97]⟩, .string ⟨#[98, 40, 49, 41]⟩, .string ⟨#[99]⟩, .string ⟨#[108, 111, 110, 103, 95, 110, 97, 109, 101, 40, 120, 44, 121, 41]⟩, .string ⟨#[126]⟩] : List Value)[i]? = some (.string (tx5 i)) := by
 have : i = 0 ∨ i = 1 ∨ i = 2 ∨ i = 3 ∨ i = 4 := by omega
 rcases this with rfl | rfl | rfl | rfl | rfl <;> rfl
theorem tx5_size {i : Nat} (h : i < 5) : (tx5 i).size ≤ 9223372036854775807 := by
 have : i = 0 ∨ i = 1 ∨ i = 2 ∨ i = 3 ∨ i = 4 := by omega
 rcases this with rfl | rfl | rfl | rfl | rfl <;> decide
theorem info_showQ : (Tryz.prog.info? 185).map (fun i => (i.zero, i.size, i.bytes)) = some (some (.agg #[.string ByteArray.empty, .slice none 0 0]), 2, 40) := by kernel_rfl
theorem info_levelQ : (Tryz.prog.info? 182).map (fun i => (i.zero, i.size, i.bytes)) = some (some (.agg #[.int .i64 0, .slice none 0 0]), 2, 32) := by kernel_rfl
set_option maxHeartbeats 40000000 in
theorem prog_calls (c N : Nat) (w : World) (h : Cur w c N) (hN : N ≤ 1000000) :
  Calls Tryz.prog 146 #[.pointer (some ⟨c, 0, none⟩)] w fun e w' => ∃ cs p, e = .returned (.agg (List.toArray cs)) ∧ Own (α := ProgD) w.heap.size w' cs p ∧ Cur w' c (N + 5000) ∧ Wrote c w w' ∧ SmP p ∧ 0 < p.rules.length := by
 obtain ⟨i2, hi2, hz20, hz21, hz22⟩ := info_parts info_rule
 obtain ⟨i6, hi6, hz60, hz61, hz62⟩ := info_parts info_extQ
 obtain ⟨i7, hi7, hz70, hz71, hz72⟩ := info_parts info_int
 obtain ⟨i5, hi5, hz50, hz51, hz52⟩ := info_parts info_showQ
 obtain ⟨i9, hi9, hz90, hz91, hz92⟩ := info_parts info_wlit
 obtain ⟨i8, hi8, hz80, hz81, hz82⟩ := info_parts info_levelQ
 have hcw := h.lt
 have hcA := (h.kept ((Below.refl w.heap.size w).alloc (Nat.le_refl _) (.cells zP.toArray 30)))
 go_enter Tryz.func146, Tryz.ntmps146
 go_wp2_with fail
 refine (size_calls' c N 6 _ hcA (by omega) (by omega) (by omega)).mono ?_
 rintro e w1 ⟨n0, rfl, hn0, hc1, hw1⟩
 obtain ⟨n, hn⟩ : ∃ n : Int, n = 2 + (n0 : Int) := ⟨_, rfl⟩
 have hn2 : 2 ≤ n := by omega
 have hn8 : n ≤ 8 := by omega
 have h1 := PS.start (a := n) hcw ⟨by omega, by omega⟩ hw1 hc1
 clear hcA
 go_upto_region 3 with fail
 rw [← hn]
 obtain ⟨G, hG⟩ : ∃ G, G = w1.heap.size := ⟨_, rfl⟩
 rw [← hG] at h1 ⊢
 obtain ⟨wb, hwb⟩ : ∃ wb, wb = w1.alloc (.cells #[.int .i64 n, .slice none 0 0, .slice none 0 0, .bool false, .slice none 0 0, .slice none 0 0, .slice none 0 0, .slice none 0 0] 30) := ⟨_, rfl⟩
 rw [← hwb] at h1 ⊢
 clear hwb hG hw1 hc1 hn hn0
 go_wp2_with fail
 refine (size_calls' c (N + 1) 9 _ h1.cur (by omega) (by omega) (by omega)).mono ?_
 rintro e w2 ⟨k0, rfl, hk0, hc2, hw2⟩
 have h2 := h1.pick hcw hw2 hc2
 clear h1 hw2 hc2
 go_wp2_with fail
 obtain ⟨M, hM⟩ : ∃ M, M = G + 1 := ⟨_, rfl⟩
 rw [← hM] at h2
 have hr0 : Int.toNat (1 + (k0 : Int)) = 1 + k0 := by omega
 go_loopw [5] (fun i wr => ∃ (k : Nat) (v : Value) (xs : List RuleD), k ≤ 10 ∧ i = .int .i64 (k : Int) ∧ xs.length + k ≤ 10 ∧ 1 ≤ xs.length + k ∧ (∀ x ∈ xs, SmR x) ∧ OwnD (α := RuleD) M (fun g => M ≤ g) 34 wr v xs ∧ PS w c (N + 2 + 200 * (10 - k)) G M wr (bxA n v) (bxA n (.slice none 0 0)) (pA n)) (fun i _ => (intOf i).toNat)
 case atStart => exact ⟨1 + k0, _, [], by omega, by go_num, by simp; omega, by simp, by simp, ownD_nil, h2.mono (N' := N + 2 + 200 * (10 - (1 + k0))) (by omega)⟩
 case round =>
  obtain ⟨k, v, xs, hk, rfl, hlen, hlen1, hxs, ho, hst⟩ := hrel
  clear h2
  obtain ⟨a4, q4, rfl⟩ := ho.form
  obtain ⟨y0, y1, y2, y3, y4, y5, y6, y7⟩ := cells8 (box_cells hst.box)
  by_cases hlt : 0 < k
  ·have hkI : 0 < (k : Int) := by omega
   have hkn : Hid (Value.int .i64 ((k : Int) - 1) = .int .i64 ((k - 1 : Nat) : Int)) := by show _ = _; rw [show ((k : Int) - 1) = ((k - 1 : Nat) : Int) by omega]
   go_upto_region 6 with fail
   refine wp_region_held_drew (S := fun _ => True) (by kernel_rfl) trivial (fun hHeld => ?_)
   refine tkY 0 (.pointer (some ⟨G, 1, none⟩)) 27 rfl rfl (fun w' hw' => ?_) hHeld ?_
   ·go_simp
   try simp only [Act.put, put1, put2, put3]
   refine tkY 2 (.pointer (some ⟨c, 0, none⟩)) 29 rfl rfl (fun w' hw' => ?_) hHeld ?_
   ·go_simp
   try simp only [Act.put, put1, put2, put3]
   refine tkY 3 (.int .i64 n) 30 rfl rfl (fun w' hw' => ?_) hHeld ?_
   ·go_simp
   try simp only [Act.put, put1, put2, put3]
   refine wpAnyH_ready (rs := [1, 4]) (by kernel_rfl) (by simp) ?_
   refine AllReadyH.cons rfl (fun K hK => ?_) (AllReadyH.cons rfl (fun K hK => ?_) AllReadyH.nil)
   ·go_simp
    refine hK.out _ _ (trivial) (fun hHeld => ?_)
    clear hK K
    try simp only [Act.put, put1, put2, put3]
    refine wpAnyH_ready (rs := [4]) (by kernel_rfl) (by simp) ?_
    refine AllReadyH.cons rfl (fun K hK => ?_) AllReadyH.nil
    go_simp
    refine (rule_calls c (N + 2 + 200 * (10 - k)) n wr.drew (hst.cur.kept (Below.refl _ _).drew) (by omega) ⟨by omega, by omega⟩).mono ?_
    rintro e w5 ⟨cs, r, rfl, hr5, hc5, hw5, hsr⟩
    have hW5 : Wrote c wr w5 := ((Wrote.refl c _).drewN 1).trans hw5
    have h5 := hst.pick hcw hW5 hc5
    have hz5 := hW5.size
    have ho5 := (ownD_below ho).cg (Cg.wrote (S := fun g => g = c) hW5 rfl) (fun g h1 h2 => by have := hst.lt; have := hst.le; omega)
    obtain ⟨d0, d1, d2, d3, d4, rfl⟩ := list5 (Rd.len hr5.rd)
    have b6 := (Below.refl w5.heap.size w5).alloc (Nat.le_refl _) (.cells #[d0, d1, d2, d3, d4] 34)
    have hle := hst.le
    obtain ⟨a6, q6, w6, r6, ho6, hb6, hs6⟩ := app_run (α := RuleD) (t := 24) (e := 34) (c := 1) i2 _ 72 Tryz.underlying24 hi2 hz20 hz21 hz22 rfl (by decide) (ho5.later b6) (Cells.new w5 [d0, d1, d2, d3, d4] 34) (hr5.later b6) hle.2 (Nat.le_trans hz5 b6.size) (by omega) (by omega)
    have b7 : Below M w5 w6 := (b6.mono (Nat.le_trans hle.2 hz5)).trans hb6
    have h7 := h5.put hcw b7 1 (.slice a6 (xs.length + 1) q6)
    have ho7 := ho6.far (p := ⟨G, 1, none⟩) (fun h => by have h : M ≤ G := h; omega) (.slice a6 (xs.length + 1) q6)
    have z1 := (cells8 (box_cells h5.box)).2.1
    have z1' := cell_kept b6 z1
    have hb6' := (Cg.lo (S := fun g => M ≤ g) b7 fun g _ hg => hg).at h5.box (by omega)
    have q1 := (cells8 (box_cells hb6')).2.1
    have qf := frozen_of_row w6 G 1 _ _ hb6'
    refine hK.out _ _ (trivial) (fun hHeld => ?_)
    clear hK K
    try simp only [Act.put, put1, put2, put3]
    refine wpAnyH_ready (rs := [5]) (by kernel_rfl) (by simp) ?_
    refine AllReadyH.cons rfl (fun K hK => ?_) AllReadyH.nil
    go_simp
    refine hK.out _ _ (trivial) (fun hHeld => ?_)
    clear hK K
    try simp only [Act.put, put1, put2, put3]
    refine wpAnyH_ready (rs := [6]) (by kernel_rfl) (by simp) ?_
    refine AllReadyH.cons rfl (fun K hK => ?_) AllReadyH.nil
    refine step_append_of rfl _ _ rfl rfl rfl r6 ?_
    refine hK.out _ _ (trivial) (fun hHeld => ?_)
    clear hK K
    try simp only [Act.put, put1, put2, put3]
    refine tkY 7 (.pointer (some ⟨G, 1, none⟩)) 34 rfl rfl (fun w' hw' => ?_) hHeld ?_
    ·go_simp
    try simp only [Act.put, put1, put2, put3]
    refine wpAnyH_ready (rs := [8]) (by kernel_rfl) (by simp) ?_
    refine AllReadyH.cons rfl (fun K hK => ?_) AllReadyH.nil
    go_simp
    refine hK.out _ _ (trivial) (fun hHeld => ?_)
    clear hK K
    try simp only [Act.put, put1, put2, put3]
    refine wpAnyH_done (by kernel_rfl) ?_ _
    go_wp2
    go_roundw
    case rel => exact ⟨k - 1, _, xs ++ [r], by omega, hkn.out, by simp; omega, by simp; omega, sm_snoc hxs hsr, ho7, h7.mono (N' := N + 2 + 200 * (10 - (k - 1))) (by omega)⟩
    case measure => simp [intOf]; omega
   ·skip
    go_simp
    refine (rule_calls c (N + 2 + 200 * (10 - k)) n wr.drew (hst.cur.kept (Below.refl _ _).drew) (by omega) ⟨by omega, by omega⟩).mono ?_
    rintro e w5 ⟨cs, r, rfl, hr5, hc5, hw5, hsr⟩
    have hW5 : Wrote c wr w5 := ((Wrote.refl c _).drewN 1).trans hw5
    have h5 := hst.pick hcw hW5 hc5
    have hz5 := hW5.size
    have ho5 := (ownD_below ho).cg (Cg.wrote (S := fun g => g = c) hW5 rfl) (fun g h1 h2 => by have := hst.lt; have := hst.le; omega)
    obtain ⟨d0, d1, d2, d3, d4, rfl⟩ := list5 (Rd.len hr5.rd)
    have b6 := (Below.refl w5.heap.size w5).alloc (Nat.le_refl _) (.cells #[d0, d1, d2, d3, d4] 34)
    have hle := hst.le
    obtain ⟨a6, q6, w6, r6, ho6, hb6, hs6⟩ := app_run (α := RuleD) (t := 24) (e := 34) (c := 1) i2 _ 72 Tryz.underlying24 hi2 hz20 hz21 hz22 rfl (by decide) (ho5.later b6) (Cells.new w5 [d0, d1, d2, d3, d4] 34) (hr5.later b6) hle.2 (Nat.le_trans hz5 b6.size) (by omega) (by omega)
    have b7 : Below M w5 w6 := (b6.mono (Nat.le_trans hle.2 hz5)).trans hb6
    have h7 := h5.put hcw b7 1 (.slice a6 (xs.length + 1) q6)
    have ho7 := ho6.far (p := ⟨G, 1, none⟩) (fun h => by have h : M ≤ G := h; omega) (.slice a6 (xs.length + 1) q6)
    have z1 := (cells8 (box_cells h5.box)).2.1
    have z1' := cell_kept b6 z1
    have hb6' := (Cg.lo (S := fun g => M ≤ g) b7 fun g _ hg => hg).at h5.box (by omega)
    have q1 := (cells8 (box_cells hb6')).2.1
    have qf := frozen_of_row w6 G 1 _ _ hb6'
    refine hK.out _ _ (trivial) (fun hHeld => ?_)
    clear hK K
    try simp only [Act.put, put1, put2, put3]
    refine wpAnyH_ready (rs := [1, 5]) (by kernel_rfl) (by simp) ?_
    refine AllReadyH.cons rfl (fun K hK => ?_) (AllReadyH.cons rfl (fun K hK => ?_) AllReadyH.nil)
    ·go_simp
     refine hK.out _ _ (trivial) (fun hHeld => ?_)
     clear hK K
     try simp only [Act.put, put1, put2, put3]
     refine wpAnyH_ready (rs := [5]) (by kernel_rfl) (by simp) ?_
     refine AllReadyH.cons rfl (fun K hK => ?_) AllReadyH.nil
     go_simp
     refine hK.out _ _ (trivial) (fun hHeld => ?_)
     clear hK K
     try simp only [Act.put, put1, put2, put3]
     refine wpAnyH_ready (rs := [6]) (by kernel_rfl) (by simp) ?_
     refine AllReadyH.cons rfl (fun K hK => ?_) AllReadyH.nil
     refine step_append_of rfl _ _ rfl rfl rfl r6 ?_
     refine hK.out _ _ (trivial) (fun hHeld => ?_)
     clear hK K
     try simp only [Act.put, put1, put2, put3]
     refine tkY 7 (.pointer (some ⟨G, 1, none⟩)) 34 rfl rfl (fun w' hw' => ?_) hHeld ?_
     ·go_simp
     try simp only [Act.put, put1, put2, put3]
     refine wpAnyH_ready (rs := [8]) (by kernel_rfl) (by simp) ?_
     refine AllReadyH.cons rfl (fun K hK => ?_) AllReadyH.nil
     go_simp
     refine hK.out _ _ (trivial) (fun hHeld => ?_)
     clear hK K
     try simp only [Act.put, put1, put2, put3]
     refine wpAnyH_done (by kernel_rfl) ?_ _
     go_wp2
     go_roundw
     case rel => exact ⟨k - 1, _, xs ++ [r], by omega, hkn.out, by simp; omega, by simp; omega, sm_snoc hxs hsr, ho7, h7.mono (N' := N + 2 + 200 * (10 - (k - 1))) (by omega)⟩
     case measure => simp [intOf]; omega
    ·go_simp
     refine hK.out _ _ (trivial) (fun hHeld => ?_)
     clear hK K
     try simp only [Act.put, put1, put2, put3]
     refine wpAnyH_ready (rs := [1]) (by kernel_rfl) (by simp) ?_
     refine AllReadyH.cons rfl (fun K hK => ?_) AllReadyH.nil
     go_simp
     refine hK.out _ _ (trivial) (fun hHeld => ?_)
     clear hK K
     try simp only [Act.put, put1, put2, put3]
     refine wpAnyH_ready (rs := [6]) (by kernel_rfl) (by simp) ?_
     refine AllReadyH.cons rfl (fun K hK => ?_) AllReadyH.nil
     refine step_append_of rfl _ _ rfl rfl rfl r6 ?_
     refine hK.out _ _ (trivial) (fun hHeld => ?_)
     clear hK K
     try simp only [Act.put, put1, put2, put3]
     refine tkY 7 (.pointer (some ⟨G, 1, none⟩)) 34 rfl rfl (fun w' hw' => ?_) hHeld ?_
     ·go_simp
     try simp only [Act.put, put1, put2, put3]
     refine wpAnyH_ready (rs := [8]) (by kernel_rfl) (by simp) ?_
     refine AllReadyH.cons rfl (fun K hK => ?_) AllReadyH.nil
     go_simp
     refine hK.out _ _ (trivial) (fun hHeld => ?_)
     clear hK K
     try simp only [Act.put, put1, put2, put3]
     refine wpAnyH_done (by kernel_rfl) ?_ _
     go_wp2
     go_roundw
     case rel => exact ⟨k - 1, _, xs ++ [r], by omega, hkn.out, by simp; omega, by simp; omega, sm_snoc hxs hsr, ho7, h7.mono (N' := N + 2 + 200 * (10 - (k - 1))) (by omega)⟩
     case measure => simp [intOf]; omega
  ·obtain rfl : k = 0 := by omega
   have h1 := hst.next (ins_rules (c1 := .slice none 0 0) (p := pA n) (v := .slice a4 xs.length q4) (xs := xs) (H := wr.heap.size) hst.fin (ownD_in ho) hst.le.1 hst.le.2) (sm_rules (p := pA n) hst.sm (by omega) hxs)
   have hx1 : Hid (0 < xs.length) := by show _ < _; omega
   have h1 := h1.mono (N' := N + 2010) (by omega)
   have hF0 : ¬ (0 : Int) > ((0 : Nat) : Int) := by omega
   clear ho hst
   go_upto_if 37 with (go_at_call 62; refine (pick_calls c (N + 2010) 4 _ h1.cur (by omega) ⟨by omega, by omega⟩).mono ?_; rintro e w3 ⟨r, ⟨hr0, hr1, _⟩, rfl, hc3, hw3⟩)
   have h3 := h1.pick hcw hw3 hc3
   go_cut [3, 4] (fun a b wz => a = .int .i64 n ∧ b = .pointer (some ⟨G, 0, none⟩) ∧ ∃ v2 ls, PS w c (N + 2100) G wz.heap.size wz (bxB n (.slice a4 xs.length q4) v2) (bxB n (.slice a4 xs.length q4) v2) (pB n xs ls))
   case first =>
    by_cases e0 : r = 0
    ·subst e0
     have h3 := h3.widen
     obtain ⟨M2, hM2⟩ : ∃ M2, M2 = w3.heap.size := ⟨_, rfl⟩
     rw [← hM2] at h3
     clear hM2
     go_wp2_with fail
     refine (pick_calls c (N + 2011) 3 _ h3.cur (by omega) ⟨by omega, by omega⟩).mono ?_
     rintro e w4 ⟨s4, ⟨h40, h41, _⟩, rfl, hc4, hw4⟩
     have h41 := h41 (by omega)
     have h4 := h3.pick hcw hw4 hc4
     go_wp2_with fail
     refine (pick_calls c (N + 2012) 3 _ (h4.cur.mono (by omega)) (by omega) ⟨by omega, by omega⟩).mono ?_
     rintro e w5 ⟨s5, ⟨h50, h51, _⟩, rfl, hc5, hw5⟩
     have h51 := h51 (by omega)
     obtain ⟨k5, rfl⟩ := Int.eq_ofNat_of_zero_le h50
     have h5 := h4.pick hcw hw5 hc5
     go_wp2_with fail
     have hr5 : Int.toNat (1 + (k5 : Int)) = 1 + k5 := by omega
     clear h3 h4 hc4 hw4 hc5 hw5
     go_loopw [6, 7] (fun a i wr => ∃ (k : Nat) (pv : Int) (v : Value) (lv : List LevelD), k ≤ 3 ∧ i = .int .i64 (k : Int) ∧ a = .int .i64 pv ∧ -2 ≤ pv ∧ pv + 3 * k ≤ 9 ∧ lv.length + k ≤ 3 ∧ (∀ x ∈ lv, SmL x) ∧ OwnD (α := LevelD) M2 (fun g => M2 ≤ g) 182 wr v lv ∧ PS w c (N + 2013 + 20 * (3 - k)) G M2 wr (bxB n (.slice a4 xs.length q4) v) (bxB n (.slice a4 xs.length q4) (.slice none 0 0)) (pB n xs [])) (fun _ i _ => (intOf i).toNat)
     case atStart => exact ⟨1 + k5, -s4, _, [], by omega, by go_num, by go_num, by omega, by omega, by simp; omega, by simp, ownD_nil, h5.mono (N' := N + 2013 + 20 * (3 - (1 + k5))) (by omega)⟩
     case round =>
      obtain ⟨k, pv, v, lv, hk, rfl, rfl, hp0, hp1, hlen3, hlv, ho, hst⟩ := hrel
      clear h5
      obtain ⟨al, ql, rfl⟩ := ho.form
      by_cases hlt3 : 0 < k
      ·have hkI : 0 < (k : Int) := by omega
       have hkn : Hid (Value.int .i64 ((k : Int) - 1) = .int .i64 ((k - 1 : Nat) : Int)) := by show _ = _; rw [show ((k : Int) - 1) = ((k - 1 : Nat) : Int) by omega]
       obtain ⟨wo, rfl⟩ : ∃ wo, wo = wr := ⟨_, rfl⟩
       have hle := hst.le
       have hlG := hst.lt
       have bS := (Below.refl wo.heap.size wo).alloc (Nat.le_refl _) (.cells #[.int .i64 pv, .slice none 0 0] 182)
       go_wp2_with fail
       refine (pick_calls c (N + 2014 + 20 * (3 - k)) 4 _ ((hst.cur.mono (by omega)).kept bS) (by omega) ⟨by omega, by omega⟩).mono ?_
       rintro e w6 ⟨j6, ⟨h60, h61, _⟩, rfl, hc6, hw6⟩
       have h61 := h61 (by omega)
       obtain ⟨j0, rfl⟩ := Int.eq_ofNat_of_zero_le h60
       have hz6 := hw6.size
       rw [World.size_alloc] at hz6
       obtain ⟨L, hL⟩ : ∃ L, L = wo.heap.size := ⟨_, rfl⟩
       have hML : M2 ≤ L := by omega
       have hcg6 : Cg (fun g => g = c) wo w6 := (Cg.below bS).trans (Cg.wrote hw6 rfl)
       have hb0 : Hid (w6.heap[L]? = some (.cells ([.int .i64 pv, .slice none 0 0] : List Value).toArray 182 (0, 0))) := by
        show _ = _
        rw [hL]
        exact (Cg.wrote (S := fun g => g = c) hw6 rfl).at (alloc_block wo _ _) (by omega)
       have h6 := (hst.mono (N' := N + 2014 + 20 * (3 - k)) (by omega)).keep hcw (hcg6.more fun g _ hg => .inl hg) hc6
       have ho6 : OwnD (α := LevelD) M2 (fun f => M2 ≤ f ∧ f < L) 182 w6 (.slice al lv.length ql) lv := ((ownD_below ho).cg hcg6 (fun g h1 h2 => by omega)).weak (Nat.le_refl _) fun f hf => ⟨hf.1, by omega⟩
       rw [← hL]
       clear ho hst bS hw6 hc6 hcg6 hL hz6
       go_wp2_with fail
       go_loopw [9] (fun i wr => ∃ (j : Nat) (v : Value) (ld : List (Int × Int)), j ≤ 3 ∧ i = .int .i64 (j : Int) ∧ ld.length + j ≤ 3 ∧ OwnD (α := Int × Int) (L + 1) (fun g => L + 1 ≤ g) 94 wr v ld ∧ Hid (wr.heap[L]? = some (.cells ([.int .i64 pv, v] : List Value).toArray 182 (0, 0))) ∧ OwnD (α := LevelD) M2 (fun f => M2 ≤ f ∧ f < L) 182 wr (.slice al lv.length ql) lv ∧ PS w c (N + 2015 + 20 * (3 - k) + 3 * (3 - j)) G M2 wr (bxB n (.slice a4 xs.length q4) (.slice al lv.length ql)) (bxB n (.slice a4 xs.length q4) (.slice none 0 0)) (pB n xs [])) (fun i _ => (intOf i).toNat)
       case atStart => exact ⟨j0, _, [], by omega, rfl, by simp; omega, ownD_nil, hb0, ho6, h6.mono (N' := N + 2015 + 20 * (3 - k) + 3 * (3 - j0)) (by omega)⟩
       case round =>
        obtain ⟨j, v, ld, hj, rfl, hlen2, ho, hbx, hr, hst⟩ := hrel
        clear h6 ho6 hb0
        obtain ⟨a6, q6, rfl⟩ := ho.form
        obtain ⟨u0, u1⟩ := cells2 (box_cells hbx.out)
        by_cases hltj : 0 < j
        ·have hjI : 0 < (j : Int) := by omega
         have hjn : Hid (Value.int .i64 ((j : Int) - 1) = .int .i64 ((j - 1 : Nat) : Int)) := by show _ = _; rw [show ((j : Int) - 1) = ((j - 1 : Nat) : Int) by omega]
         go_upto_region 16 with fail
         refine wp_region_held_drew (S := fun _ => True) (by kernel_rfl) trivial (fun hHeld => ?_)
         refine tkY 0 (.pointer (some ⟨L, 1, none⟩)) 56 rfl rfl (fun w' hw' => ?_) hHeld ?_
         ·go_simp
         try simp only [Act.put, put1, put2, put3]
         refine tkY 2 (.pointer (some ⟨c, 0, none⟩)) 58 rfl rfl (fun w' hw' => ?_) hHeld ?_
         ·go_simp
         try simp only [Act.put, put1, put2, put3]
         refine tkY 3 (.int .i64 n) 59 rfl rfl (fun w' hw' => ?_) hHeld ?_
         ·go_simp
         try simp only [Act.put, put1, put2, put3]
         refine tkY 5 (.pointer (some ⟨c, 0, none⟩)) 61 rfl rfl (fun w' hw' => ?_) hHeld ?_
         ·go_simp
         try simp only [Act.put, put1, put2, put3]
         refine wpAnyH_ready (rs := [1, 4]) (by kernel_rfl) (by simp) ?_
         refine AllReadyH.cons rfl (fun K hK => ?_) (AllReadyH.cons rfl (fun K hK => ?_) AllReadyH.nil)
         ·skip
          go_simp
          refine hK.out _ _ (trivial) (fun hHeld => ?_)
          clear hK K
          try simp only [Act.put, put1, put2, put3]
          refine wpAnyH_ready (rs := [4]) (by kernel_rfl) (by simp) ?_
          refine AllReadyH.cons rfl (fun K hK => ?_) AllReadyH.nil
          go_simp
          refine (lit_calls c (N + 2015 + 20 * (3 - k) + 3 * (3 - j)) n wr.drew (hst.cur.kept (Below.refl _ _).drew) (by omega) ⟨by omega, by omega⟩).mono ?_
          rintro e w6 ⟨l, rfl, ⟨hl0, hl1⟩, hc6, hw6⟩
          have hW6 : Wrote c wr w6 := ((Wrote.refl c _).drewN 1).trans hw6
          have h6 := hst.pick hcw hW6 hc6
          have hb6 := (Cg.wrote (S := fun g => g = c) hW6 rfl).at hbx.out (by have := h6.lt; have := h6.le; omega)
          have z6 := (cells2 (box_cells hb6)).2
          refine hK.out _ _ (trivial) (fun hHeld => ?_)
          clear hK K
          try simp only [Act.put, put1, put2, put3]
          refine wpAnyH_ready (rs := [6]) (by kernel_rfl) (by simp) ?_
          refine AllReadyH.cons rfl (fun K hK => ?_) AllReadyH.nil
          go_simp
          refine (pick_calls c (N + 2015 + 20 * (3 - k) + 3 * (3 - j) + 2) 7 w6 h6.cur (by omega) ⟨by omega, by omega⟩).mono ?_
          rintro e w7 ⟨x, ⟨hx0, hx1, _⟩, rfl, hc7, hw7⟩
          have hx1 := hx1 (by omega)
          have h7 := h6.pick hcw hw7 hc7
          have hle7 := h7.le
          have hz7 := hw7.size
          have hW7 := hW6.trans hw7
          have ho7 := ho.cg (Cg.wrote (S := fun g => g = c) hW7 rfl) (fun g h1 e => by have := h7.lt; have h1 : L + 1 ≤ g := h1; omega)
          have hr7 := hr.cg (Cg.wrote (S := fun g => g = c) hW7 rfl) (fun g h1 e => by have := h7.lt; omega)
          have hb7 := (Cg.wrote (S := fun g => g = c) hw7 rfl).at hb6 (by have := h7.lt; omega)
          have z7 := (cells2 (box_cells hb7)).2
          have hlL := block_lt hb7
          have hwx : IntKind.i64.wrap (x - 2) = x - 2 := IntWalk.i64_in _ (by omega)
          have b8 := (Below.refl w7.heap.size w7).alloc (Nat.le_refl _) (.cells #[.int .i64 l, .int .i64 (x - 2)] 94)
          have z7' := cell_kept b8 z7
          obtain ⟨v8, w8, r8, ho8, hb8, hg8⟩ := run_append_oneD (α := Int × Int) (P := Tryz.prog) (t := 32) (ty := 32) (c := 1) i9 _ 16 Tryz.underlying32 hi9 hz90 hz91 hz92 rfl (by decide) ho7 b8 (Cells.new w7 [.int .i64 l, .int .i64 (x - 2)] 94) (own_pair ⟨by omega, by omega⟩ ⟨by omega, by omega⟩) (fun f hf => by show L + 1 ≤ f; omega) (by omega) (by omega) (by omega)
          obtain ⟨a8, q8, rfl⟩ := ho8.form
          rw [List.length_append, List.length_singleton] at r8 ho8
          have c8 : Cg (fun g => L + 1 ≤ g) w7 w8 := Cg.lo ((b8.mono (by omega)).trans hb8) fun g _ hg => hg
          have hb9 := c8.at hb7 (by omega)
          have hbN : Hid ((w8.setCell ⟨L, 1, none⟩ (.slice a8 (ld.length + 1) q8)).heap[L]? = some (.cells ([.int .i64 pv, .slice a8 (ld.length + 1) q8] : List Value).toArray 182 (0, 0))) := box_set (cs := [.int .i64 pv, .slice a6 ld.length q6]) (i := 1) hb9 _
          have k8 : Cg (fun g => g = c ∨ M2 ≤ g) w7 (w8.setCell ⟨L, 1, none⟩ (.slice a8 (ld.length + 1) q8)) := (c8.more fun g _ hg => .inr (by omega)).set 1 _ (.inr hML)
          have h8 := h7.keep hcw k8 ((hc7.cg (c8.more fun g _ hg => by have := h7.lt; omega)).cg ((Cg.refl (fun g => c < g) w8).set 1 (.slice a8 (ld.length + 1) q8) (show c < L by have := h7.lt; omega)))
          have ho9 := ho8.far (p := ⟨L, 1, none⟩) (fun h => by have h : L + 1 ≤ L := h; omega) (.slice a8 (ld.length + 1) q8)
          have hr9 := (hr7.cg c8 (fun g h1 e => by omega)).far (p := ⟨L, 1, none⟩) (fun h => by have h := h.2; simp at h) (.slice a8 (ld.length + 1) q8)
          have q6c := (cells2 (box_cells hb9)).2
          have qf := frozen_of_row w8 L 1 _ _ hb9
          refine hK.out _ _ (trivial) (fun hHeld => ?_)
          clear hK K
          try simp only [Act.put, put1, put2, put3]
          refine tkY 7 (.int .i64 (x - 2)) 63 rfl rfl (fun w' hw' => ?_) hHeld ?_
          ·go_simp
          try simp only [Act.put, put1, put2, put3]
          refine tkY 8 (.agg #[.int .i64 l, .int .i64 (x - 2)]) 64 rfl rfl (fun w' hw' => ?_) hHeld ?_
          ·go_simp
          try simp only [Act.put, put1, put2, put3]
          refine wpAnyH_ready (rs := [9]) (by kernel_rfl) (by simp) ?_
          refine AllReadyH.cons rfl (fun K hK => ?_) AllReadyH.nil
          go_simp
          refine hK.out _ _ (trivial) (fun hHeld => ?_)
          clear hK K
          try simp only [Act.put, put1, put2, put3]
          refine wpAnyH_ready (rs := [10]) (by kernel_rfl) (by simp) ?_
          refine AllReadyH.cons rfl (fun K hK => ?_) AllReadyH.nil
          refine step_append_of rfl _ _ rfl rfl rfl r8 ?_
          refine hK.out _ _ (trivial) (fun hHeld => ?_)
          clear hK K
          try simp only [Act.put, put1, put2, put3]
          refine tkY 11 (.pointer (some ⟨L, 1, none⟩)) 67 rfl rfl (fun w' hw' => ?_) hHeld ?_
          ·go_simp
          try simp only [Act.put, put1, put2, put3]
          refine wpAnyH_ready (rs := [12]) (by kernel_rfl) (by simp) ?_
          refine AllReadyH.cons rfl (fun K hK => ?_) AllReadyH.nil
          go_simp
          refine hK.out _ _ (trivial) (fun hHeld => ?_)
          clear hK K
          try simp only [Act.put, put1, put2, put3]
          refine wpAnyH_done (by kernel_rfl) ?_ _
          go_wp2
          go_roundw
          case rel => exact ⟨j - 1, .slice a8 (ld.length + 1) q8, ld ++ [(l, x - 2)], by omega, hjn.out, by simp; omega, ho9, hbN, hr9, h8.mono (N' := N + 2015 + 20 * (3 - k) + 3 * (3 - (j - 1))) (by omega)⟩
          case measure => simp [intOf]; omega
         ·skip
          go_simp
          refine (lit_calls c (N + 2015 + 20 * (3 - k) + 3 * (3 - j)) n wr.drew (hst.cur.kept (Below.refl _ _).drew) (by omega) ⟨by omega, by omega⟩).mono ?_
          rintro e w6 ⟨l, rfl, ⟨hl0, hl1⟩, hc6, hw6⟩
          have hW6 : Wrote c wr w6 := ((Wrote.refl c _).drewN 1).trans hw6
          have h6 := hst.pick hcw hW6 hc6
          have hb6 := (Cg.wrote (S := fun g => g = c) hW6 rfl).at hbx.out (by have := h6.lt; have := h6.le; omega)
          have z6 := (cells2 (box_cells hb6)).2
          refine hK.out _ _ (trivial) (fun hHeld => ?_)
          clear hK K
          try simp only [Act.put, put1, put2, put3]
          refine wpAnyH_ready (rs := [1, 6]) (by kernel_rfl) (by simp) ?_
          refine AllReadyH.cons rfl (fun K hK => ?_) (AllReadyH.cons rfl (fun K hK => ?_) AllReadyH.nil)
          ·skip
           go_simp
           refine hK.out _ _ (trivial) (fun hHeld => ?_)
           clear hK K
           try simp only [Act.put, put1, put2, put3]
           refine wpAnyH_ready (rs := [6]) (by kernel_rfl) (by simp) ?_
           refine AllReadyH.cons rfl (fun K hK => ?_) AllReadyH.nil
           go_simp
           refine (pick_calls c (N + 2015 + 20 * (3 - k) + 3 * (3 - j) + 2) 7 w6 h6.cur (by omega) ⟨by omega, by omega⟩).mono ?_
           rintro e w7 ⟨x, ⟨hx0, hx1, _⟩, rfl, hc7, hw7⟩
           have hx1 := hx1 (by omega)
           have h7 := h6.pick hcw hw7 hc7
           have hle7 := h7.le
           have hz7 := hw7.size
           have hW7 := hW6.trans hw7
           have ho7 := ho.cg (Cg.wrote (S := fun g => g = c) hW7 rfl) (fun g h1 e => by have := h7.lt; have h1 : L + 1 ≤ g := h1; omega)
           have hr7 := hr.cg (Cg.wrote (S := fun g => g = c) hW7 rfl) (fun g h1 e => by have := h7.lt; omega)
           have hb7 := (Cg.wrote (S := fun g => g = c) hw7 rfl).at hb6 (by have := h7.lt; omega)
           have z7 := (cells2 (box_cells hb7)).2
           have hlL := block_lt hb7
           have hwx : IntKind.i64.wrap (x - 2) = x - 2 := IntWalk.i64_in _ (by omega)
           have b8 := (Below.refl w7.heap.size w7).alloc (Nat.le_refl _) (.cells #[.int .i64 l, .int .i64 (x - 2)] 94)
           have z7' := cell_kept b8 z7
           obtain ⟨v8, w8, r8, ho8, hb8, hg8⟩ := run_append_oneD (α := Int × Int) (P := Tryz.prog) (t := 32) (ty := 32) (c := 1) i9 _ 16 Tryz.underlying32 hi9 hz90 hz91 hz92 rfl (by decide) ho7 b8 (Cells.new w7 [.int .i64 l, .int .i64 (x - 2)] 94) (own_pair ⟨by omega, by omega⟩ ⟨by omega, by omega⟩) (fun f hf => by show L + 1 ≤ f; omega) (by omega) (by omega) (by omega)
           obtain ⟨a8, q8, rfl⟩ := ho8.form
           rw [List.length_append, List.length_singleton] at r8 ho8
           have c8 : Cg (fun g => L + 1 ≤ g) w7 w8 := Cg.lo ((b8.mono (by omega)).trans hb8) fun g _ hg => hg
           have hb9 := c8.at hb7 (by omega)
           have hbN : Hid ((w8.setCell ⟨L, 1, none⟩ (.slice a8 (ld.length + 1) q8)).heap[L]? = some (.cells ([.int .i64 pv, .slice a8 (ld.length + 1) q8] : List Value).toArray 182 (0, 0))) := box_set (cs := [.int .i64 pv, .slice a6 ld.length q6]) (i := 1) hb9 _
           have k8 : Cg (fun g => g = c ∨ M2 ≤ g) w7 (w8.setCell ⟨L, 1, none⟩ (.slice a8 (ld.length + 1) q8)) := (c8.more fun g _ hg => .inr (by omega)).set 1 _ (.inr hML)
           have h8 := h7.keep hcw k8 ((hc7.cg (c8.more fun g _ hg => by have := h7.lt; omega)).cg ((Cg.refl (fun g => c < g) w8).set 1 (.slice a8 (ld.length + 1) q8) (show c < L by have := h7.lt; omega)))
           have ho9 := ho8.far (p := ⟨L, 1, none⟩) (fun h => by have h : L + 1 ≤ L := h; omega) (.slice a8 (ld.length + 1) q8)
           have hr9 := (hr7.cg c8 (fun g h1 e => by omega)).far (p := ⟨L, 1, none⟩) (fun h => by have h := h.2; simp at h) (.slice a8 (ld.length + 1) q8)
           have q6c := (cells2 (box_cells hb9)).2
           have qf := frozen_of_row w8 L 1 _ _ hb9
           refine hK.out _ _ (trivial) (fun hHeld => ?_)
           clear hK K
           try simp only [Act.put, put1, put2, put3]
           refine tkY 7 (.int .i64 (x - 2)) 63 rfl rfl (fun w' hw' => ?_) hHeld ?_
           ·go_simp
           try simp only [Act.put, put1, put2, put3]
           refine tkY 8 (.agg #[.int .i64 l, .int .i64 (x - 2)]) 64 rfl rfl (fun w' hw' => ?_) hHeld ?_
           ·go_simp
           try simp only [Act.put, put1, put2, put3]
           refine wpAnyH_ready (rs := [9]) (by kernel_rfl) (by simp) ?_
           refine AllReadyH.cons rfl (fun K hK => ?_) AllReadyH.nil
           go_simp
           refine hK.out _ _ (trivial) (fun hHeld => ?_)
           clear hK K
           try simp only [Act.put, put1, put2, put3]
           refine wpAnyH_ready (rs := [10]) (by kernel_rfl) (by simp) ?_
           refine AllReadyH.cons rfl (fun K hK => ?_) AllReadyH.nil
           refine step_append_of rfl _ _ rfl rfl rfl r8 ?_
           refine hK.out _ _ (trivial) (fun hHeld => ?_)
           clear hK K
           try simp only [Act.put, put1, put2, put3]
           refine tkY 11 (.pointer (some ⟨L, 1, none⟩)) 67 rfl rfl (fun w' hw' => ?_) hHeld ?_
           ·go_simp
           try simp only [Act.put, put1, put2, put3]
           refine wpAnyH_ready (rs := [12]) (by kernel_rfl) (by simp) ?_
           refine AllReadyH.cons rfl (fun K hK => ?_) AllReadyH.nil
           go_simp
           refine hK.out _ _ (trivial) (fun hHeld => ?_)
           clear hK K
           try simp only [Act.put, put1, put2, put3]
           refine wpAnyH_done (by kernel_rfl) ?_ _
           go_wp2
           go_roundw
           case rel => exact ⟨j - 1, .slice a8 (ld.length + 1) q8, ld ++ [(l, x - 2)], by omega, hjn.out, by simp; omega, ho9, hbN, hr9, h8.mono (N' := N + 2015 + 20 * (3 - k) + 3 * (3 - (j - 1))) (by omega)⟩
           case measure => simp [intOf]; omega
          ·skip
           go_simp
           refine (pick_calls c (N + 2015 + 20 * (3 - k) + 3 * (3 - j) + 2) 7 w6 h6.cur (by omega) ⟨by omega, by omega⟩).mono ?_
           rintro e w7 ⟨x, ⟨hx0, hx1, _⟩, rfl, hc7, hw7⟩
           have hx1 := hx1 (by omega)
           have h7 := h6.pick hcw hw7 hc7
           have hle7 := h7.le
           have hz7 := hw7.size
           have hW7 := hW6.trans hw7
           have ho7 := ho.cg (Cg.wrote (S := fun g => g = c) hW7 rfl) (fun g h1 e => by have := h7.lt; have h1 : L + 1 ≤ g := h1; omega)
           have hr7 := hr.cg (Cg.wrote (S := fun g => g = c) hW7 rfl) (fun g h1 e => by have := h7.lt; omega)
           have hb7 := (Cg.wrote (S := fun g => g = c) hw7 rfl).at hb6 (by have := h7.lt; omega)
           have z7 := (cells2 (box_cells hb7)).2
           have hlL := block_lt hb7
           have hwx : IntKind.i64.wrap (x - 2) = x - 2 := IntWalk.i64_in _ (by omega)
           have b8 := (Below.refl w7.heap.size w7).alloc (Nat.le_refl _) (.cells #[.int .i64 l, .int .i64 (x - 2)] 94)
           have z7' := cell_kept b8 z7
           obtain ⟨v8, w8, r8, ho8, hb8, hg8⟩ := run_append_oneD (α := Int × Int) (P := Tryz.prog) (t := 32) (ty := 32) (c := 1) i9 _ 16 Tryz.underlying32 hi9 hz90 hz91 hz92 rfl (by decide) ho7 b8 (Cells.new w7 [.int .i64 l, .int .i64 (x - 2)] 94) (own_pair ⟨by omega, by omega⟩ ⟨by omega, by omega⟩) (fun f hf => by show L + 1 ≤ f; omega) (by omega) (by omega) (by omega)
           obtain ⟨a8, q8, rfl⟩ := ho8.form
           rw [List.length_append, List.length_singleton] at r8 ho8
           have c8 : Cg (fun g => L + 1 ≤ g) w7 w8 := Cg.lo ((b8.mono (by omega)).trans hb8) fun g _ hg => hg
           have hb9 := c8.at hb7 (by omega)
           have hbN : Hid ((w8.setCell ⟨L, 1, none⟩ (.slice a8 (ld.length + 1) q8)).heap[L]? = some (.cells ([.int .i64 pv, .slice a8 (ld.length + 1) q8] : List Value).toArray 182 (0, 0))) := box_set (cs := [.int .i64 pv, .slice a6 ld.length q6]) (i := 1) hb9 _
           have k8 : Cg (fun g => g = c ∨ M2 ≤ g) w7 (w8.setCell ⟨L, 1, none⟩ (.slice a8 (ld.length + 1) q8)) := (c8.more fun g _ hg => .inr (by omega)).set 1 _ (.inr hML)
           have h8 := h7.keep hcw k8 ((hc7.cg (c8.more fun g _ hg => by have := h7.lt; omega)).cg ((Cg.refl (fun g => c < g) w8).set 1 (.slice a8 (ld.length + 1) q8) (show c < L by have := h7.lt; omega)))
           have ho9 := ho8.far (p := ⟨L, 1, none⟩) (fun h => by have h : L + 1 ≤ L := h; omega) (.slice a8 (ld.length + 1) q8)
           have hr9 := (hr7.cg c8 (fun g h1 e => by omega)).far (p := ⟨L, 1, none⟩) (fun h => by have h := h.2; simp at h) (.slice a8 (ld.length + 1) q8)
           have q6c := (cells2 (box_cells hb9)).2
           have qf := frozen_of_row w8 L 1 _ _ hb9
           refine hK.out _ _ (trivial) (fun hHeld => ?_)
           clear hK K
           try simp only [Act.put, put1, put2, put3]
           refine tkY 7 (.int .i64 (x - 2)) 63 rfl rfl (fun w' hw' => ?_) hHeld ?_
           ·go_simp
           try simp only [Act.put, put1, put2, put3]
           refine tkY 8 (.agg #[.int .i64 l, .int .i64 (x - 2)]) 64 rfl rfl (fun w' hw' => ?_) hHeld ?_
           ·go_simp
           try simp only [Act.put, put1, put2, put3]
           refine wpAnyH_ready (rs := [1, 9]) (by kernel_rfl) (by simp) ?_
           refine AllReadyH.cons rfl (fun K hK => ?_) (AllReadyH.cons rfl (fun K hK => ?_) AllReadyH.nil)
           ·skip
            go_simp
            refine hK.out _ _ (trivial) (fun hHeld => ?_)
            clear hK K
            try simp only [Act.put, put1, put2, put3]
            refine wpAnyH_ready (rs := [9]) (by kernel_rfl) (by simp) ?_
            refine AllReadyH.cons rfl (fun K hK => ?_) AllReadyH.nil
            go_simp
            refine hK.out _ _ (trivial) (fun hHeld => ?_)
            clear hK K
            try simp only [Act.put, put1, put2, put3]
            refine wpAnyH_ready (rs := [10]) (by kernel_rfl) (by simp) ?_
            refine AllReadyH.cons rfl (fun K hK => ?_) AllReadyH.nil
            refine step_append_of rfl _ _ rfl rfl rfl r8 ?_
            refine hK.out _ _ (trivial) (fun hHeld => ?_)
            clear hK K
            try simp only [Act.put, put1, put2, put3]
            refine tkY 11 (.pointer (some ⟨L, 1, none⟩)) 67 rfl rfl (fun w' hw' => ?_) hHeld ?_
            ·go_simp
            try simp only [Act.put, put1, put2, put3]
            refine wpAnyH_ready (rs := [12]) (by kernel_rfl) (by simp) ?_
            refine AllReadyH.cons rfl (fun K hK => ?_) AllReadyH.nil
            go_simp
            refine hK.out _ _ (trivial) (fun hHeld => ?_)
            clear hK K
            try simp only [Act.put, put1, put2, put3]
            refine wpAnyH_done (by kernel_rfl) ?_ _
            go_wp2
            go_roundw
            case rel => exact ⟨j - 1, .slice a8 (ld.length + 1) q8, ld ++ [(l, x - 2)], by omega, hjn.out, by simp; omega, ho9, hbN, hr9, h8.mono (N' := N + 2015 + 20 * (3 - k) + 3 * (3 - (j - 1))) (by omega)⟩
            case measure => simp [intOf]; omega
           ·skip
            go_simp
            refine hK.out _ _ (trivial) (fun hHeld => ?_)
            clear hK K
            try simp only [Act.put, put1, put2, put3]
            refine wpAnyH_ready (rs := [1]) (by kernel_rfl) (by simp) ?_
            refine AllReadyH.cons rfl (fun K hK => ?_) AllReadyH.nil
            go_simp
            refine hK.out _ _ (trivial) (fun hHeld => ?_)
            clear hK K
            try simp only [Act.put, put1, put2, put3]
            refine wpAnyH_ready (rs := [10]) (by kernel_rfl) (by simp) ?_
            refine AllReadyH.cons rfl (fun K hK => ?_) AllReadyH.nil
            refine step_append_of rfl _ _ rfl rfl rfl r8 ?_
            refine hK.out _ _ (trivial) (fun hHeld => ?_)
            clear hK K
            try simp only [Act.put, put1, put2, put3]
            refine tkY 11 (.pointer (some ⟨L, 1, none⟩)) 67 rfl rfl (fun w' hw' => ?_) hHeld ?_
            ·go_simp
            try simp only [Act.put, put1, put2, put3]
            refine wpAnyH_ready (rs := [12]) (by kernel_rfl) (by simp) ?_
            refine AllReadyH.cons rfl (fun K hK => ?_) AllReadyH.nil
            go_simp
            refine hK.out _ _ (trivial) (fun hHeld => ?_)
            clear hK K
            try simp only [Act.put, put1, put2, put3]
            refine wpAnyH_done (by kernel_rfl) ?_ _
            go_wp2
            go_roundw
            case rel => exact ⟨j - 1, .slice a8 (ld.length + 1) q8, ld ++ [(l, x - 2)], by omega, hjn.out, by simp; omega, ho9, hbN, hr9, h8.mono (N' := N + 2015 + 20 * (3 - k) + 3 * (3 - (j - 1))) (by omega)⟩
            case measure => simp [intOf]; omega
        ·obtain rfl : j = 0 := by omega
         have hle := hst.le
         have hlL := block_lt hbx.out
         obtain ⟨y0, y1, y2, y3, y4, y5, y6, y7⟩ := cells8 (box_cells hst.box)
         have b7 := (Below.refl wr.heap.size wr).alloc (Nat.le_refl _) (.cells #[.int .i64 pv, .slice a6 ld.length q6] 182)
         have hOS : Own (α := LevelD) L (wr.alloc (.cells #[.int .i64 pv, .slice a6 ld.length q6] 182)) [.int .i64 pv, .slice a6 ld.length q6] ⟨pv, ld⟩ := own_level (x := ⟨pv, ld⟩) (((ownD_own ho (fun f hf => hf)).mono (Nat.le_succ L)).later b7) ⟨by show _ ≤ pv; omega, by show pv ≤ _; omega⟩
         obtain ⟨a8, q8, w8, r8, ho8, hb8, hs8⟩ := app_run (α := LevelD) (t := 25) (e := 182) (c := 1) i8 _ 32 Tryz.underlying25 hi8 hz80 hz81 hz82 rfl (by decide) (hr.later b7) (Cells.new wr [.int .i64 pv, .slice a6 ld.length q6] 182) hOS hML (by rw [World.size_alloc]; omega) (by omega) (by omega)
         have b8 : Below M2 wr w8 := (b7.mono hle.2).trans hb8
         have h8 := hst.put hcw b8 2 (.slice a8 (lv.length + 1) q8)
         have ho9 := ho8.far (p := ⟨G, 2, none⟩) (fun h => by have h : M2 ≤ G := h; omega) (.slice a8 (lv.length + 1) q8)
         have hb9 := (Cg.lo (S := fun g => M2 ≤ g) b8 fun g _ hg => hg).at hst.box (by omega)
         have q5c := (cells8 (box_cells hb9)).2.2.1
         have qf := frozen_of_row w8 G 2 _ _ hb9
         have H8 := Lib.hid h8
         have H9 := Lib.hid ho9
         clear ho hr hst hOS ho8 hb8 hb9 b8 h8 ho9
         go_wp2_with (at_builtin; refine wpList_append_of rfl _ _ rfl rfl rfl r8 ?_)
         refine (pick_calls c (N + 2015 + 20 * (3 - k) + 3 * (3 - 0)) 3 _ H8.out.cur (by omega) ⟨by omega, by omega⟩).mono ?_
         rintro e w9 ⟨s9, ⟨h90, h91, _⟩, rfl, hc9, hw9⟩
         have h91 := h91 (by omega)
         have h9 := H8.out.pick hcw hw9 hc9
         have ho9 := H9.out.cg (Cg.wrote (S := fun g => g = c) hw9 rfl) (fun g h1 e => by have := h9.lt; have h1 : M2 ≤ g := h1; omega)
         have H8 := Lib.hid h9
         have H9 := Lib.hid ho9
         clear h9 ho9
         go_wp2_with fail
         go_roundw
         case rel => exact ⟨k - 1, pv + 1 + s9, _, lv ++ [⟨pv, ld⟩], by omega, hkn.out, by go_num, by omega, by omega, by simp; omega, sm_snoc hlv (smL_of (l := ld) (by show ld.length ≤ 30; omega)), H9.out, H8.out.mono (N' := N + 2013 + 20 * (3 - (k - 1))) (by omega)⟩
         case measure => simp [intOf]; omega
      ·obtain rfl : k = 0 := by omega
       have h6 := (hst.next (ins_levels (c2 := .slice none 0 0) (p := pB n xs []) hst.fin (ownD_in ho) hst.le.1 hst.le.2) (sm_levels (p := pB n xs []) hst.sm (by omega) hlv)).mono (N' := N + 2100) (by omega)
       go_wp2_with fail
       go_meet
       exact ⟨rfl, rfl, _, lv, h6⟩
    ·have eb0 : (r == 0) = false := by simpa using e0
     go_wp2_with fail
     go_meet
     exact ⟨rfl, rfl, _, [], h3.widen.mono (by omega)⟩
   case rest =>
    obtain ⟨rfl, rfl, v2, ls, hst⟩ := hcut
    clear h1 h3
    obtain ⟨v1, hv1⟩ : ∃ v1 : Value, v1 = .slice a4 xs.length q4 := ⟨_, rfl⟩
    rw [← hv1] at hst
    clear hv1
    go_upto_if 81 with (go_at_call 62; refine (pick_calls c (N + 2100) 4 _ hst.cur (by omega) ⟨by omega, by omega⟩).mono ?_; rintro e w3 ⟨r, ⟨hr0, hr1, _⟩, rfl, hc3, hw3⟩)
    have h3 := hst.pick hcw hw3 hc3
    clear hst hw3 hc3
    go_cut [3, 4] (fun a b wz => a = .int .i64 n ∧ b = .pointer (some ⟨G, 0, none⟩) ∧ ∃ on v4 pj, PS w c (N + 2200) G wz.heap.size wz (bxC n v1 v2 on v4) (bxC n v1 v2 on v4) (pC n xs ls on pj))
    case first =>
     by_cases e0 : r = 0
     ·subst e0
      have h4 := h3.widen.put hcw (Below.refl _ _) 3 (.bool true)
      obtain ⟨M4, hM4⟩ : ∃ M4, M4 = w3.heap.size := ⟨_, rfl⟩
      rw [← hM4] at h4
      have hl3 := h3.blt
      obtain ⟨z0, z1, z2, z3, z4, z5, z6, z7⟩ := cells8 (box_cells h3.box)
      have zf := frozen_of_row w3 G 3 _ _ h3.box
      go_wp2_with fail
      obtain ⟨wb, hwb⟩ : ∃ wb, wb = w3.setCell ⟨G, 3, none⟩ (.bool true) := ⟨_, rfl⟩
      rw [← hwb] at h4 ⊢
      clear hwb z0 z1 z2 z3 z4 z5 z6 z7 zf h3 hM4
      go_loopw [10] (fun i wr => ∃ (k : Nat) (v : Value) (pj : List Int), (k : Int) ≤ n ∧ i = .int .i64 ((k : Int) + 1) ∧ pj.length ≤ k ∧ OwnI M4 wr v pj ∧ PS w c (N + 2101 + k) G M4 wr (bxC n v1 v2 true v) (bxB n v1 v2) (pB n xs ls)) (fun i _ => 20 - (intOf i).toNat)
      case atStart => exact ⟨0, _, [], by omega, rfl, by simp, ⟨World.ownsRow_nil _ _ _ _, by simp, fun n hn => by cases hn⟩, h4⟩
      case round =>
       obtain ⟨k, v, pj, hk, rfl, hlen, ho, hst⟩ := hrel
       clear h4
       by_cases hlt : (k : Int) < n
       ·have hle : ((k : Int) + 1 ≤ n) := by omega
        have hF : Fits ((k : Int) + 1) := ⟨by omega, by omega⟩
        go_wp2_with fail
        refine (pick_calls c (N + 2101 + k) 2 _ hst.cur (by omega) ⟨by omega, by omega⟩).mono ?_
        rintro e w5 ⟨s, ⟨hs0, hs1, _⟩, rfl, hc5, hw5⟩
        have h5 := hst.pick hcw hw5 hc5
        have hle5 := h5.le
        have ho5 : OwnI M4 w5 v pj := ho.cg (Cg.wrote (S := fun g => g = c) hw5 rfl) (fun g h1 => by have := h5.lt; omega)
        by_cases ez : s = 0
        ·subst ez
         obtain ⟨z0, z1, z2, z3, z4, z5, z6, z7⟩ := cells8 (box_cells h5.box)
         go_wp2_with (at_builtin; refine wpList_append_int rfl _ _ rfl rfl ho5 rfl (by omega) hF (by omega) ?_; intro v' w' ho' hb' hg'; obtain ⟨a9, n9, rfl, _, _⟩ := ho'.open; rw [List.length_append, List.length_singleton] at ho'; have hb9 := (Cg.lo (S := fun g => M4 ≤ g) hb' fun g _ hg => hg).at h5.box (by omega); obtain ⟨q0, q1, q2, q3, q4, q5, q6, q7⟩ := cells8 (box_cells hb9); have qf := frozen_of_row w' G 4 _ _ hb9)
         go_roundw
         case rel => exact ⟨k + 1, .slice a9 (pj.length + 1) n9, pj ++ [(k : Int) + 1], by omega, by go_num, by simp; omega, ho'.cg ((Cg.refl (fun g => g = G) w').set 4 _ rfl) (fun g h1 => by omega), (h5.put hcw hb' 4 (.slice a9 (pj.length + 1) n9)).mono (N' := N + 2101 + (k + 1)) (by omega)⟩
         case measure => simp [intOf]; omega
        ·have ezb : (s == 0) = false := by simpa using ez
         go_wp2_with fail
         go_roundw
         case rel => exact ⟨k + 1, v, pj, by omega, by go_num, by omega, ho5, h5.mono (N' := N + 2101 + (k + 1)) (by omega)⟩
         case measure => simp [intOf]; omega
       ·obtain rfl : (k : Int) = n := by omega
        go_wp2_with fail
        go_meet
        exact ⟨rfl, rfl, true, v, pj, (hst.next (ins_project (c4 := .slice none 0 0) (p := pC k xs ls true []) (on_proj (p := pB k xs ls) hst.fin true) ho.own.shut hst.le.1 hst.le.2) (sm_project (p := pC k xs ls true []) hst.sm (by omega))).mono (by omega)⟩
     ·have eb0 : (r == 0) = false := by simpa using e0
      go_wp2_with fail
      go_meet
      exact ⟨rfl, rfl, false, _, [], h3.widen.mono (by omega)⟩
    case rest =>
     obtain ⟨rfl, rfl, on, v4, pj, hst⟩ := hcut
     clear h3
     go_upto_block 8 with (go_at_call 62; refine (pick_calls c (N + 2200) 3 _ hst.cur (by omega) ⟨by omega, by omega⟩).mono ?_; rintro e w3 ⟨r, ⟨hr0, hr1, _⟩, rfl, hc3, hw3⟩)
     have h3 := hst.pick hcw hw3 hc3
     have hr1 := hr1 (by omega)
     clear hst hw3 hc3
     go_cut [3, 4] (fun a b wz => a = .int .i64 n ∧ b = .pointer (some ⟨G, 0, none⟩) ∧ ∃ v5 sh, PS w c (N + 2400) G wz.heap.size wz (bxD n v1 v2 on v4 v5) (bxD n v1 v2 on v4 v5) (pD n xs ls on pj sh))
     case first =>
      obtain ⟨rn, rfl⟩ := Int.eq_ofNat_of_zero_le hr0
      have h3 := h3.widen
      obtain ⟨M5, hM5⟩ : ∃ M5, M5 = w3.heap.size := ⟨_, rfl⟩
      rw [← hM5] at h3
      clear hM5
      go_wp2_with fail
      go_loopw [11] (fun i wr => ∃ (k : Nat) (v : Value) (sh : List ShowD), k ≤ 2 ∧ i = .int .i64 (k : Int) ∧ sh.length + k ≤ 2 ∧ (∀ x ∈ sh, SmW x) ∧ OwnD (α := ShowD) M5 (fun g => M5 ≤ g) 185 wr v sh ∧ PS w c (N + 2201 + 50 * (2 - k)) G M5 wr (bxD n v1 v2 on v4 v) (bxC n v1 v2 on v4) (pC n xs ls on pj)) (fun i _ => (intOf i).toNat)
      case atStart => exact ⟨rn, _, [], by omega, rfl, by simp; omega, by simp, ownD_nil, h3.mono (N' := N + 2201 + 50 * (2 - rn)) (by omega)⟩
      case round =>
       obtain ⟨k, v, sh, hk, rfl, hlen, hsh, ho, hst⟩ := hrel
       clear h3
       obtain ⟨a4, q4, rfl⟩ := ho.form
       by_cases hlt : 0 < k
       ·have hkI : 0 < (k : Int) := by omega
        have hkn : Hid (Value.int .i64 ((k : Int) - 1) = .int .i64 ((k - 1 : Nat) : Int)) := by show _ = _; rw [show ((k : Int) - 1) = ((k - 1 : Nat) : Int) by omega]
        obtain ⟨wo, rfl⟩ : ∃ wo, wo = wr := ⟨_, rfl⟩
        have hle := hst.le
        have hlG := hst.lt
        have CT := Cells.new wo [.string ⟨#[97]⟩, .string ⟨#[98, 40, 49, 41]⟩, .string ⟨#[99]⟩, .string ⟨#[108, 111, 110, 103, 95, 110, 97, 109, 101, 40, 120, 44, 121, 41]⟩, .string ⟨#[126]⟩] 9
        have bT := (Below.refl wo.heap.size wo).alloc (Nat.le_refl _) (.cells #[.string ⟨#[97]⟩, .string ⟨#[98, 40, 49, 41]⟩, .string ⟨#[99]⟩, .string ⟨#[108, 111, 110, 103, 95, 110, 97, 109, 101, 40, 120, 44, 121, 41]⟩, .string ⟨#[126]⟩] 9)
        go_wp2_with fail
        refine (pick_calls c (N + 2201 + 50 * (2 - k)) 5 _ (hst.cur.kept bT) (by omega) ⟨by omega, by omega⟩).mono ?_
        rintro e w5 ⟨i5', ⟨h50, h51, _⟩, rfl, hc5, hw5⟩
        have h51 := h51 (by omega)
        obtain ⟨m5, rfl⟩ := Int.eq_ofNat_of_zero_le h50
        have hm5 : m5 < 5 := by omega
        have hz5 := hw5.size
        rw [World.size_alloc] at hz5
        have hck := (CT.kept ((Cg.wrote (S := fun g => g = c) hw5 rfl).block wo.heap.size (by simp) (by omega))) m5 (.string (tx5 m5)) (tx5_at hm5)
        rw [Nat.zero_add] at hck
        have htx := tx5_size hm5
        have hcgc : Cg (fun g => g = c) wo w5 := (Cg.below bT).trans (Cg.wrote hw5 rfl)
        have h5 := hst.keep hcw (hcgc.more fun g _ hg => .inl hg) hc5
        have ho5 := (ownD_below ho).cg hcgc (fun g h1 h2 => by omega)
        generalize tx5 m5 = tx at *
        have bS := (Below.refl w5.heap.size w5).alloc (Nat.le_refl _) (.cells #[.string tx, .slice none 0 0] 185)
        clear ho hst CT bT
        go_wp2_with fail
        refine (pick_calls c (N + 2202 + 50 * (2 - k)) 3 _ ((hc5.mono (by omega)).kept bS) (by omega) ⟨by omega, by omega⟩).mono ?_
        rintro e w6 ⟨j6, ⟨h60, h61, _⟩, rfl, hc6, hw6⟩
        have h61 := h61 (by omega)
        obtain ⟨j0, rfl⟩ := Int.eq_ofNat_of_zero_le h60
        have hz6 := hw6.size
        rw [World.size_alloc] at hz6
        obtain ⟨L, hL⟩ : ∃ L, L = w5.heap.size := ⟨_, rfl⟩
        have hML : M5 ≤ L := by omega
        have hcg6 : Cg (fun g => g = c) w5 w6 := (Cg.below bS).trans (Cg.wrote hw6 rfl)
        have hb0 : Hid (w6.heap[L]? = some (.cells ([.string tx, .slice none 0 0] : List Value).toArray 185 (0, 0))) := by
         show _ = _
         rw [hL]
         exact (Cg.wrote (S := fun g => g = c) hw6 rfl).at (alloc_block w5 _ _) (by omega)
        have h6 := (h5.mono (N' := N + 2202 + 50 * (2 - k)) (by omega)).keep hcw (hcg6.more fun g _ hg => .inl hg) hc6
        have ho6 : OwnD (α := ShowD) M5 (fun f => M5 ≤ f ∧ f < L) 185 w6 (.slice a4 sh.length q4) sh := (ho5.cg hcg6 (fun g h1 h2 => by omega)).weak (Nat.le_refl _) fun f hf => ⟨hf.1, by omega⟩
        rw [← hL]
        clear ho5 h5 bS hw6 hc6 hcg6 hw5 hc5 hcgc hck hL hz6 hz5 h51
        go_wp2_with fail
        go_loopw [13] (fun i wr => ∃ (j : Nat) (v : Value) (cd : List Int), j ≤ 2 ∧ i = .int .i64 (j : Int) ∧ cd.length + j ≤ 2 ∧ OwnD (α := Int) (L + 1) (fun g => L + 1 ≤ g) 3 wr v cd ∧ Hid (wr.heap[L]? = some (.cells ([.string tx, v] : List Value).toArray 185 (0, 0))) ∧ OwnD (α := ShowD) M5 (fun f => M5 ≤ f ∧ f < L) 185 wr (.slice a4 sh.length q4) sh ∧ PS w c (N + 2203 + 50 * (2 - k) + 2 * (2 - j)) G M5 wr (bxD n v1 v2 on v4 (.slice a4 sh.length q4)) (bxC n v1 v2 on v4) (pC n xs ls on pj)) (fun i _ => (intOf i).toNat)
        case atStart => exact ⟨j0, _, [], by omega, rfl, by simp; omega, ownD_nil, hb0, ho6, h6.mono (N' := N + 2203 + 50 * (2 - k) + 2 * (2 - j0)) (by omega)⟩
        case round =>
         obtain ⟨j, v, cd, hj, rfl, hlen2, ho, hbx, hr, hst⟩ := hrel
         clear h6 ho6 hb0
         obtain ⟨a6, q6, rfl⟩ := ho.form
         obtain ⟨u0, u1⟩ := cells2 (box_cells hbx.out)
         by_cases hltj : 0 < j
         ·have hjI : 0 < (j : Int) := by omega
          have hjn : Hid (Value.int .i64 ((j : Int) - 1) = .int .i64 ((j - 1 : Nat) : Int)) := by show _ = _; rw [show ((j : Int) - 1) = ((j - 1 : Nat) : Int) by omega]
          go_upto_region 33 with fail
          refine wp_region_held_drew (S := fun _ => True) (by kernel_rfl) trivial (fun hHeld => ?_)
          refine tkY 0 (.pointer (some ⟨L, 1, none⟩)) 115 rfl rfl (fun w' hw' => ?_) hHeld ?_
          ·go_simp
          try simp only [Act.put, put1, put2, put3]
          refine tkY 2 (.pointer (some ⟨c, 0, none⟩)) 117 rfl rfl (fun w' hw' => ?_) hHeld ?_
          ·go_simp
          try simp only [Act.put, put1, put2, put3]
          refine tkY 3 (.int .i64 n) 118 rfl rfl (fun w' hw' => ?_) hHeld ?_
          ·go_simp
          try simp only [Act.put, put1, put2, put3]
          refine wpAnyH_ready (rs := [1, 4]) (by kernel_rfl) (by simp) ?_
          refine AllReadyH.cons rfl (fun K hK => ?_) (AllReadyH.cons rfl (fun K hK => ?_) AllReadyH.nil)
          ·go_simp
           refine hK.out _ _ (trivial) (fun hHeld => ?_)
           clear hK K
           try simp only [Act.put, put1, put2, put3]
           refine wpAnyH_ready (rs := [4]) (by kernel_rfl) (by simp) ?_
           refine AllReadyH.cons rfl (fun K hK => ?_) AllReadyH.nil
           go_simp
           refine (lit_calls c (N + 2203 + 50 * (2 - k) + 2 * (2 - j)) n wr.drew (hst.cur.kept (Below.refl _ _).drew) (by omega) ⟨by omega, by omega⟩).mono ?_
           rintro e w6 ⟨l, rfl, ⟨hl0, hl1⟩, hc6, hw6⟩
           have hW6 : Wrote c wr w6 := ((Wrote.refl c _).drewN 1).trans hw6
           have h6 := hst.pick hcw hW6 hc6
           have hle6 := h6.le
           have hz6 := hW6.size
           have ho6 := ho.cg (Cg.wrote (S := fun g => g = c) hW6 rfl) (fun g h1 e => by have := h6.lt; have h1 : L + 1 ≤ g := h1; omega)
           have hr6 := hr.cg (Cg.wrote (S := fun g => g = c) hW6 rfl) (fun g h1 e => by have := h6.lt; omega)
           have hb6 := (Cg.wrote (S := fun g => g = c) hW6 rfl).at hbx.out (by have := h6.lt; omega)
           have z6 := (cells2 (box_cells hb6)).2
           have hlL := block_lt hb6
           have b7 := (Below.refl w6.heap.size w6).alloc (Nat.le_refl _) (.cells #[.int .i64 l] 3)
           have z6' := cell_kept b7 z6
           obtain ⟨v8, w8, r8, ho8, hb8, hg8⟩ := run_append_oneD (α := Int) (P := Tryz.prog) (t := 26) (ty := 26) (c := 1) i7 _ 8 Tryz.underlying26 hi7 hz70 hz71 hz72 rfl (by decide) ho6 b7 (Cells.new w6 [.int .i64 l] 3) (own_int ⟨by omega, by omega⟩) (fun f hf => by show L + 1 ≤ f; omega) (by omega) (by omega) (by omega)
           obtain ⟨a8, q8, rfl⟩ := ho8.form
           rw [List.length_append, List.length_singleton] at r8 ho8
           have b8 : Below (L + 1) w6 w8 := (b7.mono (by omega)).trans hb8
           have c8 : Cg (fun g => L + 1 ≤ g) w6 w8 := Cg.lo b8 fun g _ hg => hg
           have hb9 := c8.at hb6 (by omega)
           have hbN : Hid ((w8.setCell ⟨L, 1, none⟩ (.slice a8 (cd.length + 1) q8)).heap[L]? = some (.cells ([.string tx, .slice a8 (cd.length + 1) q8] : List Value).toArray 185 (0, 0))) := box_set (cs := [.string tx, .slice a6 cd.length q6]) (i := 1) hb9 _
           have k8 : Cg (fun g => g = c ∨ M5 ≤ g) w6 (w8.setCell ⟨L, 1, none⟩ (.slice a8 (cd.length + 1) q8)) := (c8.more fun g _ hg => .inr (by omega)).set 1 _ (.inr hML)
           have h8 := h6.keep hcw k8 ((hc6.cg (c8.more fun g _ hg => by omega)).cg ((Cg.refl (fun g => c < g) w8).set 1 (.slice a8 (cd.length + 1) q8) (show c < L by omega)))
           have ho9 := ho8.far (p := ⟨L, 1, none⟩) (fun h => by have h : L + 1 ≤ L := h; omega) (.slice a8 (cd.length + 1) q8)
           have hr9 := (hr6.cg c8 (fun g h1 e => by omega)).far (p := ⟨L, 1, none⟩) (fun h => by have h := h.2; simp at h) (.slice a8 (cd.length + 1) q8)
           have q6c := (cells2 (box_cells hb9)).2
           have qf := frozen_of_row w8 L 1 _ _ hb9
           refine hK.out _ _ (trivial) (fun hHeld => ?_)
           clear hK K
           try simp only [Act.put, put1, put2, put3]
           refine wpAnyH_ready (rs := [5]) (by kernel_rfl) (by simp) ?_
           refine AllReadyH.cons rfl (fun K hK => ?_) AllReadyH.nil
           go_simp
           refine hK.out _ _ (trivial) (fun hHeld => ?_)
           clear hK K
           try simp only [Act.put, put1, put2, put3]
           refine wpAnyH_ready (rs := [6]) (by kernel_rfl) (by simp) ?_
           refine AllReadyH.cons rfl (fun K hK => ?_) AllReadyH.nil
           refine step_append_of rfl _ _ rfl rfl rfl r8 ?_
           refine hK.out _ _ (trivial) (fun hHeld => ?_)
           clear hK K
           try simp only [Act.put, put1, put2, put3]
           refine tkY 7 (.pointer (some ⟨L, 1, none⟩)) 122 rfl rfl (fun w' hw' => ?_) hHeld ?_
           ·go_simp
           try simp only [Act.put, put1, put2, put3]
           refine wpAnyH_ready (rs := [8]) (by kernel_rfl) (by simp) ?_
           refine AllReadyH.cons rfl (fun K hK => ?_) AllReadyH.nil
           go_simp
           refine hK.out _ _ (trivial) (fun hHeld => ?_)
           clear hK K
           try simp only [Act.put, put1, put2, put3]
           refine wpAnyH_done (by kernel_rfl) ?_ _
           go_wp2
           go_roundw
           case rel => exact ⟨j - 1, .slice a8 (cd.length + 1) q8, cd ++ [l], by omega, hjn.out, by simp; omega, ho9, hbN, hr9, h8.mono (N' := N + 2203 + 50 * (2 - k) + 2 * (2 - (j - 1))) (by omega)⟩
           case measure => simp [intOf]; omega
          ·skip
           go_simp
           refine (lit_calls c (N + 2203 + 50 * (2 - k) + 2 * (2 - j)) n wr.drew (hst.cur.kept (Below.refl _ _).drew) (by omega) ⟨by omega, by omega⟩).mono ?_
           rintro e w6 ⟨l, rfl, ⟨hl0, hl1⟩, hc6, hw6⟩
           have hW6 : Wrote c wr w6 := ((Wrote.refl c _).drewN 1).trans hw6
           have h6 := hst.pick hcw hW6 hc6
           have hle6 := h6.le
           have hz6 := hW6.size
           have ho6 := ho.cg (Cg.wrote (S := fun g => g = c) hW6 rfl) (fun g h1 e => by have := h6.lt; have h1 : L + 1 ≤ g := h1; omega)
           have hr6 := hr.cg (Cg.wrote (S := fun g => g = c) hW6 rfl) (fun g h1 e => by have := h6.lt; omega)
           have hb6 := (Cg.wrote (S := fun g => g = c) hW6 rfl).at hbx.out (by have := h6.lt; omega)
           have z6 := (cells2 (box_cells hb6)).2
           have hlL := block_lt hb6
           have b7 := (Below.refl w6.heap.size w6).alloc (Nat.le_refl _) (.cells #[.int .i64 l] 3)
           have z6' := cell_kept b7 z6
           obtain ⟨v8, w8, r8, ho8, hb8, hg8⟩ := run_append_oneD (α := Int) (P := Tryz.prog) (t := 26) (ty := 26) (c := 1) i7 _ 8 Tryz.underlying26 hi7 hz70 hz71 hz72 rfl (by decide) ho6 b7 (Cells.new w6 [.int .i64 l] 3) (own_int ⟨by omega, by omega⟩) (fun f hf => by show L + 1 ≤ f; omega) (by omega) (by omega) (by omega)
           obtain ⟨a8, q8, rfl⟩ := ho8.form
           rw [List.length_append, List.length_singleton] at r8 ho8
           have b8 : Below (L + 1) w6 w8 := (b7.mono (by omega)).trans hb8
           have c8 : Cg (fun g => L + 1 ≤ g) w6 w8 := Cg.lo b8 fun g _ hg => hg
           have hb9 := c8.at hb6 (by omega)
           have hbN : Hid ((w8.setCell ⟨L, 1, none⟩ (.slice a8 (cd.length + 1) q8)).heap[L]? = some (.cells ([.string tx, .slice a8 (cd.length + 1) q8] : List Value).toArray 185 (0, 0))) := box_set (cs := [.string tx, .slice a6 cd.length q6]) (i := 1) hb9 _
           have k8 : Cg (fun g => g = c ∨ M5 ≤ g) w6 (w8.setCell ⟨L, 1, none⟩ (.slice a8 (cd.length + 1) q8)) := (c8.more fun g _ hg => .inr (by omega)).set 1 _ (.inr hML)
           have h8 := h6.keep hcw k8 ((hc6.cg (c8.more fun g _ hg => by omega)).cg ((Cg.refl (fun g => c < g) w8).set 1 (.slice a8 (cd.length + 1) q8) (show c < L by omega)))
           have ho9 := ho8.far (p := ⟨L, 1, none⟩) (fun h => by have h : L + 1 ≤ L := h; omega) (.slice a8 (cd.length + 1) q8)
           have hr9 := (hr6.cg c8 (fun g h1 e => by omega)).far (p := ⟨L, 1, none⟩) (fun h => by have h := h.2; simp at h) (.slice a8 (cd.length + 1) q8)
           have q6c := (cells2 (box_cells hb9)).2
           have qf := frozen_of_row w8 L 1 _ _ hb9
           refine hK.out _ _ (trivial) (fun hHeld => ?_)
           clear hK K
           try simp only [Act.put, put1, put2, put3]
           refine wpAnyH_ready (rs := [1, 5]) (by kernel_rfl) (by simp) ?_
           refine AllReadyH.cons rfl (fun K hK => ?_) (AllReadyH.cons rfl (fun K hK => ?_) AllReadyH.nil)
           ·go_simp
            refine hK.out _ _ (trivial) (fun hHeld => ?_)
            clear hK K
            try simp only [Act.put, put1, put2, put3]
            refine wpAnyH_ready (rs := [5]) (by kernel_rfl) (by simp) ?_
            refine AllReadyH.cons rfl (fun K hK => ?_) AllReadyH.nil
            go_simp
            refine hK.out _ _ (trivial) (fun hHeld => ?_)
            clear hK K
            try simp only [Act.put, put1, put2, put3]
            refine wpAnyH_ready (rs := [6]) (by kernel_rfl) (by simp) ?_
            refine AllReadyH.cons rfl (fun K hK => ?_) AllReadyH.nil
            refine step_append_of rfl _ _ rfl rfl rfl r8 ?_
            refine hK.out _ _ (trivial) (fun hHeld => ?_)
            clear hK K
            try simp only [Act.put, put1, put2, put3]
            refine tkY 7 (.pointer (some ⟨L, 1, none⟩)) 122 rfl rfl (fun w' hw' => ?_) hHeld ?_
            ·go_simp
            try simp only [Act.put, put1, put2, put3]
            refine wpAnyH_ready (rs := [8]) (by kernel_rfl) (by simp) ?_
            refine AllReadyH.cons rfl (fun K hK => ?_) AllReadyH.nil
            go_simp
            refine hK.out _ _ (trivial) (fun hHeld => ?_)
            clear hK K
            try simp only [Act.put, put1, put2, put3]
            refine wpAnyH_done (by kernel_rfl) ?_ _
            go_wp2
            go_roundw
            case rel => exact ⟨j - 1, .slice a8 (cd.length + 1) q8, cd ++ [l], by omega, hjn.out, by simp; omega, ho9, hbN, hr9, h8.mono (N' := N + 2203 + 50 * (2 - k) + 2 * (2 - (j - 1))) (by omega)⟩
            case measure => simp [intOf]; omega
           ·go_simp
            refine hK.out _ _ (trivial) (fun hHeld => ?_)
            clear hK K
            try simp only [Act.put, put1, put2, put3]
            refine wpAnyH_ready (rs := [1]) (by kernel_rfl) (by simp) ?_
            refine AllReadyH.cons rfl (fun K hK => ?_) AllReadyH.nil
            go_simp
            refine hK.out _ _ (trivial) (fun hHeld => ?_)
            clear hK K
            try simp only [Act.put, put1, put2, put3]
            refine wpAnyH_ready (rs := [6]) (by kernel_rfl) (by simp) ?_
            refine AllReadyH.cons rfl (fun K hK => ?_) AllReadyH.nil
            refine step_append_of rfl _ _ rfl rfl rfl r8 ?_
            refine hK.out _ _ (trivial) (fun hHeld => ?_)
            clear hK K
            try simp only [Act.put, put1, put2, put3]
            refine tkY 7 (.pointer (some ⟨L, 1, none⟩)) 122 rfl rfl (fun w' hw' => ?_) hHeld ?_
            ·go_simp
            try simp only [Act.put, put1, put2, put3]
            refine wpAnyH_ready (rs := [8]) (by kernel_rfl) (by simp) ?_
            refine AllReadyH.cons rfl (fun K hK => ?_) AllReadyH.nil
            go_simp
            refine hK.out _ _ (trivial) (fun hHeld => ?_)
            clear hK K
            try simp only [Act.put, put1, put2, put3]
            refine wpAnyH_done (by kernel_rfl) ?_ _
            go_wp2
            go_roundw
            case rel => exact ⟨j - 1, .slice a8 (cd.length + 1) q8, cd ++ [l], by omega, hjn.out, by simp; omega, ho9, hbN, hr9, h8.mono (N' := N + 2203 + 50 * (2 - k) + 2 * (2 - (j - 1))) (by omega)⟩
            case measure => simp [intOf]; omega
         ·obtain rfl : j = 0 := by omega
          have hle := hst.le
          have hlL := block_lt hbx.out
          obtain ⟨y0, y1, y2, y3, y4, y5, y6, y7⟩ := cells8 (box_cells hst.box)
          have b7 := (Below.refl wr.heap.size wr).alloc (Nat.le_refl _) (.cells #[.string tx, .slice a6 cd.length q6] 185)
          have hOS : Own (α := ShowD) L (wr.alloc (.cells #[.string tx, .slice a6 cd.length q6] 185)) [.string tx, .slice a6 cd.length q6] ⟨tx, cd⟩ := own_show (x := ⟨tx, cd⟩) (((ownD_own ho (fun f hf => hf)).mono (Nat.le_succ L)).later b7) htx
          obtain ⟨a8, q8, w8, r8, ho8, hb8, hs8⟩ := app_run (α := ShowD) (t := 27) (e := 185) (c := 1) i5 _ 40 Tryz.underlying27 hi5 hz50 hz51 hz52 rfl (by decide) (hr.later b7) (Cells.new wr [.string tx, .slice a6 cd.length q6] 185) hOS hML (by rw [World.size_alloc]; omega) (by omega) (by omega)
          have b8 : Below M5 wr w8 := (b7.mono hle.2).trans hb8
          have h8 := hst.put hcw b8 5 (.slice a8 (sh.length + 1) q8)
          have ho9 := ho8.far (p := ⟨G, 5, none⟩) (fun h => by have h : M5 ≤ G := h; omega) (.slice a8 (sh.length + 1) q8)
          have hb9 := (Cg.lo (S := fun g => M5 ≤ g) b8 fun g _ hg => hg).at hst.box (by omega)
          have q5c := (cells8 (box_cells hb9)).2.2.2.2.2.1
          have qf := frozen_of_row w8 G 5 _ _ hb9
          have H8 := Lib.hid h8
          have H9 := Lib.hid ho9
          clear ho hr hst hOS ho8 hb8 hb9 b8 h8 ho9
          go_wp2_with (at_builtin; refine wpList_append_of rfl _ _ rfl rfl rfl r8 ?_)
          go_roundw
          case rel => exact ⟨k - 1, _, sh ++ [⟨tx, cd⟩], by omega, hkn.out, by simp; omega, sm_snoc hsh (smW_of (l := cd) (by show cd.length ≤ 30; omega)), H9.out, H8.out.mono (N' := N + 2201 + 50 * (2 - (k - 1))) (by omega)⟩
          case measure => simp [intOf]; omega
       ·obtain rfl : k = 0 := by omega
        have h6 := (hst.next (ins_shows (c5 := .slice none 0 0) (p := pC n xs ls on pj) hst.fin (ownD_in ho) hst.le.1 hst.le.2) (sm_shows (p := pC n xs ls on pj) hst.sm (by omega) hsh)).mono (N' := N + 2400) (by omega)
        go_wp2_with fail
        go_meet
        exact ⟨rfl, rfl, _, sh, h6⟩
     case rest =>
      obtain ⟨rfl, rfl, v5, sh, hst⟩ := hcut
      clear h3
      obtain ⟨M6, hM6⟩ : ∃ M6, M6 = wc.heap.size := ⟨_, rfl⟩
      rw [← hM6] at hst
      clear hM6
      go_upto_block 12 with fail
      go_cut [3, 4] (fun a b wz => a = .int .i64 n ∧ b = .pointer (some ⟨G, 0, none⟩) ∧ ∃ v6 es, PS w c (N + 2500) G wz.heap.size wz (bxE n v1 v2 on v4 v5 v6) (bxE n v1 v2 on v4 v5 v6) (pE n xs ls on pj sh es))
      case first =>
       go_wp2_with fail
       go_loopw [14] (fun i wr => ∃ (k : Nat) (v : Value) (es : List (Int × Int)), (k : Int) ≤ n ∧ i = .int .i64 ((k : Int) + 1) ∧ es.length ≤ k ∧ OwnD (α := Int × Int) M6 (fun g => M6 ≤ g) 132 wr v es ∧ PS w c (N + 2400 + 2 * k) G M6 wr (bxE n v1 v2 on v4 v5 v) (bxD n v1 v2 on v4 v5) (pD n xs ls on pj sh)) (fun i _ => 20 - (intOf i).toNat)
       case atStart => exact ⟨0, _, [], by omega, rfl, by simp, ownD_nil, hst⟩
       case round =>
        obtain ⟨k, v, es, hk, rfl, hlen, ho, hst⟩ := hrel
        obtain ⟨a4, q4, rfl⟩ := ho.form
        by_cases hlt : (k : Int) < n
        ·have hle : ((k : Int) + 1 ≤ n) := by omega
         go_wp2_with fail
         refine (pick_calls c (N + 2400 + 2 * k) 9 _ hst.cur (by omega) ⟨by omega, by omega⟩).mono ?_
         rintro e w5 ⟨s, ⟨hs0, hs1, _⟩, rfl, hc5, hw5⟩
         have h5 := hst.pick hcw hw5 hc5
         have hle5 := h5.le
         have ho5 := ho.cg (Cg.wrote (S := fun g => g = c) hw5 rfl) (fun g h1 e => by have := h5.lt; have h1 : M6 ≤ g := h1; omega)
         by_cases ez : s = 0
         ·subst ez
          obtain ⟨y0, y1, y2, y3, y4, y5, y6, y7⟩ := cells8 (box_cells h5.box)
          go_upto_region 39 with fail
          refine wp_region_held_drew (S := fun _ => True) (by kernel_rfl) trivial (fun hHeld => ?_)
          refine tkY 0 (.pointer (some ⟨G, 6, none⟩)) 137 rfl rfl (fun w' hw' => ?_) hHeld ?_
          ·go_simp
          try simp only [Act.put, put1, put2, put3]
          refine tkY 2 (.int .i64 ((k : Int) + 1)) 139 rfl rfl (fun w' hw' => ?_) hHeld ?_
          ·go_simp
          try simp only [Act.put, put1, put2, put3]
          refine tkY 3 (.pointer (some ⟨c, 0, none⟩)) 140 rfl rfl (fun w' hw' => ?_) hHeld ?_
          ·go_simp
          try simp only [Act.put, put1, put2, put3]
          refine wpAnyH_ready (rs := [1, 4]) (by kernel_rfl) (by simp) ?_
          refine AllReadyH.cons rfl (fun K hK => ?_) (AllReadyH.cons rfl (fun K hK => ?_) AllReadyH.nil)
          ·go_simp
           refine hK.out _ _ (trivial) (fun hHeld => ?_)
           clear hK K
           try simp only [Act.put, put1, put2, put3]
           refine wpAnyH_ready (rs := [4]) (by kernel_rfl) (by simp) ?_
           refine AllReadyH.cons rfl (fun K hK => ?_) AllReadyH.nil
           go_simp
           refine (pick_calls c (N + 2400 + 2 * k + 1) 3 w5.drew (h5.cur.kept (Below.refl _ _).drew) (by omega) ⟨by omega, by omega⟩).mono ?_
           rintro e w6 ⟨l, ⟨hl0, hl1, _⟩, rfl, hc6, hw6⟩
           have hl1 := hl1 (by omega)
           have hW6 : Wrote c w5 w6 := ((Wrote.refl c _).drewN 1).trans hw6
           have h6 := h5.pick hcw hW6 hc6
           have hle6 := h6.le
           have ho6 := ho5.cg (Cg.wrote (S := fun g => g = c) hW6 rfl) (fun g h1 e => by have := h6.lt; have h1 : M6 ≤ g := h1; omega)
           have z6 := (cells8 (box_cells h6.box)).2.2.2.2.2.2.1
           have b7 := (Below.refl w6.heap.size w6).alloc (Nat.le_refl _) (.cells #[.int .i64 ((k : Int) + 1), .int .i64 l] 132)
           have z6' := cell_kept b7 z6
           obtain ⟨v8, w8, r8, ho8, hb8, hg8⟩ := run_append_oneD (α := Int × Int) (P := Tryz.prog) (t := 28) (ty := 28) (c := 1) i6 _ 16 Tryz.underlying28 hi6 hz60 hz61 hz62 rfl (by decide) ho6 b7 (Cells.new w6 [.int .i64 ((k : Int) + 1), .int .i64 l] 132) (own_pair ⟨by omega, by omega⟩ ⟨by omega, by omega⟩) (fun f hf => Nat.le_trans hle6.2 hf) (by omega) (by omega) hle6.2
           obtain ⟨a8, q8, rfl⟩ := ho8.form
           rw [List.length_append, List.length_singleton] at r8 ho8
           have b8 : Below M6 w6 w8 := (b7.mono hle6.2).trans hb8
           have h8 := h6.put hcw b8 6 (.slice a8 (es.length + 1) q8)
           have ho9 := ho8.far (p := ⟨G, 6, none⟩) (fun h => by have h : M6 ≤ G := h; omega) (.slice a8 (es.length + 1) q8)
           have hb9 := (Cg.lo (S := fun g => M6 ≤ g) b8 fun g _ hg => hg).at h6.box (by omega)
           have q6c := (cells8 (box_cells hb9)).2.2.2.2.2.2.1
           have qf := frozen_of_row w8 G 6 _ _ hb9
           refine hK.out _ _ (trivial) (fun hHeld => ?_)
           clear hK K
           try simp only [Act.put, put1, put2, put3]
           refine tkY 5 (.agg #[.int .i64 ((k : Int) + 1), .int .i64 l]) 142 rfl rfl (fun w' hw' => ?_) hHeld ?_
           ·go_simp
           try simp only [Act.put, put1, put2, put3]
           refine wpAnyH_ready (rs := [6]) (by kernel_rfl) (by simp) ?_
           refine AllReadyH.cons rfl (fun K hK => ?_) AllReadyH.nil
           go_simp
           refine hK.out _ _ (trivial) (fun hHeld => ?_)
           clear hK K
           try simp only [Act.put, put1, put2, put3]
           refine wpAnyH_ready (rs := [7]) (by kernel_rfl) (by simp) ?_
           refine AllReadyH.cons rfl (fun K hK => ?_) AllReadyH.nil
           refine step_append_of rfl _ _ rfl rfl rfl r8 ?_
           refine hK.out _ _ (trivial) (fun hHeld => ?_)
           clear hK K
           try simp only [Act.put, put1, put2, put3]
           refine tkY 8 (.pointer (some ⟨G, 6, none⟩)) 145 rfl rfl (fun w' hw' => ?_) hHeld ?_
           ·go_simp
           try simp only [Act.put, put1, put2, put3]
           refine wpAnyH_ready (rs := [9]) (by kernel_rfl) (by simp) ?_
           refine AllReadyH.cons rfl (fun K hK => ?_) AllReadyH.nil
           go_simp
           refine hK.out _ _ (trivial) (fun hHeld => ?_)
           clear hK K
           try simp only [Act.put, put1, put2, put3]
           refine wpAnyH_done (by kernel_rfl) ?_ _
           go_wp2
           go_roundw
           case rel => exact ⟨k + 1, .slice a8 (es.length + 1) q8, es ++ [((k : Int) + 1, l)], by omega, by go_num, by simp; omega, ho9, h8.mono (N' := N + 2400 + 2 * (k + 1)) (by omega)⟩
           case measure => simp [intOf]; omega
          ·skip
           go_simp
           refine (pick_calls c (N + 2400 + 2 * k + 1) 3 w5.drew (h5.cur.kept (Below.refl _ _).drew) (by omega) ⟨by omega, by omega⟩).mono ?_
           rintro e w6 ⟨l, ⟨hl0, hl1, _⟩, rfl, hc6, hw6⟩
           have hl1 := hl1 (by omega)
           have hW6 : Wrote c w5 w6 := ((Wrote.refl c _).drewN 1).trans hw6
           have h6 := h5.pick hcw hW6 hc6
           have hle6 := h6.le
           have ho6 := ho5.cg (Cg.wrote (S := fun g => g = c) hW6 rfl) (fun g h1 e => by have := h6.lt; have h1 : M6 ≤ g := h1; omega)
           have z6 := (cells8 (box_cells h6.box)).2.2.2.2.2.2.1
           have b7 := (Below.refl w6.heap.size w6).alloc (Nat.le_refl _) (.cells #[.int .i64 ((k : Int) + 1), .int .i64 l] 132)
           have z6' := cell_kept b7 z6
           obtain ⟨v8, w8, r8, ho8, hb8, hg8⟩ := run_append_oneD (α := Int × Int) (P := Tryz.prog) (t := 28) (ty := 28) (c := 1) i6 _ 16 Tryz.underlying28 hi6 hz60 hz61 hz62 rfl (by decide) ho6 b7 (Cells.new w6 [.int .i64 ((k : Int) + 1), .int .i64 l] 132) (own_pair ⟨by omega, by omega⟩ ⟨by omega, by omega⟩) (fun f hf => Nat.le_trans hle6.2 hf) (by omega) (by omega) hle6.2
           obtain ⟨a8, q8, rfl⟩ := ho8.form
           rw [List.length_append, List.length_singleton] at r8 ho8
           have b8 : Below M6 w6 w8 := (b7.mono hle6.2).trans hb8
           have h8 := h6.put hcw b8 6 (.slice a8 (es.length + 1) q8)
           have ho9 := ho8.far (p := ⟨G, 6, none⟩) (fun h => by have h : M6 ≤ G := h; omega) (.slice a8 (es.length + 1) q8)
           have hb9 := (Cg.lo (S := fun g => M6 ≤ g) b8 fun g _ hg => hg).at h6.box (by omega)
           have q6c := (cells8 (box_cells hb9)).2.2.2.2.2.2.1
           have qf := frozen_of_row w8 G 6 _ _ hb9
           refine hK.out _ _ (trivial) (fun hHeld => ?_)
           clear hK K
           try simp only [Act.put, put1, put2, put3]
           refine tkY 5 (.agg #[.int .i64 ((k : Int) + 1), .int .i64 l]) 142 rfl rfl (fun w' hw' => ?_) hHeld ?_
           ·go_simp
           try simp only [Act.put, put1, put2, put3]
           refine wpAnyH_ready (rs := [1, 6]) (by kernel_rfl) (by simp) ?_
           refine AllReadyH.cons rfl (fun K hK => ?_) (AllReadyH.cons rfl (fun K hK => ?_) AllReadyH.nil)
           ·go_simp
            refine hK.out _ _ (trivial) (fun hHeld => ?_)
            clear hK K
            try simp only [Act.put, put1, put2, put3]
            refine wpAnyH_ready (rs := [6]) (by kernel_rfl) (by simp) ?_
            refine AllReadyH.cons rfl (fun K hK => ?_) AllReadyH.nil
            go_simp
            refine hK.out _ _ (trivial) (fun hHeld => ?_)
            clear hK K
            try simp only [Act.put, put1, put2, put3]
            refine wpAnyH_ready (rs := [7]) (by kernel_rfl) (by simp) ?_
            refine AllReadyH.cons rfl (fun K hK => ?_) AllReadyH.nil
            refine step_append_of rfl _ _ rfl rfl rfl r8 ?_
            refine hK.out _ _ (trivial) (fun hHeld => ?_)
            clear hK K
            try simp only [Act.put, put1, put2, put3]
            refine tkY 8 (.pointer (some ⟨G, 6, none⟩)) 145 rfl rfl (fun w' hw' => ?_) hHeld ?_
            ·go_simp
            try simp only [Act.put, put1, put2, put3]
            refine wpAnyH_ready (rs := [9]) (by kernel_rfl) (by simp) ?_
            refine AllReadyH.cons rfl (fun K hK => ?_) AllReadyH.nil
            go_simp
            refine hK.out _ _ (trivial) (fun hHeld => ?_)
            clear hK K
            try simp only [Act.put, put1, put2, put3]
            refine wpAnyH_done (by kernel_rfl) ?_ _
            go_wp2
            go_roundw
            case rel => exact ⟨k + 1, .slice a8 (es.length + 1) q8, es ++ [((k : Int) + 1, l)], by omega, by go_num, by simp; omega, ho9, h8.mono (N' := N + 2400 + 2 * (k + 1)) (by omega)⟩
            case measure => simp [intOf]; omega
           ·go_simp
            refine hK.out _ _ (trivial) (fun hHeld => ?_)
            clear hK K
            try simp only [Act.put, put1, put2, put3]
            refine wpAnyH_ready (rs := [1]) (by kernel_rfl) (by simp) ?_
            refine AllReadyH.cons rfl (fun K hK => ?_) AllReadyH.nil
            go_simp
            refine hK.out _ _ (trivial) (fun hHeld => ?_)
            clear hK K
            try simp only [Act.put, put1, put2, put3]
            refine wpAnyH_ready (rs := [7]) (by kernel_rfl) (by simp) ?_
            refine AllReadyH.cons rfl (fun K hK => ?_) AllReadyH.nil
            refine step_append_of rfl _ _ rfl rfl rfl r8 ?_
            refine hK.out _ _ (trivial) (fun hHeld => ?_)
            clear hK K
            try simp only [Act.put, put1, put2, put3]
            refine tkY 8 (.pointer (some ⟨G, 6, none⟩)) 145 rfl rfl (fun w' hw' => ?_) hHeld ?_
            ·go_simp
            try simp only [Act.put, put1, put2, put3]
            refine wpAnyH_ready (rs := [9]) (by kernel_rfl) (by simp) ?_
            refine AllReadyH.cons rfl (fun K hK => ?_) AllReadyH.nil
            go_simp
            refine hK.out _ _ (trivial) (fun hHeld => ?_)
            clear hK K
            try simp only [Act.put, put1, put2, put3]
            refine wpAnyH_done (by kernel_rfl) ?_ _
            go_wp2
            go_roundw
            case rel => exact ⟨k + 1, .slice a8 (es.length + 1) q8, es ++ [((k : Int) + 1, l)], by omega, by go_num, by simp; omega, ho9, h8.mono (N' := N + 2400 + 2 * (k + 1)) (by omega)⟩
            case measure => simp [intOf]; omega
         ·have ezb : (s == 0) = false := by simpa using ez
          go_wp2_with fail
          go_roundw
          case rel => exact ⟨k + 1, _, es, by omega, by go_num, by omega, ho5, h5.mono (N' := N + 2400 + 2 * (k + 1)) (by omega)⟩
          case measure => simp [intOf]; omega
        ·obtain rfl : (k : Int) = n := by omega
         have h6 := (hst.next (ins_exts (c6 := .slice none 0 0) (p := pD k xs ls on pj sh) hst.fin (ownD_in ho) hst.le.1 hst.le.2) (sm_exts (p := pD k xs ls on pj sh) hst.sm (by omega))).mono (N' := N + 2500) (by omega)
         go_wp2_with fail
         go_meet
         exact ⟨rfl, rfl, _, es, h6⟩
      case rest =>
       obtain ⟨rfl, rfl, v6, es, hst⟩ := hcut
       obtain ⟨M7, hM7⟩ : ∃ M7, M7 = wc.heap.size := ⟨_, rfl⟩
       rw [← hM7] at hst
       clear hM7
       go_wp2_with fail
       go_loopw [147] (fun _ wr => ∃ (v : Value) (am : List Int), am.length ≤ 3 ∧ OwnD (α := Int) M7 (fun g => M7 ≤ g) 3 wr v am ∧ PS w c (N + 2500 + 3 * am.length) G M7 wr (bxF n v1 v2 on v4 v5 v6 v) (bxE n v1 v2 on v4 v5 v6) (pE n xs ls on pj sh es)) (fun _ wr => 4 - lenA (wr.cell? ⟨G, 7, none⟩))
       case atStart => exact ⟨_, [], by simp, ownD_nil, hst⟩
       case round =>
        obtain ⟨v, am, hlen, ho, hst⟩ := hrel
        obtain ⟨a4, q4, rfl⟩ := ho.form
        go_wp2_with fail
        refine (pick_calls c (N + 2500 + 3 * am.length) 6 _ hst.cur (by omega) ⟨by omega, by omega⟩).mono ?_
        rintro e w5 ⟨s, ⟨hs0, hs1, _⟩, rfl, hc5, hw5⟩
        have h5 := hst.pick hcw hw5 hc5
        have hle5 := h5.le
        have ho5 := ho.cg (Cg.wrote (S := fun g => g = c) hw5 rfl) (fun g h1 e => by have := h5.lt; have h1 : M7 ≤ g := h1; omega)
        obtain ⟨y0, y1, y2, y3, y4, y5, y6, y7⟩ := cells8 (box_cells h5.box)
        by_cases ez : s = 0
        ·subst ez
         by_cases hl3 : am.length < 3
         ·have hl3' : (am.length : Int) < 3 := by omega
          go_upto_region 41 with fail
          refine wp_region_held_drew (S := fun _ => True) (by kernel_rfl) trivial (fun hHeld => ?_)
          refine tkY 0 (.pointer (some ⟨G, 7, none⟩)) 155 rfl rfl (fun w' hw' => ?_) hHeld ?_
          ·go_simp
          try simp only [Act.put, put1, put2, put3]
          refine tkY 2 (.pointer (some ⟨c, 0, none⟩)) 157 rfl rfl (fun w' hw' => ?_) hHeld ?_
          ·go_simp
          try simp only [Act.put, put1, put2, put3]
          refine tkY 3 (.int .i64 n) 158 rfl rfl (fun w' hw' => ?_) hHeld ?_
          ·go_simp
          try simp only [Act.put, put1, put2, put3]
          refine wpAnyH_ready (rs := [1, 4]) (by kernel_rfl) (by simp) ?_
          refine AllReadyH.cons rfl (fun K hK => ?_) (AllReadyH.cons rfl (fun K hK => ?_) AllReadyH.nil)
          ·go_simp
           refine hK.out _ _ (trivial) (fun hHeld => ?_)
           clear hK K
           try simp only [Act.put, put1, put2, put3]
           refine wpAnyH_ready (rs := [4]) (by kernel_rfl) (by simp) ?_
           refine AllReadyH.cons rfl (fun K hK => ?_) AllReadyH.nil
           go_simp
           refine (lit_calls c (N + 2500 + 3 * am.length + 1) n w5.drew (h5.cur.kept (Below.refl _ _).drew) (by omega) ⟨by omega, by omega⟩).mono ?_
           rintro e w6 ⟨l, rfl, ⟨hl0, hl1⟩, hc6, hw6⟩
           have hW6 : Wrote c w5 w6 := ((Wrote.refl c _).drewN 1).trans hw6
           have h6 := h5.pick hcw hW6 hc6
           have hle6 := h6.le
           have ho6 := ho5.cg (Cg.wrote (S := fun g => g = c) hW6 rfl) (fun g h1 e => by have := h6.lt; have h1 : M7 ≤ g := h1; omega)
           have z6 := (cells8 (box_cells h6.box)).2.2.2.2.2.2.2
           have b7 := (Below.refl w6.heap.size w6).alloc (Nat.le_refl _) (.cells #[.int .i64 l] 3)
           have z6' := cell_kept b7 z6
           obtain ⟨v8, w8, r8, ho8, hb8, hg8⟩ := run_append_oneD (α := Int) (P := Tryz.prog) (t := 26) (ty := 26) (c := 1) i7 _ 8 Tryz.underlying26 hi7 hz70 hz71 hz72 rfl (by decide) ho6 b7 (Cells.new w6 [.int .i64 l] 3) (own_int ⟨by omega, by omega⟩) (fun f hf => Nat.le_trans hle6.2 hf) (by omega) (by omega) hle6.2
           obtain ⟨a8, q8, rfl⟩ := ho8.form
           rw [List.length_append, List.length_singleton] at r8 ho8
           have b8 : Below M7 w6 w8 := (b7.mono hle6.2).trans hb8
           have h8 := h6.put hcw b8 7 (.slice a8 (am.length + 1) q8)
           have ho9 := ho8.far (p := ⟨G, 7, none⟩) (fun h => by have h : M7 ≤ G := h; omega) (.slice a8 (am.length + 1) q8)
           have hb9 := (Cg.lo (S := fun g => M7 ≤ g) b8 fun g _ hg => hg).at h6.box (by omega)
           have q6c := (cells8 (box_cells hb9)).2.2.2.2.2.2.2
           have qf := frozen_of_row w8 G 7 _ _ hb9
           refine hK.out _ _ (trivial) (fun hHeld => ?_)
           clear hK K
           try simp only [Act.put, put1, put2, put3]
           refine wpAnyH_ready (rs := [5]) (by kernel_rfl) (by simp) ?_
           refine AllReadyH.cons rfl (fun K hK => ?_) AllReadyH.nil
           go_simp
           refine hK.out _ _ (trivial) (fun hHeld => ?_)
           clear hK K
           try simp only [Act.put, put1, put2, put3]
           refine wpAnyH_ready (rs := [6]) (by kernel_rfl) (by simp) ?_
           refine AllReadyH.cons rfl (fun K hK => ?_) AllReadyH.nil
           refine step_append_of rfl _ _ rfl rfl rfl r8 ?_
           refine hK.out _ _ (trivial) (fun hHeld => ?_)
           clear hK K
           try simp only [Act.put, put1, put2, put3]
           refine tkY 7 (.pointer (some ⟨G, 7, none⟩)) 162 rfl rfl (fun w' hw' => ?_) hHeld ?_
           ·go_simp
           try simp only [Act.put, put1, put2, put3]
           refine wpAnyH_ready (rs := [8]) (by kernel_rfl) (by simp) ?_
           refine AllReadyH.cons rfl (fun K hK => ?_) AllReadyH.nil
           go_simp
           refine hK.out _ _ (trivial) (fun hHeld => ?_)
           clear hK K
           try simp only [Act.put, put1, put2, put3]
           refine wpAnyH_done (by kernel_rfl) ?_ _
           go_wp2
           go_roundw
           case rel => exact ⟨.slice a8 (am.length + 1) q8, am ++ [l], by simp; omega, ho9, h8.mono (N' := N + 2500 + 3 * (am ++ [l]).length) (by simp; omega)⟩
           case measure => have hbq := (cells8 (box_cells h8.box)).2.2.2.2.2.2.2; have hbp := (cells8 (box_cells hst.box)).2.2.2.2.2.2.2; rw [lenA_at hbq, lenA_at hbp]; omega
          ·skip
           go_simp
           refine (lit_calls c (N + 2500 + 3 * am.length + 1) n w5.drew (h5.cur.kept (Below.refl _ _).drew) (by omega) ⟨by omega, by omega⟩).mono ?_
           rintro e w6 ⟨l, rfl, ⟨hl0, hl1⟩, hc6, hw6⟩
           have hW6 : Wrote c w5 w6 := ((Wrote.refl c _).drewN 1).trans hw6
           have h6 := h5.pick hcw hW6 hc6
           have hle6 := h6.le
           have ho6 := ho5.cg (Cg.wrote (S := fun g => g = c) hW6 rfl) (fun g h1 e => by have := h6.lt; have h1 : M7 ≤ g := h1; omega)
           have z6 := (cells8 (box_cells h6.box)).2.2.2.2.2.2.2
           have b7 := (Below.refl w6.heap.size w6).alloc (Nat.le_refl _) (.cells #[.int .i64 l] 3)
           have z6' := cell_kept b7 z6
           obtain ⟨v8, w8, r8, ho8, hb8, hg8⟩ := run_append_oneD (α := Int) (P := Tryz.prog) (t := 26) (ty := 26) (c := 1) i7 _ 8 Tryz.underlying26 hi7 hz70 hz71 hz72 rfl (by decide) ho6 b7 (Cells.new w6 [.int .i64 l] 3) (own_int ⟨by omega, by omega⟩) (fun f hf => Nat.le_trans hle6.2 hf) (by omega) (by omega) hle6.2
           obtain ⟨a8, q8, rfl⟩ := ho8.form
           rw [List.length_append, List.length_singleton] at r8 ho8
           have b8 : Below M7 w6 w8 := (b7.mono hle6.2).trans hb8
           have h8 := h6.put hcw b8 7 (.slice a8 (am.length + 1) q8)
           have ho9 := ho8.far (p := ⟨G, 7, none⟩) (fun h => by have h : M7 ≤ G := h; omega) (.slice a8 (am.length + 1) q8)
           have hb9 := (Cg.lo (S := fun g => M7 ≤ g) b8 fun g _ hg => hg).at h6.box (by omega)
           have q6c := (cells8 (box_cells hb9)).2.2.2.2.2.2.2
           have qf := frozen_of_row w8 G 7 _ _ hb9
           refine hK.out _ _ (trivial) (fun hHeld => ?_)
           clear hK K
           try simp only [Act.put, put1, put2, put3]
           refine wpAnyH_ready (rs := [1, 5]) (by kernel_rfl) (by simp) ?_
           refine AllReadyH.cons rfl (fun K hK => ?_) (AllReadyH.cons rfl (fun K hK => ?_) AllReadyH.nil)
           ·go_simp
            refine hK.out _ _ (trivial) (fun hHeld => ?_)
            clear hK K
            try simp only [Act.put, put1, put2, put3]
            refine wpAnyH_ready (rs := [5]) (by kernel_rfl) (by simp) ?_
            refine AllReadyH.cons rfl (fun K hK => ?_) AllReadyH.nil
            go_simp
            refine hK.out _ _ (trivial) (fun hHeld => ?_)
            clear hK K
            try simp only [Act.put, put1, put2, put3]
            refine wpAnyH_ready (rs := [6]) (by kernel_rfl) (by simp) ?_
            refine AllReadyH.cons rfl (fun K hK => ?_) AllReadyH.nil
            refine step_append_of rfl _ _ rfl rfl rfl r8 ?_
            refine hK.out _ _ (trivial) (fun hHeld => ?_)
            clear hK K
            try simp only [Act.put, put1, put2, put3]
            refine tkY 7 (.pointer (some ⟨G, 7, none⟩)) 162 rfl rfl (fun w' hw' => ?_) hHeld ?_
            ·go_simp
            try simp only [Act.put, put1, put2, put3]
            refine wpAnyH_ready (rs := [8]) (by kernel_rfl) (by simp) ?_
            refine AllReadyH.cons rfl (fun K hK => ?_) AllReadyH.nil
            go_simp
            refine hK.out _ _ (trivial) (fun hHeld => ?_)
            clear hK K
            try simp only [Act.put, put1, put2, put3]
            refine wpAnyH_done (by kernel_rfl) ?_ _
            go_wp2
            go_roundw
            case rel => exact ⟨.slice a8 (am.length + 1) q8, am ++ [l], by simp; omega, ho9, h8.mono (N' := N + 2500 + 3 * (am ++ [l]).length) (by simp; omega)⟩
            case measure => have hbq := (cells8 (box_cells h8.box)).2.2.2.2.2.2.2; have hbp := (cells8 (box_cells hst.box)).2.2.2.2.2.2.2; rw [lenA_at hbq, lenA_at hbp]; omega
           ·go_simp
            refine hK.out _ _ (trivial) (fun hHeld => ?_)
            clear hK K
            try simp only [Act.put, put1, put2, put3]
            refine wpAnyH_ready (rs := [1]) (by kernel_rfl) (by simp) ?_
            refine AllReadyH.cons rfl (fun K hK => ?_) AllReadyH.nil
            go_simp
            refine hK.out _ _ (trivial) (fun hHeld => ?_)
            clear hK K
            try simp only [Act.put, put1, put2, put3]
            refine wpAnyH_ready (rs := [6]) (by kernel_rfl) (by simp) ?_
            refine AllReadyH.cons rfl (fun K hK => ?_) AllReadyH.nil
            refine step_append_of rfl _ _ rfl rfl rfl r8 ?_
            refine hK.out _ _ (trivial) (fun hHeld => ?_)
            clear hK K
            try simp only [Act.put, put1, put2, put3]
            refine tkY 7 (.pointer (some ⟨G, 7, none⟩)) 162 rfl rfl (fun w' hw' => ?_) hHeld ?_
            ·go_simp
            try simp only [Act.put, put1, put2, put3]
            refine wpAnyH_ready (rs := [8]) (by kernel_rfl) (by simp) ?_
            refine AllReadyH.cons rfl (fun K hK => ?_) AllReadyH.nil
            go_simp
            refine hK.out _ _ (trivial) (fun hHeld => ?_)
            clear hK K
            try simp only [Act.put, put1, put2, put3]
            refine wpAnyH_done (by kernel_rfl) ?_ _
            go_wp2
            go_roundw
            case rel => exact ⟨.slice a8 (am.length + 1) q8, am ++ [l], by simp; omega, ho9, h8.mono (N' := N + 2500 + 3 * (am ++ [l]).length) (by simp; omega)⟩
            case measure => have hbq := (cells8 (box_cells h8.box)).2.2.2.2.2.2.2; have hbp := (cells8 (box_cells hst.box)).2.2.2.2.2.2.2; rw [lenA_at hbq, lenA_at hbp]; omega
         ·have hl3' : (3 : Int) ≤ (am.length : Int) := by omega
          have hle5 := h5.le
          have h6 := h5.next (ins_assume (c7 := .slice none 0 0) (p := pE n xs ls on pj sh es) (v := .slice a4 am.length q4) h5.fin (ownD_in ho5) hle5.1 hle5.2) (sm_assume (p := pE n xs ls on pj sh es) h5.sm (by omega))
          have hO := h6.fin
          have l1 := Rd.one hO.rd
          obtain ⟨x0, x1, x2, x3, x4, x5, x6, x7⟩ := cells8 (box_cells h5.res)
          have xf := fun j => frozen_of_row w5 w.heap.size j _ _ h5.res
          have st1 := sto Tryz.prog (l1 v1 (by simp))
          have st2 := sto Tryz.prog (l1 v2 (by simp))
          have st4 := sto Tryz.prog (l1 v4 (by simp))
          have st5 := sto Tryz.prog (l1 v5 (by simp))
          have st6 := sto Tryz.prog (l1 v6 (by simp))
          have hk := fun u0 u1 u2 u3 u4 u5 u6 u7 => res_cg8 w5 w.heap.size u0 u1 u2 u3 u4 u5 u6 u7
          have hlG := h5.lt
          have hln : (w.heap.size : Nat) < w5.heap.size := block_lt h5.res
          have hC := h5.cur
          have hG := h5.cg
          go_wp2
          exact bodyPost_ret (v := .agg #[.int .i64 n, v1, v2, .bool on, v4, v5, v6, .slice a4 am.length q4]) (by first | (simp [results, Tryz.results146, go_sem, x0, x1, x2, x3, x4, x5, x6, x7]; done) | (simp [results, Tryz.results146, go_sem, x0, x1, x2, x3, x4, x5, x6, x7]; omega)) rfl
           ⟨[.int .i64 n, v1, v2, .bool on, v4, v5, v6, .slice a4 am.length q4], { pE n xs ls on pj sh es with assume := am }, rfl, (hO.own.cg (hk _ _ _ _ _ _ _ _) (fun g h1 => by omega)).mono (by omega), (hC.cg ((hk _ _ _ _ _ _ _ _).more fun g _ hg => by omega)).mono (by omega), (hG.trans ((hk _ _ _ _ _ _ _ _).more fun g _ hg => .inr (by omega))).toWrote, h6.sm, hx1.out⟩
        ·have ezb : (s == 0) = false := by simpa using ez
         have hle5 := h5.le
         have h6 := h5.next (ins_assume (c7 := .slice none 0 0) (p := pE n xs ls on pj sh es) (v := .slice a4 am.length q4) h5.fin (ownD_in ho5) hle5.1 hle5.2) (sm_assume (p := pE n xs ls on pj sh es) h5.sm (by omega))
         have hO := h6.fin
         have l1 := Rd.one hO.rd
         obtain ⟨x0, x1, x2, x3, x4, x5, x6, x7⟩ := cells8 (box_cells h5.res)
         have xf := fun j => frozen_of_row w5 w.heap.size j _ _ h5.res
         have st1 := sto Tryz.prog (l1 v1 (by simp))
         have st2 := sto Tryz.prog (l1 v2 (by simp))
         have st4 := sto Tryz.prog (l1 v4 (by simp))
         have st5 := sto Tryz.prog (l1 v5 (by simp))
         have st6 := sto Tryz.prog (l1 v6 (by simp))
         have hk := fun u0 u1 u2 u3 u4 u5 u6 u7 => res_cg8 w5 w.heap.size u0 u1 u2 u3 u4 u5 u6 u7
         have hlG := h5.lt
         have hln : (w.heap.size : Nat) < w5.heap.size := block_lt h5.res
         have hC := h5.cur
         have hG := h5.cg
         go_wp2
         exact bodyPost_ret (v := .agg #[.int .i64 n, v1, v2, .bool on, v4, v5, v6, .slice a4 am.length q4]) (by first | (simp [results, Tryz.results146, go_sem, x0, x1, x2, x3, x4, x5, x6, x7]; done) | (simp [results, Tryz.results146, go_sem, x0, x1, x2, x3, x4, x5, x6, x7]; omega)) rfl
          ⟨[.int .i64 n, v1, v2, .bool on, v4, v5, v6, .slice a4 am.length q4], { pE n xs ls on pj sh es with assume := am }, rfl, (hO.own.cg (hk _ _ _ _ _ _ _ _) (fun g h1 => by omega)).mono (by omega), (hC.cg ((hk _ _ _ _ _ _ _ _).more fun g _ hg => by omega)).mono (by omega), (hG.trans ((hk _ _ _ _ _ _ _ _).more fun g _ hg => .inr (by omega))).toWrote, h6.sm, hx1.out⟩

end Go.Proofs.YthikhkeofcjdfaaGreat
