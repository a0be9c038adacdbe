/-
 Why, Reasons, Against: what the program answers. No condition of its own.
-/
import Derived.Test.YthikhkeofcjdfaaGreatUnfN
import Derived.Test.YthikhkeofcjdfaaGreatAppend
namespace Go.Proofs.YthikhkeofcjdfaaGreat
set_option linter.unusedVariables false
set_option linter.unusedSimpArgs false
open Go.RowKit Go.Shelf
set_option maxRecDepth 100000

/-! ### WhyI -/
/-! ### WhyV -/

theorem cells9 {w : World} {b : Nat} {c0 c1 c2 c3 c4 c5 c6 c7 c8 : Value} (h : Cells w b 0 [c0, c1, c2, c3, c4, c5, c6, c7, c8]) :
  w.cell? ⟨b, 0, none⟩ = some c0 ∧ w.cell? ⟨b, 1, none⟩ = some c1 ∧ w.cell? ⟨b, 2, none⟩ = some c2 ∧ w.cell? ⟨b, 3, none⟩ = some c3 ∧ w.cell? ⟨b, 4, none⟩ = some c4 ∧ w.cell? ⟨b, 5, none⟩ = some c5 ∧ w.cell? ⟨b, 6, none⟩ = some c6 ∧ w.cell? ⟨b, 7, none⟩ = some c7 ∧ w.cell? ⟨b, 8, none⟩ = some c8 :=
 ⟨h 0 _ rfl, by simpa using h 1 _ rfl, by simpa using h 2 _ rfl, by simpa using h 3 _ rfl, by simpa using h 4 _ rfl, by simpa using h 5 _ rfl, by simpa using h 6 _ rfl, by simpa using h 7 _ rfl, by simpa using h 8 _ rfl⟩
theorem cells10 {w : World} {b : Nat} {c0 c1 c2 c3 c4 c5 c6 c7 c8 c9 : Value} (h : Cells w b 0 [c0, c1, c2, c3, c4, c5, c6, c7, c8, c9]) :
  w.cell? ⟨b, 0, none⟩ = some c0 ∧ w.cell? ⟨b, 1, none⟩ = some c1 ∧ w.cell? ⟨b, 2, none⟩ = some c2 ∧ w.cell? ⟨b, 3, none⟩ = some c3 ∧ w.cell? ⟨b, 4, none⟩ = some c4 ∧ w.cell? ⟨b, 5, none⟩ = some c5 ∧ w.cell? ⟨b, 6, none⟩ = some c6 ∧ w.cell? ⟨b, 7, none⟩ = some c7 ∧ w.cell? ⟨b, 8, none⟩ = some c8 ∧ w.cell? ⟨b, 9, none⟩ = some c9 :=
 ⟨h 0 _ rfl, by simpa using h 1 _ rfl, by simpa using h 2 _ rfl, by simpa using h 3 _ rfl, by simpa using h 4 _ rfl, by simpa using h 5 _ rfl, by simpa using h 6 _ rfl, by simpa using h 7 _ rfl, by simpa using h 8 _ rfl, by simpa using h 9 _ rfl⟩

/-- The mask of the atoms that are lacking. -/
def lackM (xs ts : List Int) : Nat := maskOf xs &&& (65535 - maskOf ts)
theorem lackM_lt (xs ts : List Int) : lackM xs ts < 4096 := Nat.lt_of_le_of_lt Nat.and_le_left (maskOf_lt _)
theorem lack_has {xs ts : List Int} (hx : IsP xs) (a : Int) : hasM (lackM xs ts) a = (hasB xs a && !hasB ts a) := by
 by_cases h : 1 ≤ a ∧ a ≤ 12
 ·exact less_bit xs ts a h
 ·have h1 : hasM (lackM xs ts) a = false := by unfold hasM; rw [bitN_out h]; simp
  have h2 : hasB xs a = false := decide_eq_false fun hm => h (by
   rw [hx] at hm
   have := (mem_pickTo _ _ _).1 hm
   omega)
  rw [h1, h2]; rfl

section
variable {x0 x1 x2 x3 x4 x5 x6 x7 : Value}
theorem lacking_calls (xs ts : List Int) (w : World) :
  Calls Tryz.prog 87 #[.agg #[x0, x1, x2, x3, x4, x5, x6, x7, .int .u16 (maskOf xs : Int), .int .u16 (maskOf ts : Int)]] w fun e w' => e = .returned (.int .u16 (lackM xs ts : Int)) ∧ Below w.heap.size w w' := by
 have hm := maskOf_lt xs
 have ht := maskOf_lt ts
 have tb : Below w.heap.size w (w.alloc (.cells #[x0, x1, x2, x3, x4, x5, x6, x7, .int .u16 (maskOf xs : Int), .int .u16 (maskOf ts : Int)] 124)) := (Below.refl _ _).alloc (Nat.le_refl _) _
 obtain ⟨y0, y1, y2, y3, y4, y5, y6, y7, y8, y9⟩ := cells10 (Cells.new w [x0, x1, x2, x3, x4, x5, x6, x7, .int .u16 (maskOf xs : Int), .int .u16 (maskOf ts : Int)] 124)
 go_enter Tryz.func87, Tryz.ntmps87
 go_wp2_with (go_at_call 176; refine (lessN_calls _ _ _ hm ht).mono ?_; rintro e w' ⟨rfl, rfl⟩)
 go_ret
 exact ⟨rfl, tb⟩

set_option maxHeartbeats 4000000 in
theorem allows_calls {q : ProgD} {w : World} (xs ts : List Int) (a i : Int) (h : Rd.R w [x0, x1, x2, x3, x4, x5, x6, x7] q) (hok : ∀ r ∈ q.rules, ruleOkB r 12 = true) (hl : q.rules.length ≤ 60) (hx : IsP xs) (fa : Fits a) (fi : Fits i) :
  Calls Tryz.prog 85 #[.agg #[x0, x1, x2, x3, x4, x5, x6, x7, .int .u16 (maskOf xs : Int), .int .u16 (maskOf ts : Int)], .agg #[.int .i64 a, .int .i64 i]] w fun e w' => e = .returned (.bool (alwB q.rules ts xs (a, i))) ∧ Below w.heap.size w w' := by
 have hml := lackM_lt xs ts
 have hmx := maskOf_lt xs
 have hmt := maskOf_lt ts
 have hLH := lack_has (ts := ts) hx a
 have h0 := h
 obtain ⟨_, _, _, _, _, _, hcs, hf, g1, _⟩ := h0
 simp only [List.cons.injEq, and_true] at hcs
 obtain ⟨-, rfl, -⟩ := hcs
 obtain ⟨a1, k1, rfl, _, h1⟩ := g1.sl
 have hm1 := h1.1
 have HOK := Lib.hid hok
 have hws : IntKind.i64.wrap ((q.rules.length : Int) - 1) = (q.rules.length : Int) - 1 := IntWalk.i64_in _ (by omega)
 clear hf g1 hok
 cases hA : hasB xs a && !hasB ts a
 ·have hv := Lib.hid (alwB_A (rs := q.rules) (ts := ts) (xs := xs) (q := (a, i)) hA)
  have hW : btwB i 0 ((q.rules.length : Int) - 1) = btwB i 0 ((q.rules.length : Int) - 1) := rfl
  rw [hA] at hLH
  have tb : Below w.heap.size w ((w.alloc (.cells #[x0, .slice a1 q.rules.length k1, x2, x3, x4, x5, x6, x7, .int .u16 (maskOf xs : Int), .int .u16 (maskOf ts : Int)] 124)).alloc (.cells #[.int .i64 a, .int .i64 i] 118)) := ((Below.refl _ _).alloc (Nat.le_refl _) _).alloc (by simp) _
  have CV := (Cells.new w [x0, .slice a1 q.rules.length k1, x2, x3, x4, x5, x6, x7, .int .u16 (maskOf xs : Int), .int .u16 (maskOf ts : Int)] 124).alloc (.cells #[.int .i64 a, .int .i64 i] 118)
  have CY := Cells.new (w.alloc (.cells #[x0, .slice a1 q.rules.length k1, x2, x3, x4, x5, x6, x7, .int .u16 (maskOf xs : Int), .int .u16 (maskOf ts : Int)] 124)) [.int .i64 a, .int .i64 i] 118
  rw [World.size_alloc] at CY
  have KS : ∀ W', Below ((w.alloc (.cells #[x0, .slice a1 q.rules.length k1, x2, x3, x4, x5, x6, x7, .int .u16 (maskOf xs : Int), .int .u16 (maskOf ts : Int)] 124)).alloc (.cells #[.int .i64 a, .int .i64 i] 118)).heap.size ((w.alloc (.cells #[x0, .slice a1 q.rules.length k1, x2, x3, x4, x5, x6, x7, .int .u16 (maskOf xs : Int), .int .u16 (maskOf ts : Int)] 124)).alloc (.cells #[.int .i64 a, .int .i64 i] 118)) W' → (W'.cell? ⟨w.heap.size, 0, none⟩ = some x0 ∧ W'.cell? ⟨w.heap.size, 1, none⟩ = some (.slice a1 q.rules.length k1) ∧ W'.cell? ⟨w.heap.size, 2, none⟩ = some x2 ∧ W'.cell? ⟨w.heap.size, 3, none⟩ = some x3 ∧ W'.cell? ⟨w.heap.size, 4, none⟩ = some x4 ∧ W'.cell? ⟨w.heap.size, 5, none⟩ = some x5 ∧ W'.cell? ⟨w.heap.size, 6, none⟩ = some x6 ∧ W'.cell? ⟨w.heap.size, 7, none⟩ = some x7 ∧ W'.cell? ⟨w.heap.size, 8, none⟩ = some (.int .u16 (maskOf xs : Int)) ∧ W'.cell? ⟨w.heap.size, 9, none⟩ = some (.int .u16 (maskOf ts : Int)) ∧ W'.cell? ⟨w.heap.size + 1, 0, none⟩ = some (.int .i64 a) ∧ W'.cell? ⟨w.heap.size + 1, 1, none⟩ = some (.int .i64 i)) := fun W' hb => by
   obtain ⟨y0, y1, y2, y3, y4, y5, y6, y7, y8, y9⟩ := cells10 (CV.later hb)
   obtain ⟨z0, z1⟩ := cells2 (CY.later hb)
   exact ⟨y0, y1, y2, y3, y4, y5, y6, y7, y8, y9, z0, z1⟩
  have B0 := Below.refl ((w.alloc (.cells #[x0, .slice a1 q.rules.length k1, x2, x3, x4, x5, x6, x7, .int .u16 (maskOf xs : Int), .int .u16 (maskOf ts : Int)] 124)).alloc (.cells #[.int .i64 a, .int .i64 i] 118)).heap.size ((w.alloc (.cells #[x0, .slice a1 q.rules.length k1, x2, x3, x4, x5, x6, x7, .int .u16 (maskOf xs : Int), .int .u16 (maskOf ts : Int)] 124)).alloc (.cells #[.int .i64 a, .int .i64 i] 118))
  go_enter Tryz.func85, Tryz.ntmps85
  go_wp2_with fail
  refine wp_region_held_drew (S := fun W' => W'.cell? ⟨w.heap.size, 0, none⟩ = some x0 ∧ W'.cell? ⟨w.heap.size, 1, none⟩ = some (.slice a1 q.rules.length k1) ∧ W'.cell? ⟨w.heap.size, 2, none⟩ = some x2 ∧ W'.cell? ⟨w.heap.size, 3, none⟩ = some x3 ∧ W'.cell? ⟨w.heap.size, 4, none⟩ = some x4 ∧ W'.cell? ⟨w.heap.size, 5, none⟩ = some x5 ∧ W'.cell? ⟨w.heap.size, 6, none⟩ = some x6 ∧ W'.cell? ⟨w.heap.size, 7, none⟩ = some x7 ∧ W'.cell? ⟨w.heap.size, 8, none⟩ = some (.int .u16 (maskOf xs : Int)) ∧ W'.cell? ⟨w.heap.size, 9, none⟩ = some (.int .u16 (maskOf ts : Int)) ∧ W'.cell? ⟨w.heap.size + 1, 0, none⟩ = some (.int .i64 a) ∧ W'.cell? ⟨w.heap.size + 1, 1, none⟩ = some (.int .i64 i)) (by kernel_rfl) (KS _ B0.drew) (fun hHeld => ?_)
  refine tkY 0 (.agg #[x0, .slice a1 q.rules.length k1, x2, x3, x4, x5, x6, x7, .int .u16 (maskOf xs : Int), .int .u16 (maskOf ts : Int)]) 6 rfl rfl (fun w' hw' => ?_) hHeld ?_
  ·first | (go_simp; done) | (obtain ⟨s0, s1, s2, s3, s4, s5, s6, s7, s8, s9, s10, s11⟩ := hw'; go_simp; done) | (obtain ⟨s0, s1, s2, s3, s4, s5, s6, s7⟩ := hw'; go_simp; done) | (obtain ⟨s0, s1⟩ := hw'; go_simp; done)
  try simp only [Act.put, put1, put2, put3]
  refine tkY 2 (.pointer (some ⟨w.heap.size + 1, 0, none⟩)) 8 rfl rfl (fun w' hw' => ?_) hHeld ?_
  ·first | (go_simp; done) | (obtain ⟨s0, s1, s2, s3, s4, s5, s6, s7, s8, s9, s10, s11⟩ := hw'; go_simp; done) | (obtain ⟨s0, s1, s2, s3, s4, s5, s6, s7⟩ := hw'; go_simp; done) | (obtain ⟨s0, s1⟩ := hw'; go_simp; done)
  try simp only [Act.put, put1, put2, put3]
  refine tkY 3 (.int .i64 a) 9 rfl rfl (fun w' hw' => ?_) hHeld ?_
  ·first | (go_simp; done) | (obtain ⟨s0, s1, s2, s3, s4, s5, s6, s7, s8, s9, s10, s11⟩ := hw'; go_simp; done) | (obtain ⟨s0, s1, s2, s3, s4, s5, s6, s7⟩ := hw'; go_simp; done) | (obtain ⟨s0, s1⟩ := hw'; go_simp; done)
  try simp only [Act.put, put1, put2, put3]
  refine wpAnyH_ready (rs := [1]) (by kernel_rfl) (by simp) ?_
  refine AllReadyH.cons rfl (fun K hK => ?_) AllReadyH.nil
  go_simp
  refine (lacking_calls xs ts _).mono ?_
  rintro e w1 ⟨rfl, b1⟩
  refine hK.out _ _ (KS _ (B0.drew.step b1)) (fun hHeld => ?_)
  clear hK K
  try simp only [Act.put, put1, put2, put3]
  refine wpAnyH_ready (rs := [4]) (by kernel_rfl) (by simp) ?_
  refine AllReadyH.cons rfl (fun K hK => ?_) AllReadyH.nil
  go_simp
  refine (has_calls _ _ _ hml fa).mono ?_
  rintro e w' ⟨he, rfl⟩
  rw [hLH] at he
  subst he
  refine hK.out _ _ (KS _ (B0.drew.step b1)) (fun hHeld => ?_)
  clear hK K
  try simp only [Act.put, put1, put2, put3]
  refine tkY 5 (.bool true) 11 rfl rfl (fun w' hw' => ?_) hHeld ?_
  ·first | (go_simp; done) | (obtain ⟨s0, s1, s2, s3, s4, s5, s6, s7, s8, s9, s10, s11⟩ := hw'; go_simp; done) | (obtain ⟨s0, s1, s2, s3, s4, s5, s6, s7⟩ := hw'; go_simp; done) | (obtain ⟨s0, s1⟩ := hw'; go_simp; done)
  try simp only [Act.put, put1, put2, put3]
  refine tkY 6 (.bool true) 12 rfl rfl (fun w' hw' => ?_) hHeld ?_
  ·first | (go_simp; done) | (obtain ⟨s0, s1, s2, s3, s4, s5, s6, s7, s8, s9, s10, s11⟩ := hw'; go_simp; done) | (obtain ⟨s0, s1, s2, s3, s4, s5, s6, s7⟩ := hw'; go_simp; done) | (obtain ⟨s0, s1⟩ := hw'; go_simp; done)
  try simp only [Act.put, put1, put2, put3]
  refine tkN 7 13 rfl rfl hHeld ?_
  try simp only [Act.put, put1, put2, put3]
  refine tkN 8 14 rfl rfl hHeld ?_
  try simp only [Act.put, put1, put2, put3]
  refine tkN 9 15 rfl rfl hHeld ?_
  try simp only [Act.put, put1, put2, put3]
  refine tkN 10 16 rfl rfl hHeld ?_
  try simp only [Act.put, put1, put2, put3]
  refine tkN 11 17 rfl rfl hHeld ?_
  try simp only [Act.put, put1, put2, put3]
  refine tkN 12 18 rfl rfl hHeld ?_
  try simp only [Act.put, put1, put2, put3]
  refine tkN 13 19 rfl rfl hHeld ?_
  try simp only [Act.put, put1, put2, put3]
  refine tkN 14 20 rfl rfl hHeld ?_
  try simp only [Act.put, put1, put2, put3]
  refine tkN 15 21 rfl rfl hHeld ?_
  try simp only [Act.put, put1, put2, put3]
  refine tkN 16 22 rfl rfl hHeld ?_
  try simp only [Act.put, put1, put2, put3]
  refine tkY 17 (.bool true) 23 rfl rfl (fun w' hw' => ?_) hHeld ?_
  ·first | (go_simp; done) | (obtain ⟨s0, s1, s2, s3, s4, s5, s6, s7, s8, s9, s10, s11⟩ := hw'; go_simp; done) | (obtain ⟨s0, s1, s2, s3, s4, s5, s6, s7⟩ := hw'; go_simp; done) | (obtain ⟨s0, s1⟩ := hw'; go_simp; done)
  try simp only [Act.put, put1, put2, put3]
  refine wpAnyH_done (by kernel_rfl) ?_ _
  go_wp2
  go_ret
  exact ⟨ret_bool hv.out.symm, tb.drew.step b1⟩
 ·rw [hA] at hLH
  cases hW : btwB i 0 ((q.rules.length : Int) - 1)
  ·have hv := Lib.hid (alwB_B (rs := q.rules) (ts := ts) (xs := xs) (q := (a, i)) hW)
   have tb : Below w.heap.size w ((w.alloc (.cells #[x0, .slice a1 q.rules.length k1, x2, x3, x4, x5, x6, x7, .int .u16 (maskOf xs : Int), .int .u16 (maskOf ts : Int)] 124)).alloc (.cells #[.int .i64 a, .int .i64 i] 118)) := ((Below.refl _ _).alloc (Nat.le_refl _) _).alloc (by simp) _
   have CV := (Cells.new w [x0, .slice a1 q.rules.length k1, x2, x3, x4, x5, x6, x7, .int .u16 (maskOf xs : Int), .int .u16 (maskOf ts : Int)] 124).alloc (.cells #[.int .i64 a, .int .i64 i] 118)
   have CY := Cells.new (w.alloc (.cells #[x0, .slice a1 q.rules.length k1, x2, x3, x4, x5, x6, x7, .int .u16 (maskOf xs : Int), .int .u16 (maskOf ts : Int)] 124)) [.int .i64 a, .int .i64 i] 118
   rw [World.size_alloc] at CY
   have KS : ∀ W', Below ((w.alloc (.cells #[x0, .slice a1 q.rules.length k1, x2, x3, x4, x5, x6, x7, .int .u16 (maskOf xs : Int), .int .u16 (maskOf ts : Int)] 124)).alloc (.cells #[.int .i64 a, .int .i64 i] 118)).heap.size ((w.alloc (.cells #[x0, .slice a1 q.rules.length k1, x2, x3, x4, x5, x6, x7, .int .u16 (maskOf xs : Int), .int .u16 (maskOf ts : Int)] 124)).alloc (.cells #[.int .i64 a, .int .i64 i] 118)) W' → (W'.cell? ⟨w.heap.size, 0, none⟩ = some x0 ∧ W'.cell? ⟨w.heap.size, 1, none⟩ = some (.slice a1 q.rules.length k1) ∧ W'.cell? ⟨w.heap.size, 2, none⟩ = some x2 ∧ W'.cell? ⟨w.heap.size, 3, none⟩ = some x3 ∧ W'.cell? ⟨w.heap.size, 4, none⟩ = some x4 ∧ W'.cell? ⟨w.heap.size, 5, none⟩ = some x5 ∧ W'.cell? ⟨w.heap.size, 6, none⟩ = some x6 ∧ W'.cell? ⟨w.heap.size, 7, none⟩ = some x7 ∧ W'.cell? ⟨w.heap.size, 8, none⟩ = some (.int .u16 (maskOf xs : Int)) ∧ W'.cell? ⟨w.heap.size, 9, none⟩ = some (.int .u16 (maskOf ts : Int)) ∧ W'.cell? ⟨w.heap.size + 1, 0, none⟩ = some (.int .i64 a) ∧ W'.cell? ⟨w.heap.size + 1, 1, none⟩ = some (.int .i64 i)) := fun W' hb => by
    obtain ⟨y0, y1, y2, y3, y4, y5, y6, y7, y8, y9⟩ := cells10 (CV.later hb)
    obtain ⟨z0, z1⟩ := cells2 (CY.later hb)
    exact ⟨y0, y1, y2, y3, y4, y5, y6, y7, y8, y9, z0, z1⟩
   have B0 := Below.refl ((w.alloc (.cells #[x0, .slice a1 q.rules.length k1, x2, x3, x4, x5, x6, x7, .int .u16 (maskOf xs : Int), .int .u16 (maskOf ts : Int)] 124)).alloc (.cells #[.int .i64 a, .int .i64 i] 118)).heap.size ((w.alloc (.cells #[x0, .slice a1 q.rules.length k1, x2, x3, x4, x5, x6, x7, .int .u16 (maskOf xs : Int), .int .u16 (maskOf ts : Int)] 124)).alloc (.cells #[.int .i64 a, .int .i64 i] 118))
   go_enter Tryz.func85, Tryz.ntmps85
   go_wp2_with fail
   go_region_held3 (fun W' => W'.cell? ⟨w.heap.size, 0, none⟩ = some x0 ∧ W'.cell? ⟨w.heap.size, 1, none⟩ = some (.slice a1 q.rules.length k1) ∧ W'.cell? ⟨w.heap.size, 2, none⟩ = some x2 ∧ W'.cell? ⟨w.heap.size, 3, none⟩ = some x3 ∧ W'.cell? ⟨w.heap.size, 4, none⟩ = some x4 ∧ W'.cell? ⟨w.heap.size, 5, none⟩ = some x5 ∧ W'.cell? ⟨w.heap.size, 6, none⟩ = some x6 ∧ W'.cell? ⟨w.heap.size, 7, none⟩ = some x7 ∧ W'.cell? ⟨w.heap.size, 8, none⟩ = some (.int .u16 (maskOf xs : Int)) ∧ W'.cell? ⟨w.heap.size, 9, none⟩ = some (.int .u16 (maskOf ts : Int)) ∧ W'.cell? ⟨w.heap.size + 1, 0, none⟩ = some (.int .i64 a) ∧ W'.cell? ⟨w.heap.size + 1, 1, none⟩ = some (.int .i64 i))
    (first | exact KS _ B0 | exact KS _ B0.drew | exact KS _ (B0.drew.step b1))
    (first | (go_at_call 87; refine (lacking_calls xs ts _).mono ?_; rintro e w1 ⟨rfl, b1⟩) |
     (go_at_call 174; refine (has_calls _ _ _ hml fa).mono ?_; rintro e w' ⟨he, rfl⟩; rw [hLH] at he; subst he) |
     (go_at_call 147; refine (within_calls _ _ _ _).mono ?_; rintro e w' ⟨he, rfl⟩; rw [hW] at he; subst he))
   go_wp2
   go_ret
   exact ⟨ret_bool hv.out.symm, tb.drew.step b1⟩
  ·have hv := Lib.hid (alwB_C (rs := q.rules) (ts := ts) (xs := xs) (q := (a, i)) hA hW)
   have hi2 : 0 ≤ i ∧ i ≤ (q.rules.length : Int) - 1 := of_decide_eq_true hW
   obtain ⟨n, hin⟩ := Int.eq_ofNat_of_zero_le hi2.1
   have hn : n < q.rules.length := by omega
   have hni : (n : Int) < (q.rules.length : Int) := by omega
   obtain ⟨b, off, ha1, hc⟩ := h1.base (by omega)
   obtain ⟨ecs, hC, hR⟩ := hc n hn
   have hok12 := HOK.out _ (nth_mem hn)
   have hR0 := hR
   obtain ⟨d1, d4, rfl, hf', r1, r4⟩ := hR0
   obtain ⟨ah, kh, rfl, _, hh⟩ := r1.sl
   obtain ⟨ab, kb, rfl, _, _⟩ := r4.sl
   have so1 := sto Tryz.prog r1.one1
   have so4 := sto Tryz.prog r4.one1
   clear hc r1 r4
   have hml2 := maskOf_lt (nth q.rules n).heads
   have hHH : hasM (maskOf (nth q.rules n).heads) a = hasB (nth q.rules n).heads a := by
    by_cases h12 : 1 ≤ a ∧ a ≤ 12
    ·exact hasM_maskOf _ _ h12
    ·exfalso
     have hxa : hasB xs a = true := by
      cases hh9 : hasB xs a
      ·rw [hh9] at hA; cases hA
      ·rfl
     have := of_decide_eq_true hxa
     rw [hx] at this
     have := (mem_pickTo _ _ _).1 this
     omega
   have hfr := rd_rule hR
   have HN1 := Lib.hid hin
   have HA1 := Lib.hid ha1
   clear hin ha1
   have hGV : Hid (givB q.rules ts xs a ((n : Int).toNat) = (hasB (nth q.rules n).heads a && reachB (nth q.rules n) (h2B ts xs))) := by show _ = _; rw [Int.toNat_natCast]; rfl
   have tb : Below w.heap.size w ((w.alloc (.cells #[x0, .slice a1 q.rules.length k1, x2, x3, x4, x5, x6, x7, .int .u16 (maskOf xs : Int), .int .u16 (maskOf ts : Int)] 124)).alloc (.cells #[.int .i64 a, .int .i64 i] 118)) := ((Below.refl _ _).alloc (Nat.le_refl _) _).alloc (by simp) _
   have CV := (Cells.new w [x0, .slice a1 q.rules.length k1, x2, x3, x4, x5, x6, x7, .int .u16 (maskOf xs : Int), .int .u16 (maskOf ts : Int)] 124).alloc (.cells #[.int .i64 a, .int .i64 i] 118)
   have CY := Cells.new (w.alloc (.cells #[x0, .slice a1 q.rules.length k1, x2, x3, x4, x5, x6, x7, .int .u16 (maskOf xs : Int), .int .u16 (maskOf ts : Int)] 124)) [.int .i64 a, .int .i64 i] 118
   rw [World.size_alloc] at CY
   have KS : ∀ W', Below ((w.alloc (.cells #[x0, .slice a1 q.rules.length k1, x2, x3, x4, x5, x6, x7, .int .u16 (maskOf xs : Int), .int .u16 (maskOf ts : Int)] 124)).alloc (.cells #[.int .i64 a, .int .i64 i] 118)).heap.size ((w.alloc (.cells #[x0, .slice a1 q.rules.length k1, x2, x3, x4, x5, x6, x7, .int .u16 (maskOf xs : Int), .int .u16 (maskOf ts : Int)] 124)).alloc (.cells #[.int .i64 a, .int .i64 i] 118)) W' → (W'.cell? ⟨w.heap.size, 0, none⟩ = some x0 ∧ W'.cell? ⟨w.heap.size, 1, none⟩ = some (.slice a1 q.rules.length k1) ∧ W'.cell? ⟨w.heap.size, 2, none⟩ = some x2 ∧ W'.cell? ⟨w.heap.size, 3, none⟩ = some x3 ∧ W'.cell? ⟨w.heap.size, 4, none⟩ = some x4 ∧ W'.cell? ⟨w.heap.size, 5, none⟩ = some x5 ∧ W'.cell? ⟨w.heap.size, 6, none⟩ = some x6 ∧ W'.cell? ⟨w.heap.size, 7, none⟩ = some x7 ∧ W'.cell? ⟨w.heap.size, 8, none⟩ = some (.int .u16 (maskOf xs : Int)) ∧ W'.cell? ⟨w.heap.size, 9, none⟩ = some (.int .u16 (maskOf ts : Int)) ∧ W'.cell? ⟨w.heap.size + 1, 0, none⟩ = some (.int .i64 a) ∧ W'.cell? ⟨w.heap.size + 1, 1, none⟩ = some (.int .i64 i)) := fun W' hb => by
    obtain ⟨y0, y1, y2, y3, y4, y5, y6, y7, y8, y9⟩ := cells10 (CV.later hb)
    obtain ⟨z0, z1⟩ := cells2 (CY.later hb)
    exact ⟨y0, y1, y2, y3, y4, y5, y6, y7, y8, y9, z0, z1⟩
   have B0 := Below.refl ((w.alloc (.cells #[x0, .slice a1 q.rules.length k1, x2, x3, x4, x5, x6, x7, .int .u16 (maskOf xs : Int), .int .u16 (maskOf ts : Int)] 124)).alloc (.cells #[.int .i64 a, .int .i64 i] 118)).heap.size ((w.alloc (.cells #[x0, .slice a1 q.rules.length k1, x2, x3, x4, x5, x6, x7, .int .u16 (maskOf xs : Int), .int .u16 (maskOf ts : Int)] 124)).alloc (.cells #[.int .i64 a, .int .i64 i] 118))
   go_enter Tryz.func85, Tryz.ntmps85
   go_wp2_with fail
   go_region_held3 (fun W' => W'.cell? ⟨w.heap.size, 0, none⟩ = some x0 ∧ W'.cell? ⟨w.heap.size, 1, none⟩ = some (.slice a1 q.rules.length k1) ∧ W'.cell? ⟨w.heap.size, 2, none⟩ = some x2 ∧ W'.cell? ⟨w.heap.size, 3, none⟩ = some x3 ∧ W'.cell? ⟨w.heap.size, 4, none⟩ = some x4 ∧ W'.cell? ⟨w.heap.size, 5, none⟩ = some x5 ∧ W'.cell? ⟨w.heap.size, 6, none⟩ = some x6 ∧ W'.cell? ⟨w.heap.size, 7, none⟩ = some x7 ∧ W'.cell? ⟨w.heap.size, 8, none⟩ = some (.int .u16 (maskOf xs : Int)) ∧ W'.cell? ⟨w.heap.size, 9, none⟩ = some (.int .u16 (maskOf ts : Int)) ∧ W'.cell? ⟨w.heap.size + 1, 0, none⟩ = some (.int .i64 a) ∧ W'.cell? ⟨w.heap.size + 1, 1, none⟩ = some (.int .i64 i))
    (first | exact KS _ B0 | exact KS _ B0.drew | exact KS _ (B0.drew.step b1))
    (first | (go_at_call 87; refine (lacking_calls xs ts _).mono ?_; rintro e w1 ⟨rfl, b1⟩) |
     (go_at_call 174; refine (has_calls _ _ _ hml fa).mono ?_; rintro e w' ⟨he, rfl⟩; rw [hLH] at he; subst he) |
     (go_at_call 147; refine (within_calls _ _ _ _).mono ?_; rintro e w' ⟨he, rfl⟩; rw [hW] at he; subst he))
   obtain rfl := HA1.out
   obtain rfl := HN1.out
   have t1 := tb.drew.step b1
   have bA := (Below.refl w1.heap.size w1).alloc (Nat.le_refl _) (.cells #[.bool (nth q.rules n).choice, .slice ah (nth q.rules n).heads.length kh, .bool (nth q.rules n).weight, .int .i64 (nth q.rules n).bound, .slice ab (nth q.rules n).body.length kb] 34)
   have B1 := (B0.drew.step b1).step bA
   have t2 := t1.step bA
   have hC1 := hC.later t1
   have u0 := hC1.c0
   have u1 := hC1.c1
   have u2 := hC1.c2
   have u3 := hC1.c3
   have u4 := hC1.c4
   rw [show Rd.k RuleD = 5 from rfl] at u0 u1 u2 u3 u4
   have CR := Cells.new w1 [.bool (nth q.rules n).choice, .slice ah (nth q.rules n).heads.length kh, .bool (nth q.rules n).weight, .int .i64 (nth q.rules n).bound, .slice ab (nth q.rules n).body.length kb] 34
   have hR2 := Rd.mono t2 hR
   have hh2 := hh.later t2
   have K1 := KS _ (B0.drew.step b1)
   have KT := fun W' (hb : Below (w1.alloc (.cells #[.bool (nth q.rules n).choice, .slice ah (nth q.rules n).heads.length kh, .bool (nth q.rules n).weight, .int .i64 (nth q.rules n).bound, .slice ab (nth q.rules n).body.length kb] 34)).heap.size (w1.alloc (.cells #[.bool (nth q.rules n).choice, .slice ah (nth q.rules n).heads.length kh, .bool (nth q.rules n).weight, .int .i64 (nth q.rules n).bound, .slice ab (nth q.rules n).body.length kb] 34)) W') => And.intro (cells5 (CR.later hb)) (KS W' (B1.step hb))
   clear KS B0 B1 CV CY hC hC1 CR
   have KT := Lib.hid KT
   obtain ⟨y0, y1, y2, y3, y4, y5, y6, y7, y8, y9, z0, z1⟩ := K1
   go_upto_region 4 with fail
   have R0 := Below.refl (w1.alloc (.cells #[.bool (nth q.rules n).choice, .slice ah (nth q.rules n).heads.length kh, .bool (nth q.rules n).weight, .int .i64 (nth q.rules n).bound, .slice ab (nth q.rules n).body.length kb] 34)).heap.size (w1.alloc (.cells #[.bool (nth q.rules n).choice, .slice ah (nth q.rules n).heads.length kh, .bool (nth q.rules n).weight, .int .i64 (nth q.rules n).bound, .slice ab (nth q.rules n).body.length kb] 34))
   clear y0 y1 y2 y3 y4 y5 y6 y7 y8 y9 z0 z1 u0 u1 u2 u3 u4
   have K8 : ∀ W', Below (w1.alloc (.cells #[.bool (nth q.rules n).choice, .slice ah (nth q.rules n).heads.length kh, .bool (nth q.rules n).weight, .int .i64 (nth q.rules n).bound, .slice ab (nth q.rules n).body.length kb] 34)).heap.size (w1.alloc (.cells #[.bool (nth q.rules n).choice, .slice ah (nth q.rules n).heads.length kh, .bool (nth q.rules n).weight, .int .i64 (nth q.rules n).bound, .slice ab (nth q.rules n).body.length kb] 34)) W' → (W'.cell? ⟨w1.heap.size, 0, none⟩ = some (.bool (nth q.rules n).choice) ∧ W'.cell? ⟨w1.heap.size, 1, none⟩ = some (.slice ah (nth q.rules n).heads.length kh) ∧ W'.cell? ⟨w1.heap.size, 2, none⟩ = some (.bool (nth q.rules n).weight) ∧ W'.cell? ⟨w1.heap.size, 3, none⟩ = some (.int .i64 (nth q.rules n).bound) ∧ W'.cell? ⟨w1.heap.size, 4, none⟩ = some (.slice ab (nth q.rules n).body.length kb) ∧ W'.cell? ⟨w.heap.size, 8, none⟩ = some (.int .u16 (maskOf xs : Int)) ∧ W'.cell? ⟨w.heap.size, 9, none⟩ = some (.int .u16 (maskOf ts : Int)) ∧ W'.cell? ⟨w.heap.size + 1, 0, none⟩ = some (.int .i64 a)) := fun W' hb => by
    obtain ⟨⟨c0, c1, c2, c3, c4⟩, y0, y1, y2, y3, y4, y5, y6, y7, y8, y9, z0, z1⟩ := KT.out W' hb
    exact ⟨c0, c1, c2, c3, c4, y8, y9, z0⟩
   clear KT
   generalize (w1.alloc (.cells #[.bool (nth q.rules n).choice, .slice ah (nth q.rules n).heads.length kh, .bool (nth q.rules n).weight, .int .i64 (nth q.rules n).bound, .slice ab (nth q.rules n).body.length kb] 34)) = wr at *

   cases hHd : hasB (nth q.rules n).heads a
   ·rw [hHd] at hHH
    have hGF : Hid (givB q.rules ts xs a ((n : Int).toNat) = false) := by show _ = _; rw [hGV.out, hHd]; rfl
    refine wp_region_held_drew (S := fun W' => W'.cell? ⟨w1.heap.size, 0, none⟩ = some (.bool (nth q.rules n).choice) ∧ W'.cell? ⟨w1.heap.size, 1, none⟩ = some (.slice ah (nth q.rules n).heads.length kh) ∧ W'.cell? ⟨w1.heap.size, 2, none⟩ = some (.bool (nth q.rules n).weight) ∧ W'.cell? ⟨w1.heap.size, 3, none⟩ = some (.int .i64 (nth q.rules n).bound) ∧ W'.cell? ⟨w1.heap.size, 4, none⟩ = some (.slice ab (nth q.rules n).body.length kb) ∧ W'.cell? ⟨w.heap.size, 8, none⟩ = some (.int .u16 (maskOf xs : Int)) ∧ W'.cell? ⟨w.heap.size, 9, none⟩ = some (.int .u16 (maskOf ts : Int)) ∧ W'.cell? ⟨w.heap.size + 1, 0, none⟩ = some (.int .i64 a)) (by kernel_rfl) (K8 _ R0.drew) (fun hHeld => ?_)
    refine tkY 0 (.pointer (some ⟨w1.heap.size, 1, none⟩)) 32 rfl rfl (fun w' hw' => ?_) hHeld ?_
    ·first | (go_simp; done) | (obtain ⟨s0, s1, s2, s3, s4, s5, s6, s7, s8, s9, s10, s11⟩ := hw'; go_simp; done) | (obtain ⟨s0, s1, s2, s3, s4, s5, s6, s7⟩ := hw'; go_simp; done) | (obtain ⟨s0, s1⟩ := hw'; go_simp; done)
    try simp only [Act.put, put1, put2, put3]
    refine tkY 1 (.slice ah (nth q.rules n).heads.length kh) 33 rfl rfl (fun w' hw' => ?_) hHeld ?_
    ·first | (go_simp; done) | (obtain ⟨s0, s1, s2, s3, s4, s5, s6, s7, s8, s9, s10, s11⟩ := hw'; go_simp; done) | (obtain ⟨s0, s1, s2, s3, s4, s5, s6, s7⟩ := hw'; go_simp; done) | (obtain ⟨s0, s1⟩ := hw'; go_simp; done)
    try simp only [Act.put, put1, put2, put3]
    refine tkY 3 (.pointer (some ⟨w.heap.size + 1, 0, none⟩)) 35 rfl rfl (fun w' hw' => ?_) hHeld ?_
    ·first | (go_simp; done) | (obtain ⟨s0, s1, s2, s3, s4, s5, s6, s7, s8, s9, s10, s11⟩ := hw'; go_simp; done) | (obtain ⟨s0, s1, s2, s3, s4, s5, s6, s7⟩ := hw'; go_simp; done) | (obtain ⟨s0, s1⟩ := hw'; go_simp; done)
    try simp only [Act.put, put1, put2, put3]
    refine tkY 4 (.int .i64 a) 36 rfl rfl (fun w' hw' => ?_) hHeld ?_
    ·first | (go_simp; done) | (obtain ⟨s0, s1, s2, s3, s4, s5, s6, s7, s8, s9, s10, s11⟩ := hw'; go_simp; done) | (obtain ⟨s0, s1, s2, s3, s4, s5, s6, s7⟩ := hw'; go_simp; done) | (obtain ⟨s0, s1⟩ := hw'; go_simp; done)
    try simp only [Act.put, put1, put2, put3]
    refine wpAnyH_ready (rs := [2]) (by kernel_rfl) (by simp) ?_
    refine AllReadyH.cons rfl (fun K hK => ?_) AllReadyH.nil
    go_simp
    refine (atomsIn_calls _ _ _ _ (hh2.later R0.drew).ints).mono ?_
    rintro e w' ⟨rfl, rfl⟩
    refine hK.out _ _ (K8 _ R0.drew) (fun hHeld => ?_)
    clear hK K
    try simp only [Act.put, put1, put2, put3]
    refine wpAnyH_ready (rs := [5]) (by kernel_rfl) (by simp) ?_
    refine AllReadyH.cons rfl (fun K hK => ?_) AllReadyH.nil
    go_simp
    refine (has_calls _ _ _ hml2 fa).mono ?_
    rintro e w' ⟨he, rfl⟩
    rw [hHH] at he
    subst he
    refine hK.out _ _ (K8 _ R0.drew) (fun hHeld => ?_)
    clear hK K
    try simp only [Act.put, put1, put2, put3]
    refine tkY 6 (.bool false) 38 rfl rfl (fun w' hw' => ?_) hHeld ?_
    ·first | (go_simp; done) | (obtain ⟨s0, s1, s2, s3, s4, s5, s6, s7, s8, s9, s10, s11⟩ := hw'; go_simp; done) | (obtain ⟨s0, s1, s2, s3, s4, s5, s6, s7⟩ := hw'; go_simp; done) | (obtain ⟨s0, s1⟩ := hw'; go_simp; done)
    try simp only [Act.put, put1, put2, put3]
    refine tkN 7 39 rfl rfl hHeld ?_
    try simp only [Act.put, put1, put2, put3]
    refine tkN 8 40 rfl rfl hHeld ?_
    try simp only [Act.put, put1, put2, put3]
    refine tkN 9 41 rfl rfl hHeld ?_
    try simp only [Act.put, put1, put2, put3]
    refine tkN 10 42 rfl rfl hHeld ?_
    try simp only [Act.put, put1, put2, put3]
    refine tkN 11 43 rfl rfl hHeld ?_
    try simp only [Act.put, put1, put2, put3]
    refine tkN 12 44 rfl rfl hHeld ?_
    try simp only [Act.put, put1, put2, put3]
    refine tkN 13 45 rfl rfl hHeld ?_
    try simp only [Act.put, put1, put2, put3]
    refine tkY 14 (.bool false) 46 rfl rfl (fun w' hw' => ?_) hHeld ?_
    ·first | (go_simp; done) | (obtain ⟨s0, s1, s2, s3, s4, s5, s6, s7, s8, s9, s10, s11⟩ := hw'; go_simp; done) | (obtain ⟨s0, s1, s2, s3, s4, s5, s6, s7⟩ := hw'; go_simp; done) | (obtain ⟨s0, s1⟩ := hw'; go_simp; done)
    try simp only [Act.put, put1, put2, put3]
    refine tkY 15 (.bool false) 4 rfl rfl (fun w' hw' => ?_) hHeld ?_
    ·first | (go_simp; done) | (obtain ⟨s0, s1, s2, s3, s4, s5, s6, s7, s8, s9, s10, s11⟩ := hw'; go_simp; done) | (obtain ⟨s0, s1, s2, s3, s4, s5, s6, s7⟩ := hw'; go_simp; done) | (obtain ⟨s0, s1⟩ := hw'; go_simp; done)
    try simp only [Act.put, put1, put2, put3]
    refine wpAnyH_done (by kernel_rfl) ?_ _
    go_wp2
    go_ret
    exact ⟨ret_bool (hv.out.trans hGF.out).symm, t2.drew⟩
   ·rw [hHd] at hHH
    have hGT : Hid (givB q.rules ts xs a ((n : Int).toNat) = reachI (nth q.rules n) (maskOf ts) (maskOf xs)) := by show _ = _; rw [hGV.out, hHd, reachI_h2 hok12 hfr]; rfl
    go_region_held3 (fun W' => W'.cell? ⟨w1.heap.size, 0, none⟩ = some (.bool (nth q.rules n).choice) ∧ W'.cell? ⟨w1.heap.size, 1, none⟩ = some (.slice ah (nth q.rules n).heads.length kh) ∧ W'.cell? ⟨w1.heap.size, 2, none⟩ = some (.bool (nth q.rules n).weight) ∧ W'.cell? ⟨w1.heap.size, 3, none⟩ = some (.int .i64 (nth q.rules n).bound) ∧ W'.cell? ⟨w1.heap.size, 4, none⟩ = some (.slice ab (nth q.rules n).body.length kb) ∧ W'.cell? ⟨w.heap.size, 8, none⟩ = some (.int .u16 (maskOf xs : Int)) ∧ W'.cell? ⟨w.heap.size, 9, none⟩ = some (.int .u16 (maskOf ts : Int)) ∧ W'.cell? ⟨w.heap.size + 1, 0, none⟩ = some (.int .i64 a))
     (first | exact K8 _ R0 | exact K8 _ R0.drew | exact K8 _ (R0.drew.step b3))
     (first | (go_at_call 76; refine (atomsIn_calls _ _ _ _ (hh2.later R0.drew).ints).mono ?_; rintro e w' ⟨rfl, rfl⟩) |
      (go_at_call 174; refine (has_calls _ _ _ hml2 fa).mono ?_; rintro e w' ⟨he, rfl⟩; rw [hHH] at he; subst he) |
      (go_at_call 166; refine (implReach2_calls _ _ hmt hmx (Rd.mono R0.drew hR2) hok12).mono ?_; rintro e w3 ⟨rfl, b3⟩))
    go_wp2
    go_ret
    exact ⟨ret_bool (hv.out.trans hGT.out).symm, t2.drew.step b3⟩
end


section
attribute [local go_sem] Oper.semAt_some

theorem pickTo_prefix (f : Int → Bool) : ∀ {n m : Nat}, n ≤ m → pickTo f n <+: pickTo f m
 | n, 0, h => by
   obtain rfl : n = 0 := by omega
   exact List.prefix_refl _
 | n, m + 1, h => by
  rcases Nat.lt_or_ge m n with hk | hk
  ·obtain rfl : n = m + 1 := by omega
   exact List.prefix_refl _
  ·refine List.IsPrefix.trans (pickTo_prefix f hk) ?_
   cases hf : f ((m : Int) + 1)
   ·rw [pickTo_no hf]; exact List.prefix_refl _
   ·rw [pickTo_yes hf]; exact List.prefix_append _ _
/-- An atom of a mask. -/
abbrev AtomL (m : Nat) := { x : Int // (1 ≤ x ∧ x ≤ 12) ∧ hasM m x = true }


theorem cellsAtY {W : World} {b : Nat} {cs : List Value} {t : TypeId} (h : W.heap[b]? = some (.cells cs.toArray t (0, 0))) : Cells W b 0 cs := fun j v hv => by
 rw [Nat.zero_add, cell_of_row W b j _ _ _ h]; simpa using hv
/-- The next Reason as two numbers. -/
def nxV (o : Option (Int × Int)) : Int × Int := o.getD (0, 0)


end

set_option maxHeartbeats 4000000 in
theorem viewOf_no {cs : List Value} {p : ProgD} {w : World} {v : Value} {xs : List Int} (h : Rd.R w cs p) (gx : RdL w [v] xs) (hn : whyB p xs = false) :
  Calls Tryz.prog 84 #[.agg cs.toArray, v] w fun e w' => e = .returned (.tuple #[.agg #[.int .i64 0, .slice none 0 0, .slice none 0 0, .bool false, .slice none 0 0, .slice none 0 0, .slice none 0 0, .slice none 0 0, .int .u16 0], .bool false]) ∧ Below w.heap.size w w' := by
 cases hF : foldB p
 ·skip
  obtain ⟨p0, p1, p2, p3, p4, p5, p6, p7, rfl⟩ := list8 (Rd.len h)
  obtain ⟨ax, cx, rfl, _, hx⟩ := gx.sl
  have hxm := hx.1
  have t0 : Below w.heap.size w ((w.alloc (.cells #[p0, p1, p2, p3, p4, p5, p6, p7] 30)).alloc (.cells #[.int .i64 0, .slice none 0 0, .slice none 0 0, .bool false, .slice none 0 0, .slice none 0 0, .slice none 0 0, .slice none 0 0, .int .u16 0] 120)) := ((Below.refl _ _).alloc (by simp) _).alloc (by simp) _
  have hz := alloc_block (w.alloc (.cells #[p0, p1, p2, p3, p4, p5, p6, p7] 30)) #[.int .i64 0, .slice none 0 0, .slice none 0 0, .bool false, .slice none 0 0, .slice none 0 0, .slice none 0 0, .slice none 0 0, .int .u16 0] 120
  rw [World.size_alloc] at hz
  have hs0 : ((w.alloc (.cells #[p0, p1, p2, p3, p4, p5, p6, p7] 30)).alloc (.cells #[.int .i64 0, .slice none 0 0, .slice none 0 0, .bool false, .slice none 0 0, .slice none 0 0, .slice none 0 0, .slice none 0 0, .int .u16 0] 120)).heap.size = w.heap.size + 2 := by simp
  go_enter Tryz.func84, Tryz.ntmps84
  go_wp2_with fail
  refine (implFold_calls (Rd.mono t0 h)).mono ?_
  rintro e w1 ⟨cs1, he, o1, b1⟩
  rw [hF] at he
  subst he
  have t1 := t0.step b1
  have l1 := Rd.one o1.rd
  obtain ⟨x0, x1, x2, x3, x4, x5, x6, x7, rfl⟩ := list8 (Rd.len o1.rd)
  have st0 := sto Tryz.prog (l1 x0 (by simp))
  have st1 := sto Tryz.prog (l1 x1 (by simp))
  have st2 := sto Tryz.prog (l1 x2 (by simp))
  have st3 := sto Tryz.prog (l1 x3 (by simp))
  have st4 := sto Tryz.prog (l1 x4 (by simp))
  have st5 := sto Tryz.prog (l1 x5 (by simp))
  have st6 := sto Tryz.prog (l1 x6 (by simp))
  have st7 := sto Tryz.prog (l1 x7 (by simp))
  have o1 := o1.alloc (.cells #[x0, x1, x2, x3, x4, x5, x6, x7] 30)
  have CX1 := Cells.new w1 [x0, x1, x2, x3, x4, x5, x6, x7] 30
  have t1 := t1.alloc t1.size (.cells #[x0, x1, x2, x3, x4, x5, x6, x7] 30)
  clear l1
  have hz1 := (Below.heap_alloc w1 (.cells #[x0, x1, x2, x3, x4, x5, x6, x7] 30) (w.heap.size + 1) (by have := b1.size; omega)).trans ((b1.block _ (block_lt hz)).trans hz)
  have hbs : w.heap.size + 2 ≤ w1.heap.size := by have := b1.size; omega
  have hlz : w.heap.size + 1 < w1.heap.size := by omega
  go_upto_region 3 with fail
  clear st0 st1 st2 st3 st4 st5 st6 st7
  generalize w1.alloc (.cells #[x0, x1, x2, x3, x4, x5, x6, x7] 30) = wq at *
  have hfz := fun j => frozen_of_row wq (w.heap.size + 1) j _ _ hz1
  have hzl := block_lt hz1
  obtain ⟨z0, z1, z2, z3, z4, z5, z6, z7, z8⟩ := cells9 (cellsAtY (W := wq) (b := w.heap.size + 1) (cs := [.int .i64 0, .slice none 0 0, .slice none 0 0, .bool false, .slice none 0 0, .slice none 0 0, .slice none 0 0, .slice none 0 0, .int .u16 0]) hz1)
  clear hz1
  go_wp2
  refine bodyPost_ret (v := .tuple #[.agg #[.int .i64 0, .slice none 0 0, .slice none 0 0, .bool false, .slice none 0 0, .slice none 0 0, .slice none 0 0, .slice none 0 0, .int .u16 0], .bool false])
   (by simp [results, Tryz.results84, go_sem, z0, z1, z2, z3, z4, z5, z6, z7, z8]) rfl ?_
  refine ⟨rfl, ?_⟩
  repeat (refine Below.setCell ?_ (by simp; try omega) _)
  exact t1
 ·have hS : setOkB xs (foldD p).atoms = false := by rw [← whyB_B hF]; exact hn
  obtain ⟨p0, p1, p2, p3, p4, p5, p6, p7, rfl⟩ := list8 (Rd.len h)
  obtain ⟨ax, cx, rfl, _, hx⟩ := gx.sl
  have hxm := hx.1
  have t0 : Below w.heap.size w ((w.alloc (.cells #[p0, p1, p2, p3, p4, p5, p6, p7] 30)).alloc (.cells #[.int .i64 0, .slice none 0 0, .slice none 0 0, .bool false, .slice none 0 0, .slice none 0 0, .slice none 0 0, .slice none 0 0, .int .u16 0] 120)) := ((Below.refl _ _).alloc (by simp) _).alloc (by simp) _
  have hz := alloc_block (w.alloc (.cells #[p0, p1, p2, p3, p4, p5, p6, p7] 30)) #[.int .i64 0, .slice none 0 0, .slice none 0 0, .bool false, .slice none 0 0, .slice none 0 0, .slice none 0 0, .slice none 0 0, .int .u16 0] 120
  rw [World.size_alloc] at hz
  have hs0 : ((w.alloc (.cells #[p0, p1, p2, p3, p4, p5, p6, p7] 30)).alloc (.cells #[.int .i64 0, .slice none 0 0, .slice none 0 0, .bool false, .slice none 0 0, .slice none 0 0, .slice none 0 0, .slice none 0 0, .int .u16 0] 120)).heap.size = w.heap.size + 2 := by simp
  go_enter Tryz.func84, Tryz.ntmps84
  go_wp2_with fail
  refine (implFold_calls (Rd.mono t0 h)).mono ?_
  rintro e w1 ⟨cs1, he, o1, b1⟩
  rw [hF] at he
  subst he
  have t1 := t0.step b1
  have l1 := Rd.one o1.rd
  obtain ⟨x0, x1, x2, x3, x4, x5, x6, x7, rfl⟩ := list8 (Rd.len o1.rd)
  have st0 := sto Tryz.prog (l1 x0 (by simp))
  have st1 := sto Tryz.prog (l1 x1 (by simp))
  have st2 := sto Tryz.prog (l1 x2 (by simp))
  have st3 := sto Tryz.prog (l1 x3 (by simp))
  have st4 := sto Tryz.prog (l1 x4 (by simp))
  have st5 := sto Tryz.prog (l1 x5 (by simp))
  have st6 := sto Tryz.prog (l1 x6 (by simp))
  have st7 := sto Tryz.prog (l1 x7 (by simp))
  have o1 := o1.alloc (.cells #[x0, x1, x2, x3, x4, x5, x6, x7] 30)
  have CX1 := Cells.new w1 [x0, x1, x2, x3, x4, x5, x6, x7] 30
  have t1 := t1.alloc t1.size (.cells #[x0, x1, x2, x3, x4, x5, x6, x7] 30)
  clear l1
  have hz1 := (Below.heap_alloc w1 (.cells #[x0, x1, x2, x3, x4, x5, x6, x7] 30) (w.heap.size + 1) (by have := b1.size; omega)).trans ((b1.block _ (block_lt hz)).trans hz)
  have hbs : w.heap.size + 2 ≤ w1.heap.size := by have := b1.size; omega
  have hlz : w.heap.size + 1 < w1.heap.size := by omega
  rw [foldR_yes hF] at o1
  obtain ⟨y0, y1, y2, y3, y4, y5, y6, y7⟩ := cells8 CX1
  have oR := o1.rd
  obtain ⟨_, _, _, _, _, _, hl, _⟩ := oR
  simp only [List.cons.injEq, and_true] at hl
  obtain ⟨rfl, -⟩ := hl
  have hx1 := (hx.later t1).ints
  go_upto_region 3 with (go_at_call 97; refine (implSetOk_calls _ _ _ _ _ hx1).mono ?_; rintro e w' ⟨he, rfl⟩; rw [hS] at he; subst he)
  clear st0 st1 st2 st3 st4 st5 st6 st7 y0 y1 y2 y3 y4 y5 y6 y7 o1 CX1 hx1
  generalize w1.alloc (.cells #[.int .i64 (foldD p).atoms, x1, x2, x3, x4, x5, x6, x7] 30) = wq at *
  have hfz := fun j => frozen_of_row wq (w.heap.size + 1) j _ _ hz1
  have hzl := block_lt hz1
  obtain ⟨z0, z1, z2, z3, z4, z5, z6, z7, z8⟩ := cells9 (cellsAtY (W := wq) (b := w.heap.size + 1) (cs := [.int .i64 0, .slice none 0 0, .slice none 0 0, .bool false, .slice none 0 0, .slice none 0 0, .slice none 0 0, .slice none 0 0, .int .u16 0]) hz1)
  clear hz1
  go_wp2
  refine bodyPost_ret (v := .tuple #[.agg #[.int .i64 0, .slice none 0 0, .slice none 0 0, .bool false, .slice none 0 0, .slice none 0 0, .slice none 0 0, .slice none 0 0, .int .u16 0], .bool false])
   (by simp [results, Tryz.results84, go_sem, z0, z1, z2, z3, z4, z5, z6, z7, z8]) rfl ?_
  refine ⟨rfl, ?_⟩
  repeat (refine Below.setCell ?_ (by simp; try omega) _)
  exact t1

theorem cells_put {W : World} {b g : Nat} {cs vs : List Value} (h : Cells W b 0 cs) (hne : b ≠ g) : Cells (put W g 0 vs) b 0 cs := fun j v hv => by
 have := h j v hv
 rw [← this]
 exact World.cell?_of_block (a := ⟨b, 0 + j, none⟩) ((put_chg g vs W 0).block b (by simpa using hne))
set_option maxHeartbeats 4000000 in
theorem viewOf_yes {cs : List Value} {p : ProgD} {w : World} {v : Value} {xs : List Int} (h : Rd.R w cs p) (gx : RdL w [v] xs) (hn : whyB p xs = true) :
  Calls Tryz.prog 84 #[.agg cs.toArray, v] w fun e w' => ∃ x0 x1 x2 x3 x4 x5 x6 x7, e = .returned (.tuple #[.agg #[x0, x1, x2, x3, x4, x5, x6, x7, .int .u16 (maskOf xs : Int)], .bool true]) ∧ Own w.heap.size w' [x0, x1, x2, x3, x4, x5, x6, x7] (foldD p) ∧ Below w.heap.size w w' := by
 obtain ⟨hF, hS⟩ := whyB_fold hn
 have hmx := maskOf_lt xs
 obtain ⟨p0, p1, p2, p3, p4, p5, p6, p7, rfl⟩ := list8 (Rd.len h)
 obtain ⟨ax, cx, rfl, _, hx⟩ := gx.sl
 have hxm := hx.1
 have t0 : Below w.heap.size w ((w.alloc (.cells #[p0, p1, p2, p3, p4, p5, p6, p7] 30)).alloc (.cells #[.int .i64 0, .slice none 0 0, .slice none 0 0, .bool false, .slice none 0 0, .slice none 0 0, .slice none 0 0, .slice none 0 0, .int .u16 0] 120)) := ((Below.refl _ _).alloc (by simp) _).alloc (by simp) _
 have hz := alloc_block (w.alloc (.cells #[p0, p1, p2, p3, p4, p5, p6, p7] 30)) #[.int .i64 0, .slice none 0 0, .slice none 0 0, .bool false, .slice none 0 0, .slice none 0 0, .slice none 0 0, .slice none 0 0, .int .u16 0] 120
 rw [World.size_alloc] at hz
 have hs0 : ((w.alloc (.cells #[p0, p1, p2, p3, p4, p5, p6, p7] 30)).alloc (.cells #[.int .i64 0, .slice none 0 0, .slice none 0 0, .bool false, .slice none 0 0, .slice none 0 0, .slice none 0 0, .slice none 0 0, .int .u16 0] 120)).heap.size = w.heap.size + 2 := by simp
 go_enter Tryz.func84, Tryz.ntmps84
 go_wp2_with fail
 refine (implFold_calls (Rd.mono t0 h)).mono ?_
 rintro e w1 ⟨cs1, he, o1, b1⟩
 rw [hF] at he
 subst he
 have t1 := t0.step b1
 have l1 := Rd.one o1.rd
 obtain ⟨x0, x1, x2, x3, x4, x5, x6, x7, rfl⟩ := list8 (Rd.len o1.rd)
 have st0 := sto Tryz.prog (l1 x0 (by simp))
 have st1 := sto Tryz.prog (l1 x1 (by simp))
 have st2 := sto Tryz.prog (l1 x2 (by simp))
 have st3 := sto Tryz.prog (l1 x3 (by simp))
 have st4 := sto Tryz.prog (l1 x4 (by simp))
 have st5 := sto Tryz.prog (l1 x5 (by simp))
 have st6 := sto Tryz.prog (l1 x6 (by simp))
 have st7 := sto Tryz.prog (l1 x7 (by simp))
 have o1 := o1.alloc (.cells #[x0, x1, x2, x3, x4, x5, x6, x7] 30)
 have CX1 := Cells.new w1 [x0, x1, x2, x3, x4, x5, x6, x7] 30
 have t1 := t1.alloc t1.size (.cells #[x0, x1, x2, x3, x4, x5, x6, x7] 30)
 clear l1
 have hz1 := (Below.heap_alloc w1 (.cells #[x0, x1, x2, x3, x4, x5, x6, x7] 30) (w.heap.size + 1) (by have := b1.size; omega)).trans ((b1.block _ (block_lt hz)).trans hz)
 have hbs : w.heap.size + 2 ≤ w1.heap.size := by have := b1.size; omega
 have hlz : w.heap.size + 1 < w1.heap.size := by omega
 rw [foldR_yes hF] at o1
 obtain ⟨y0, y1, y2, y3, y4, y5, y6, y7⟩ := cells8 CX1
 have oR := o1.rd
 obtain ⟨_, _, _, _, _, _, hl, _⟩ := oR
 simp only [List.cons.injEq, and_true] at hl
 obtain ⟨rfl, -⟩ := hl
 have hx1 := (hx.later t1).ints
 go_upto_region 4 with (go_at_call 97; refine (implSetOk_calls _ _ _ _ _ hx1).mono ?_; rintro e w' ⟨he, rfl⟩; rw [hS] at he; subst he)
 clear y0 y1 y2 y3 y4 y5 y6 y7
 have hx2 := (hx.later t1.drew).ints
 have o2 := o1.drew
 have t2 := t1.drew
 have CX2 := CX1.drew
 have hz2 : (w1.alloc (.cells #[.int .i64 (foldD p).atoms, x1, x2, x3, x4, x5, x6, x7] 30)).drew.heap[w.heap.size + 1]? = _ := hz1
 have hzs : w1.heap.size < (w1.alloc (.cells #[.int .i64 (foldD p).atoms, x1, x2, x3, x4, x5, x6, x7] 30)).drew.heap.size := by show w1.heap.size < (w1.alloc _).heap.size; simp
 clear hx1 t1 CX1 hz1
 have hfz := fun j => frozen_of_row _ (w.heap.size + 1) j _ _ hz2
 have hzl := block_lt hz2
 obtain ⟨z0, z1, z2, z3, z4, z5, z6, z7, z8⟩ := cells9 (cellsAtY (W := _) (b := w.heap.size + 1) (cs := [.int .i64 0, .slice none 0 0, .slice none 0 0, .bool false, .slice none 0 0, .slice none 0 0, .slice none 0 0, .slice none 0 0, .int .u16 0]) hz2)
 refine wp_region_held_drew (S := fun W' => W'.cell? ⟨w1.heap.size, 0, none⟩ = some (.int .i64 (foldD p).atoms) ∧ W'.cell? ⟨w1.heap.size, 1, none⟩ = some x1 ∧ W'.cell? ⟨w1.heap.size, 2, none⟩ = some x2 ∧ W'.cell? ⟨w1.heap.size, 3, none⟩ = some x3 ∧ W'.cell? ⟨w1.heap.size, 4, none⟩ = some x4 ∧ W'.cell? ⟨w1.heap.size, 5, none⟩ = some x5 ∧ W'.cell? ⟨w1.heap.size, 6, none⟩ = some x6 ∧ W'.cell? ⟨w1.heap.size, 7, none⟩ = some x7) (by kernel_rfl) (cells8 CX2) (fun hHeld => ?_)
 generalize (w1.alloc (.cells #[.int .i64 (foldD p).atoms, x1, x2, x3, x4, x5, x6, x7] 30)).drew = wq at *
 refine tkY 0 (.agg #[.int .i64 (foldD p).atoms, x1, x2, x3, x4, x5, x6, x7]) 23 rfl rfl (fun w' hw' => ?_) hHeld ?_
 ·first | (go_simp; done) | (obtain ⟨s0, s1, s2, s3, s4, s5, s6, s7, s8, s9, s10, s11⟩ := hw'; go_simp; done) | (obtain ⟨s0, s1, s2, s3, s4, s5, s6, s7⟩ := hw'; go_simp; done) | (obtain ⟨s0, s1⟩ := hw'; go_simp; done)
 try simp only [Act.put, put1, put2, put3]
 refine tkY 1 (.slice ax xs.length cx) 24 rfl rfl (fun w' hw' => ?_) hHeld ?_
 ·first | (go_simp; done) | (obtain ⟨s0, s1, s2, s3, s4, s5, s6, s7, s8, s9, s10, s11⟩ := hw'; go_simp; done) | (obtain ⟨s0, s1, s2, s3, s4, s5, s6, s7⟩ := hw'; go_simp; done) | (obtain ⟨s0, s1⟩ := hw'; go_simp; done)
 try simp only [Act.put, put1, put2, put3]
 refine wpAnyH_ready (rs := [2]) (by kernel_rfl) (by simp) ?_
 refine AllReadyH.cons rfl (fun K hK => ?_) AllReadyH.nil
 go_simp
 refine (atomsIn_calls _ _ _ _ hx2).mono ?_
 rintro e w' ⟨rfl, rfl⟩
 refine hK.out _ _ (cells8 CX2) (fun hHeld => ?_)
 clear hK K
 try simp only [Act.put, put1, put2, put3]
 refine tkY 3 (.agg #[.int .i64 (foldD p).atoms, x1, x2, x3, x4, x5, x6, x7, .int .u16 (maskOf xs : Int)]) 26 rfl rfl (fun w' hw' => ?_) hHeld ?_
 ·first | (go_simp; done) | (obtain ⟨s0, s1, s2, s3, s4, s5, s6, s7, s8, s9, s10, s11⟩ := hw'; go_simp; done) | (obtain ⟨s0, s1, s2, s3, s4, s5, s6, s7⟩ := hw'; go_simp; done) | (obtain ⟨s0, s1⟩ := hw'; go_simp; done)
 try simp only [Act.put, put1, put2, put3]
 refine wpAnyH_ready (rs := [4]) (by kernel_rfl) (by simp) ?_
 refine AllReadyH.cons rfl (fun K hK => ?_) AllReadyH.nil
 go_simp
 refine hK.out _ _ (cells8 (cells_put (g := w.heap.size + 1) (vs := [.int .i64 (foldD p).atoms, x1, x2, x3, x4, x5, x6, x7, .int .u16 (maskOf xs : Int)]) CX2 (by omega))) (fun hHeld => ?_)
 clear hK K
 try simp only [Act.put, put1, put2, put3]
 refine tkY 5 (.bool true) 5 rfl rfl (fun w' hw' => ?_) hHeld ?_
 ·first | (go_simp; done) | (obtain ⟨s0, s1, s2, s3, s4, s5, s6, s7, s8, s9, s10, s11⟩ := hw'; go_simp; done) | (obtain ⟨s0, s1, s2, s3, s4, s5, s6, s7⟩ := hw'; go_simp; done) | (obtain ⟨s0, s1⟩ := hw'; go_simp; done)
 try simp only [Act.put, put1, put2, put3]
 refine wpAnyH_done (by kernel_rfl) ?_ _
 go_wp2
 refine bodyPost_ret (v := .tuple #[.agg #[.int .i64 (foldD p).atoms, x1, x2, x3, x4, x5, x6, x7, .int .u16 (maskOf xs : Int)], .bool true])
  (by simp [results, Tryz.results84, go_sem, z0, z1, z2, z3, z4, z5, z6, z7, z8]) rfl ⟨_, _, _, _, _, _, _, _, rfl, ?_, ?_⟩
 ·
  obtain ⟨fp, hO, hfp⟩ := o2
  exact ⟨fp, Ow.kept (w' := put wq (w.heap.size + 1) 0 [.int .i64 (foldD p).atoms, x1, x2, x3, x4, x5, x6, x7, .int .u16 (maskOf xs : Int)]) hO fun f hf => (put_chg (w.heap.size + 1) _ wq 0).block f (by have := hfp f hf; simp; omega), fun f hf => by have := hfp f hf; omega⟩
 ·repeat (refine Below.setCell ?_ (by simp; try omega) _)
  exact t2

/-! ### WhyF -/
theorem info_rs : (Tryz.prog.info? 118).map (fun i => (i.zero, i.size, i.bytes)) = some (some (.agg #[.int .i64 0, .int .i64 0]), 2, 16) := by kernel_rfl
theorem flat_keep {α : Type} [Fl α] {B : Nat} {e : TypeId} {w w' : World} {v : Value} {xs : List α} (h : OwnF B e w v xs) (hk : ∀ g, B ≤ g → g < w.heap.size → w'.heap[g]? = w.heap[g]?) : OwnF B e w' v xs := by
 obtain ⟨⟨h1, h2⟩, h3⟩ := h
 refine ⟨⟨h1, ?_⟩, h3⟩
 rcases h2 with h2 | ⟨g, cap, cur, e, hB, hh, hr⟩
 ·exact .inl h2
 ·exact .inr ⟨g, cap, cur, e, hB, (hk g hB (block_lt hh)).trans hh, hr⟩
theorem flat_mono {α : Type} [Fl α] {B B' : Nat} {e : TypeId} {w : World} {v : Value} {xs : List α} (h : OwnF B e w v xs) (hB : B' ≤ B) : OwnF B' e w v xs := by
 obtain ⟨⟨h1, h2⟩, h3⟩ := h
 refine ⟨⟨h1, ?_⟩, h3⟩
 rcases h2 with h2 | ⟨g, cap, cur, e, hg, hr⟩
 ·exact .inl h2
 ·exact .inr ⟨g, cap, cur, e, Nat.le_trans hB hg, hr⟩
theorem flat_sl {α : Type} [Fl α] {B : Nat} {e : TypeId} {w : World} {v : Value} {xs : List α} (h : OwnF B e w v xs) : ∃ a c, v = .slice a xs.length c ∧ ∀ g, v.ownBlock = some g → B ≤ g ∧ g < w.heap.size := by
 obtain ⟨⟨h1, h2⟩, h3⟩ := h
 rcases h2 with ⟨rfl, hn⟩ | ⟨g, cap, cur, rfl, hg, hh, hr⟩
 ·exact ⟨none, 0, by rw [hn], fun g hg => by simp [Value.ownBlock] at hg⟩
 ·exact ⟨_, _, rfl, fun g' hg' => by simp [Value.ownBlock] at hg'; subst hg'; exact ⟨hg, block_lt hh⟩⟩
def lenS : Value → Nat
 | .slice _ n _ => n
 | _ => 0

set_option maxHeartbeats 2000000 in
theorem take_calls {x0 x1 x2 x3 x4 x5 x6 x7 : Value} {b m : Nat} {w : World} (ts : List Int) (a i : Int) (fa : Fits a) (hB : w.heap[b]? = some (.cells #[x0, x1, x2, x3, x4, x5, x6, x7, .int .u16 (m : Int), .int .u16 (maskOf ts : Int)] 124 (0, 0))) :
  Calls Tryz.prog 86 #[.pointer (some ⟨b, 0, none⟩), .agg #[.int .i64 a, .int .i64 i]] w fun e w' => (∃ r, e = .returned r) ∧ w'.heap[b]? = some (.cells #[x0, x1, x2, x3, x4, x5, x6, x7, .int .u16 (m : Int), .int .u16 (maskOf (ts ++ [a]) : Int)] 124 (0, 0)) ∧ Below b w w' ∧ (∀ g, g ≠ b → g < w.heap.size → w'.heap[g]? = w.heap[g]?) ∧ w.heap.size ≤ w'.heap.size := by
 have hm := maskOf_lt ts
 have hbl := bitN_lt a
 have hlt := block_lt hB
 have bA := (Below.refl w.heap.size w).alloc (Nat.le_refl _) (.cells #[.int .i64 a, .int .i64 i] 118)
 have CY := Cells.new w [.int .i64 a, .int .i64 i] 118
 have hB1 := (Below.heap_alloc w (.cells #[.int .i64 a, .int .i64 i] 118) b hlt).trans hB
 have hsz : (w.alloc (.cells #[.int .i64 a, .int .i64 i] 118)).heap.size = w.heap.size + 1 := World.size_alloc _ _
 go_enter Tryz.func86, Tryz.ntmps86
 go_upto_region 1 with fail
 obtain ⟨z0, _⟩ := cells2 CY
 have y9 : (w.alloc (.cells #[.int .i64 a, .int .i64 i] 118)).cell? ⟨b, 9, none⟩ = some (.int .u16 (maskOf ts : Int)) := by rw [cell_of_row _ b 9 _ _ _ hB1]; rfl
 have f9 := frozen_of_row (w.alloc (.cells #[.int .i64 a, .int .i64 i] 118)) b 9 _ _ hB1
 generalize w.alloc (.cells #[.int .i64 a, .int .i64 i] 118) = wq at *
 have z0 : wq.drew.cell? ⟨w.heap.size, 0, none⟩ = some (.int .i64 a) := z0
 have y9 : wq.drew.cell? ⟨b, 9, none⟩ = some (.int .u16 (maskOf ts : Int)) := y9
 have f9 : wq.drew.frozen? ⟨b, 9, none⟩ = false := f9
 have hB1 : wq.drew.heap[b]? = _ := hB1
 have bA := bA.drew
 have hsz : wq.drew.heap.size = w.heap.size + 1 := hsz
 refine wp_region_held_drew (S := fun W' => W'.cell? ⟨w.heap.size, 0, none⟩ = some (.int .i64 a)) (by kernel_rfl) z0 (fun hHeld => ?_)
 generalize wq.drew = wp at *
 refine tkY 0 (.pointer (some ⟨b, 0, none⟩)) 4 rfl rfl (fun w' hw' => ?_) hHeld ?_
 ·first | (go_simp; done) | (obtain ⟨s0, s1⟩ := hw'; go_simp; done)
 try simp only [Act.put, put1, put2, put3]
 refine tkY 1 (.pointer (some ⟨b, 0, none⟩)) 5 rfl rfl (fun w' hw' => ?_) hHeld ?_
 ·first | (go_simp; done) | (obtain ⟨s0, s1⟩ := hw'; go_simp; done)
 try simp only [Act.put, put1, put2, put3]
 refine tkY 2 (.pointer (some ⟨b, 0, none⟩)) 6 rfl rfl (fun w' hw' => ?_) hHeld ?_
 ·first | (go_simp; done) | (obtain ⟨s0, s1⟩ := hw'; go_simp; done)
 try simp only [Act.put, put1, put2, put3]
 refine tkY 3 (.pointer (some ⟨b, 9, none⟩)) 7 rfl rfl (fun w' hw' => ?_) hHeld ?_
 ·first | (go_simp; done) | (obtain ⟨s0, s1⟩ := hw'; go_simp; done)
 try simp only [Act.put, put1, put2, put3]
 refine tkY 5 (.pointer (some ⟨w.heap.size, 0, none⟩)) 9 rfl rfl (fun w' hw' => ?_) hHeld ?_
 ·first | (go_simp; done) | (obtain ⟨s0, s1⟩ := hw'; go_simp; done)
 try simp only [Act.put, put1, put2, put3]
 refine tkY 6 (.int .i64 a) 10 rfl rfl (fun w' hw' => ?_) hHeld ?_
 ·first | (go_simp; done) | (obtain ⟨s0, s1⟩ := hw'; go_simp; done)
 try simp only [Act.put, put1, put2, put3]
 refine wpAnyH_ready (rs := [4, 7]) (by kernel_rfl) (by simp) ?_
 refine AllReadyH.cons rfl (fun K hK => ?_) (AllReadyH.cons rfl (fun K hK => ?_) AllReadyH.nil)
 ·go_simp
  refine hK.out _ _ z0 (fun hHeld => ?_)
  clear hK K
  try simp only [Act.put, put1, put2, put3]
  refine wpAnyH_ready (rs := [7]) (by kernel_rfl) (by simp) ?_
  refine AllReadyH.cons rfl (fun K hK => ?_) AllReadyH.nil
  go_simp
  refine (atomBit_calls a _ fa).mono ?_
  rintro e w' ⟨rfl, rfl⟩
  refine hK.out _ _ z0 (fun hHeld => ?_)
  clear hK K
  try simp only [Act.put, put1, put2, put3]
  refine wpAnyH_ready (rs := [8]) (by kernel_rfl) (by simp) ?_
  refine AllReadyH.cons rfl (fun K hK => ?_) AllReadyH.nil
  go_simp
  refine (joinN_calls _ _ _ hm hbl).mono ?_
  rintro e w' ⟨rfl, rfl⟩
  refine hK.out _ _ z0 (fun hHeld => ?_)
  clear hK K
  try simp only [Act.put, put1, put2, put3]
  refine tkY 9 (.pointer (some ⟨b, 0, none⟩)) 13 rfl rfl (fun w' hw' => ?_) hHeld ?_
  ·first | (go_simp; done) | (obtain ⟨s0, s1⟩ := hw'; go_simp; done)
  try simp only [Act.put, put1, put2, put3]
  refine tkY 10 (.pointer (some ⟨b, 9, none⟩)) 14 rfl rfl (fun w' hw' => ?_) hHeld ?_
  ·first | (go_simp; done) | (obtain ⟨s0, s1⟩ := hw'; go_simp; done)
  try simp only [Act.put, put1, put2, put3]
  refine wpAnyH_ready (rs := [11]) (by kernel_rfl) (by simp) ?_
  refine AllReadyH.cons rfl (fun K hK => ?_) AllReadyH.nil
  go_simp
  refine hK.out _ _ ((World.cell?_of_block (a := ⟨w.heap.size, 0, none⟩) (Below.heap_setCell _ _ _ _ (by simp; omega))).trans z0) (fun hHeld => ?_)
  clear hK K
  try simp only [Act.put, put1, put2, put3]
  refine wpAnyH_done (by kernel_rfl) ?_ _
  go_wp2
  go_end0
  refine ⟨⟨_, rfl⟩, ?_, ?_, ?_, ?_⟩
  ·rw [maskOf_snoc, heap_setCell_same _ b 9 _ _ _ hB1]; rfl
  ·exact (bA.mono (show b ≤ w.heap.size by omega)).setCell (p := ⟨b, 9, none⟩) (show b ≤ b from Nat.le_refl _) _
  ·intro g hg hgl
   exact (Below.heap_setCell _ _ _ _ (by simpa using hg)).trans (bA.block g hgl)
  ·have hbs9 := bA.size
   rw [World.size_setCell]
   exact hbs9
 ·go_simp
  refine (atomBit_calls a _ fa).mono ?_
  rintro e w' ⟨rfl, rfl⟩
  refine hK.out _ _ z0 (fun hHeld => ?_)
  clear hK K
  try simp only [Act.put, put1, put2, put3]
  refine wpAnyH_ready (rs := [4]) (by kernel_rfl) (by simp) ?_
  refine AllReadyH.cons rfl (fun K hK => ?_) AllReadyH.nil
  go_simp
  refine hK.out _ _ z0 (fun hHeld => ?_)
  clear hK K
  try simp only [Act.put, put1, put2, put3]
  refine wpAnyH_ready (rs := [8]) (by kernel_rfl) (by simp) ?_
  refine AllReadyH.cons rfl (fun K hK => ?_) AllReadyH.nil
  go_simp
  refine (joinN_calls _ _ _ hm hbl).mono ?_
  rintro e w' ⟨rfl, rfl⟩
  refine hK.out _ _ z0 (fun hHeld => ?_)
  clear hK K
  try simp only [Act.put, put1, put2, put3]
  refine tkY 9 (.pointer (some ⟨b, 0, none⟩)) 13 rfl rfl (fun w' hw' => ?_) hHeld ?_
  ·first | (go_simp; done) | (obtain ⟨s0, s1⟩ := hw'; go_simp; done)
  try simp only [Act.put, put1, put2, put3]
  refine tkY 10 (.pointer (some ⟨b, 9, none⟩)) 14 rfl rfl (fun w' hw' => ?_) hHeld ?_
  ·first | (go_simp; done) | (obtain ⟨s0, s1⟩ := hw'; go_simp; done)
  try simp only [Act.put, put1, put2, put3]
  refine wpAnyH_ready (rs := [11]) (by kernel_rfl) (by simp) ?_
  refine AllReadyH.cons rfl (fun K hK => ?_) AllReadyH.nil
  go_simp
  refine hK.out _ _ ((World.cell?_of_block (a := ⟨w.heap.size, 0, none⟩) (Below.heap_setCell _ _ _ _ (by simp; omega))).trans z0) (fun hHeld => ?_)
  clear hK K
  try simp only [Act.put, put1, put2, put3]
  refine wpAnyH_done (by kernel_rfl) ?_ _
  go_wp2
  go_end0
  refine ⟨⟨_, rfl⟩, ?_, ?_, ?_, ?_⟩
  ·rw [maskOf_snoc, heap_setCell_same _ b 9 _ _ _ hB1]; rfl
  ·exact (bA.mono (show b ≤ w.heap.size by omega)).setCell (p := ⟨b, 9, none⟩) (show b ≤ b from Nat.le_refl _) _
  ·intro g hg hgl
   exact (Below.heap_setCell _ _ _ _ (by simpa using hg)).trans (bA.block g hgl)
  ·have hbs9 := bA.size
   rw [World.size_setCell]
   exact hbs9



/-! ### WhyP -/
set_option maxHeartbeats 4000000 in
theorem implReasons_calls {cs : List Value} {p : ProgD} {w : World} {v v2 : Value} {xs : List Int} {l : List (Int × Int)} (h : Rd.R w cs p) (gx : RdL w [v] xs) (gl : RdL w [v2] l) :
  Calls Tryz.prog 22 #[.agg cs.toArray, v, v2] w fun e w' => e = .returned (.bool (reaB p xs l)) ∧ Below w.heap.size w w' := by
 obtain ⟨p0, p1, p2, p3, p4, p5, p6, p7, rfl⟩ := list8 (Rd.len h)
 obtain ⟨al, cl, rfl, _, hll⟩ := gl.sl
 have hlm := hll.1
 have t0 : Below w.heap.size w (w.alloc (.cells #[p0, p1, p2, p3, p4, p5, p6, p7] 30)) := (Below.refl _ _).alloc (by simp) _
 cases hW : whyB p xs
 ·have hv := Lib.hid (reaB_A (l := l) hW)
  go_enter Tryz.func22, Tryz.ntmps22
  go_wp2_with fail
  refine (viewOf_no (Rd.mono t0 h) (Rd.mono (α := List Int) t0 gx) hW).mono ?_
  rintro e w1 ⟨rfl, b1⟩
  go_wp2
  go_ret
  exact ⟨ret_bool hv.out.symm, (t0.step b1).alloc (t0.step b1).size _⟩
 ·have hv := Lib.hid (reaB_B (l := l) hW)
  have hP := whyB_isP hW
  have hok : progOkB (foldD p) = true := foldR_ok (whyB_fold hW).1
  have hr12 := rules12 hok
  have hlen := (progOk_rules hok).1
  go_enter Tryz.func22, Tryz.ntmps22
  go_wp2_with fail
  refine (viewOf_yes (Rd.mono t0 h) (Rd.mono (α := List Int) t0 gx) hW).mono ?_
  rintro e w1 ⟨x0, x1, x2, x3, x4, x5, x6, x7, rfl, o1, b1⟩
  have hRd := o1.rd
  have l1 := Rd.one hRd
  have st0 := sto Tryz.prog (l1 x0 (by simp))
  have st1 := sto Tryz.prog (l1 x1 (by simp))
  have st2 := sto Tryz.prog (l1 x2 (by simp))
  have st3 := sto Tryz.prog (l1 x3 (by simp))
  have st4 := sto Tryz.prog (l1 x4 (by simp))
  have st5 := sto Tryz.prog (l1 x5 (by simp))
  have st6 := sto Tryz.prog (l1 x6 (by simp))
  have st7 := sto Tryz.prog (l1 x7 (by simp))
  have t1 := t0.step b1
  obtain ⟨y0, y1, y2, y3, y4, y5, y6, y7, y8⟩ := cells9 (Cells.new w1 [x0, x1, x2, x3, x4, x5, x6, x7, .int .u16 (maskOf xs : Int)] 120)
  have bV := (Below.refl w1.heap.size w1).alloc (Nat.le_refl _) (.cells #[x0, x1, x2, x3, x4, x5, x6, x7, .int .u16 (maskOf xs : Int)] 120)
  have bA := bV.alloc (by simp) (.cells #[x0, x1, x2, x3, x4, x5, x6, x7, .int .u16 (maskOf xs : Int), .int .u16 0] 124)
  have hA0 := alloc_block (w1.alloc (.cells #[x0, x1, x2, x3, x4, x5, x6, x7, .int .u16 (maskOf xs : Int)] 120)) #[x0, x1, x2, x3, x4, x5, x6, x7, .int .u16 (maskOf xs : Int), .int .u16 0] 124
  rw [World.size_alloc] at hA0
  go_wp2
  clear st0 st1 st2 st3 st4 st5 st6 st7 y0 y1 y2 y3 y4 y5 y6 y7 y8
  have hzA : ((w1.alloc (.cells #[x0, x1, x2, x3, x4, x5, x6, x7, .int .u16 (maskOf xs : Int)] 120)).alloc (.cells #[x0, x1, x2, x3, x4, x5, x6, x7, .int .u16 (maskOf xs : Int), .int .u16 0] 124)).heap.size = w1.heap.size + 2 := by simp
  generalize (w1.alloc (.cells #[x0, x1, x2, x3, x4, x5, x6, x7, .int .u16 (maskOf xs : Int)] 120)).alloc (.cells #[x0, x1, x2, x3, x4, x5, x6, x7, .int .u16 (maskOf xs : Int), .int .u16 0] 124) = wa at *
  have LE := Lib.hid (fun h => lack_end (rs := (foldD p).rules) (l := l) hP h)
  go_loopw [24] (fun iv wr => ∃ k : Nat, k ≤ l.length ∧ iv = .int .i64 k ∧ Hid (alwTo (foldD p).rules xs l k = true) ∧ wr.heap[w1.heap.size + 1]? = some (.cells #[x0, x1, x2, x3, x4, x5, x6, x7, .int .u16 (maskOf xs : Int), .int .u16 (maskOf (fsts (l.take k)) : Int)] 124 (0, 0)) ∧ Below w1.heap.size w1 wr ∧ w1.heap.size + 2 ≤ wr.heap.size) (fun iv _ => l.length - (intOf iv).toNat)
  case atStart => exact ⟨0, Nat.zero_le _, rfl, (rfl : alwTo (foldD p).rules xs l 0 = true), hA0, bA, by omega⟩
  case round =>
   obtain ⟨k, hk, rfl, hA, hV, hB, hS⟩ := hrel
   clear hA0 bA bV hzA
   have tw := t1.trans (hB.mono t1.size)
   obtain ⟨ts, hts⟩ : ∃ ts, ts = fsts (l.take k) := ⟨_, rfl⟩
   rw [← hts] at hV
   have HTS := Lib.hid hts
   clear hts
   obtain ⟨y0, y1, y2, y3, y4, y5, y6, y7, y8, y9⟩ := cells10 (cellsAtY (cs := [x0, x1, x2, x3, x4, x5, x6, x7, .int .u16 (maskOf xs : Int), .int .u16 (maskOf ts : Int)]) hV)
   by_cases hlt : k < l.length
   ·have hgl := hll.later tw
    obtain ⟨bl, ol, rfl, hcl⟩ := hgl.base (by omega)
    obtain ⟨els, hCl, hRl⟩ := hcl k hlt
    obtain ⟨A, I, hAI⟩ : ∃ A I, nth l k = (A, I) := ⟨_, _, rfl⟩
    rw [hAI] at hRl
    obtain ⟨rfl, fA, fI⟩ := hRl
    have l0 := hCl.c0
    have l1 := hCl.c1
    rw [show Rd.k (Int × Int) = 2 from rfl] at l0 l1
    clear hCl hcl hgl
    have bA := (Below.refl wr.heap.size wr).alloc (Nat.le_refl _) (.cells #[.int .i64 A, .int .i64 I] 118)
    have CR := Cells.new wr [.int .i64 A, .int .i64 I] 118
    obtain ⟨z0, z1⟩ := cells2 CR
    have hlt1 : w1.heap.size + 1 < wr.heap.size := by omega
    have hAL := Lib.hid (allows_calls xs ts A I (Rd.mono (hB.step bA) hRd) hr12 hlen hP fA fI)
    have HAI := Lib.hid hAI
    have hsn : Hid (fsts (l.take (k + 1)) = ts ++ [A]) := by show _ = _; rw [take_nth hlt, fsts_snoc, hAI, HTS.out]
    clear hAI
    cases hW2 : alwB (foldD p).rules ts xs (A, I)
    ·have hv2 : Hid (reaB p xs l = false) := by show _ = _; rw [hv.out]; exact reaQ_no hlt (by rw [HAI.out, ← HTS.out]; exact hW2)
     rw [hW2] at hAL
     clear hW2
     go_wp2_with fail
     refine hAL.out.mono ?_
     rintro e w5 ⟨rfl, b5⟩
     go_wp2
     go_ret
     exact ⟨ret_bool hv2.out.symm, tw.step (bA.step b5)⟩
    ·have hA' := Lib.hid (alwTo_step (rs := (foldD p).rules) (xs := xs) hA.out (by rw [HAI.out, ← HTS.out]; exact hW2))
     rw [hW2] at hAL
     clear hW2 hA
     go_wp2_with fail
     refine hAL.out.mono ?_
     rintro e w5 ⟨rfl, b5⟩
     have b6 := bA.step b5
     have hV6 := (b6.block _ (block_lt hV)).trans hV
     have hs6 := b6.size
     have CR5 := CR.later b5
     clear y0 y1 y2 y3 y4 y5 y6 y7 y8 y9 z0 z1
     obtain ⟨z0, z1⟩ := cells2 CR5
     go_wp2_with fail
     refine (take_calls ts A I fA hV6).mono ?_
     rintro e w9 ⟨⟨r9, rfl⟩, hV9, hb9, hk9, hs9⟩
     rw [← hsn.out] at hV9
     have hB9 : Below w1.heap.size w1 w9 := (hB.step b6).trans (hb9.mono (by omega))
     go_wp2
     go_roundw
     case rel => exact ⟨k + 1, by omega, by go_num, hA', hV9, hB9, by omega⟩
     case measure => simp [intOf]; omega
   ·obtain rfl : k = l.length := by omega
    have hE := Lib.hid (LE.out hA.out)
    have htl : Hid (ts = fsts l) := by show _ = _; rw [HTS.out, List.take_length]
    rw [htl.out] at y9
    go_wp2_with fail
    refine (lacking_calls xs (fsts l) _).mono ?_
    rintro e w5 ⟨rfl, b5⟩
    go_wp2
    go_ret
    exact ⟨ret_bool (by rw [hv.out, ← hE.out]; rfl), tw.step b5⟩


end Go.Proofs.YthikhkeofcjdfaaGreat
