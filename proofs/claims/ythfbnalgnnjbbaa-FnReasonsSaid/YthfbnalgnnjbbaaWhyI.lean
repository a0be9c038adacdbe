/-
  Why, Reasons, Against: what the program answers. No condition of its own.
-/
import Derived.Test.YthfbnalgnnjbbaaUnfA
import Derived.Test.YthfbnalgnnjbbaaUnf
import Derived.Test.YthfbnalgnnjbbaaAppend
namespace Go.Proofs.Ythfbnalgnnjbbaa
set_option linter.unusedVariables false
set_option linter.unusedSimpArgs false
open Go.RowKit Go.Shelf
set_option maxRecDepth 100000

/-! ### WhyV -/

theorem cells9 {w : World} {b : Nat} {c0 c1 c2 c3 c4 c5 c6 c7 c8 : Value} (h : Cells w b 0 [c0, c1, c2, c3, c4, c5, c6, c7, c8]) :
    w.cell? ⟨b, 0, none⟩ = some c0 ∧ w.cell? ⟨b, 1, none⟩ = some c1 ∧ w.cell? ⟨b, 2, none⟩ = some c2 ∧ w.cell? ⟨b, 3, none⟩ = some c3 ∧ w.cell? ⟨b, 4, none⟩ = some c4 ∧ w.cell? ⟨b, 5, none⟩ = some c5 ∧ w.cell? ⟨b, 6, none⟩ = some c6 ∧ w.cell? ⟨b, 7, none⟩ = some c7 ∧ w.cell? ⟨b, 8, none⟩ = some c8 :=
  ⟨h 0 _ rfl, by simpa using h 1 _ rfl, by simpa using h 2 _ rfl, by simpa using h 3 _ rfl, by simpa using h 4 _ rfl, by simpa using h 5 _ rfl, by simpa using h 6 _ rfl, by simpa using h 7 _ rfl, by simpa using h 8 _ rfl⟩
theorem cells10 {w : World} {b : Nat} {c0 c1 c2 c3 c4 c5 c6 c7 c8 c9 : Value} (h : Cells w b 0 [c0, c1, c2, c3, c4, c5, c6, c7, c8, c9]) :
    w.cell? ⟨b, 0, none⟩ = some c0 ∧ w.cell? ⟨b, 1, none⟩ = some c1 ∧ w.cell? ⟨b, 2, none⟩ = some c2 ∧ w.cell? ⟨b, 3, none⟩ = some c3 ∧ w.cell? ⟨b, 4, none⟩ = some c4 ∧ w.cell? ⟨b, 5, none⟩ = some c5 ∧ w.cell? ⟨b, 6, none⟩ = some c6 ∧ w.cell? ⟨b, 7, none⟩ = some c7 ∧ w.cell? ⟨b, 8, none⟩ = some c8 ∧ w.cell? ⟨b, 9, none⟩ = some c9 :=
  ⟨h 0 _ rfl, by simpa using h 1 _ rfl, by simpa using h 2 _ rfl, by simpa using h 3 _ rfl, by simpa using h 4 _ rfl, by simpa using h 5 _ rfl, by simpa using h 6 _ rfl, by simpa using h 7 _ rfl, by simpa using h 8 _ rfl, by simpa using h 9 _ rfl⟩

/-- The mask of the atoms that are lacking. -/
def lackM (xs ts : List Int) : Nat := maskOf xs &&& (65535 - maskOf ts)
theorem lackM_lt (xs ts : List Int) : lackM xs ts < 4096 := Nat.lt_of_le_of_lt Nat.and_le_left (maskOf_lt _)
theorem lack_has {xs ts : List Int} (hx : IsP xs) (a : Int) : hasM (lackM xs ts) a = (hasB xs a && !hasB ts a) := by
  by_cases h : 1 ≤ a ∧ a ≤ 12
  · exact less_bit xs ts a h
  · have h1 : hasM (lackM xs ts) a = false := by unfold hasM; rw [bitN_out h]; simp
    have h2 : hasB xs a = false := decide_eq_false fun hm => h (by
      rw [hx] at hm
      have := (mem_pickTo _ _ _).1 hm
      omega)
    rw [h1, h2]; rfl

section
variable {x0 x1 x2 x3 x4 x5 x6 x7 : Value}
theorem lacking_calls (xs ts : List Int) (w : World) :
    Calls Try.prog 34 #[.agg #[x0, x1, x2, x3, x4, x5, x6, x7, .int .u16 (maskOf xs : Int), .int .u16 (maskOf ts : Int)]] w fun e w' => e = .returned (.int .u16 (lackM xs ts : Int)) ∧ Below w.heap.size w w' := by
  have hm := maskOf_lt xs
  have ht := maskOf_lt ts
  have tb : Below w.heap.size w (w.alloc (.cells #[x0, x1, x2, x3, x4, x5, x6, x7, .int .u16 (maskOf xs : Int), .int .u16 (maskOf ts : Int)] 74)) := (Below.refl _ _).alloc (Nat.le_refl _) _
  obtain ⟨y0, y1, y2, y3, y4, y5, y6, y7, y8, y9⟩ := cells10 (Cells.new w [x0, x1, x2, x3, x4, x5, x6, x7, .int .u16 (maskOf xs : Int), .int .u16 (maskOf ts : Int)] 74)
  go_enter Try.func34, Try.ntmps34
  go_wp2_with (go_at_call 76; refine (lessN_calls _ _ _ hm ht).mono ?_; rintro e w' ⟨rfl, rfl⟩)
  go_ret
  exact ⟨rfl, tb⟩

set_option maxHeartbeats 4000000 in
theorem allows_calls {q : ProgD} {w : World} (xs ts : List Int) (a i : Int) (h : Rd.R w [x0, x1, x2, x3, x4, x5, x6, x7] q) (hok : ∀ r ∈ q.rules, ruleOkB r 12 = true) (hl : q.rules.length ≤ 60) (hx : IsP xs) (fa : Fits a) (fi : Fits i) :
    Calls Try.prog 33 #[.agg #[x0, x1, x2, x3, x4, x5, x6, x7, .int .u16 (maskOf xs : Int), .int .u16 (maskOf ts : Int)], .agg #[.int .i64 a, .int .i64 i]] w fun e w' => e = .returned (.bool (alwB q.rules ts xs (a, i))) ∧ Below w.heap.size w w' := by
  have hml := lackM_lt xs ts
  have hmx := maskOf_lt xs
  have hmt := maskOf_lt ts
  have hLH := lack_has (ts := ts) hx a
  have h0 := h
  obtain ⟨_, _, _, _, _, _, hcs, hf, g1, _⟩ := h0
  simp only [List.cons.injEq, and_true] at hcs
  obtain ⟨-, rfl, -⟩ := hcs
  obtain ⟨a1, k1, rfl, _, h1⟩ := g1.sl
  have hm1 := h1.1
  have HOK := Lib.hid hok
  have hws : IntKind.i64.wrap ((q.rules.length : Int) - 1) = (q.rules.length : Int) - 1 := IntWalk.i64_in _ (by omega)
  clear hf g1 hok
  cases hA : hasB xs a && !hasB ts a
  · have hv := Lib.hid (alwB_A (rs := q.rules) (ts := ts) (xs := xs) (q := (a, i)) hA)
    have hW : btwB i 0 ((q.rules.length : Int) - 1) = btwB i 0 ((q.rules.length : Int) - 1) := rfl
    rw [hA] at hLH
    have tb : Below w.heap.size w ((w.alloc (.cells #[x0, .slice a1 q.rules.length k1, x2, x3, x4, x5, x6, x7, .int .u16 (maskOf xs : Int), .int .u16 (maskOf ts : Int)] 74)).alloc (.cells #[.int .i64 a, .int .i64 i] 76)) := ((Below.refl _ _).alloc (Nat.le_refl _) _).alloc (by simp) _
    have CV := (Cells.new w [x0, .slice a1 q.rules.length k1, x2, x3, x4, x5, x6, x7, .int .u16 (maskOf xs : Int), .int .u16 (maskOf ts : Int)] 74).alloc (.cells #[.int .i64 a, .int .i64 i] 76)
    have CY := Cells.new (w.alloc (.cells #[x0, .slice a1 q.rules.length k1, x2, x3, x4, x5, x6, x7, .int .u16 (maskOf xs : Int), .int .u16 (maskOf ts : Int)] 74)) [.int .i64 a, .int .i64 i] 76
    rw [World.size_alloc] at CY
    have KS : ∀ W', Below ((w.alloc (.cells #[x0, .slice a1 q.rules.length k1, x2, x3, x4, x5, x6, x7, .int .u16 (maskOf xs : Int), .int .u16 (maskOf ts : Int)] 74)).alloc (.cells #[.int .i64 a, .int .i64 i] 76)).heap.size ((w.alloc (.cells #[x0, .slice a1 q.rules.length k1, x2, x3, x4, x5, x6, x7, .int .u16 (maskOf xs : Int), .int .u16 (maskOf ts : Int)] 74)).alloc (.cells #[.int .i64 a, .int .i64 i] 76)) W' → (W'.cell? ⟨w.heap.size, 0, none⟩ = some x0 ∧ W'.cell? ⟨w.heap.size, 1, none⟩ = some (.slice a1 q.rules.length k1) ∧ W'.cell? ⟨w.heap.size, 2, none⟩ = some x2 ∧ W'.cell? ⟨w.heap.size, 3, none⟩ = some x3 ∧ W'.cell? ⟨w.heap.size, 4, none⟩ = some x4 ∧ W'.cell? ⟨w.heap.size, 5, none⟩ = some x5 ∧ W'.cell? ⟨w.heap.size, 6, none⟩ = some x6 ∧ W'.cell? ⟨w.heap.size, 7, none⟩ = some x7 ∧ W'.cell? ⟨w.heap.size, 8, none⟩ = some (.int .u16 (maskOf xs : Int)) ∧ W'.cell? ⟨w.heap.size, 9, none⟩ = some (.int .u16 (maskOf ts : Int)) ∧ W'.cell? ⟨w.heap.size + 1, 0, none⟩ = some (.int .i64 a) ∧ W'.cell? ⟨w.heap.size + 1, 1, none⟩ = some (.int .i64 i)) := fun W' hb => by
      obtain ⟨y0, y1, y2, y3, y4, y5, y6, y7, y8, y9⟩ := cells10 (CV.later hb)
      obtain ⟨z0, z1⟩ := cells2 (CY.later hb)
      exact ⟨y0, y1, y2, y3, y4, y5, y6, y7, y8, y9, z0, z1⟩
    have B0 := Below.refl ((w.alloc (.cells #[x0, .slice a1 q.rules.length k1, x2, x3, x4, x5, x6, x7, .int .u16 (maskOf xs : Int), .int .u16 (maskOf ts : Int)] 74)).alloc (.cells #[.int .i64 a, .int .i64 i] 76)).heap.size ((w.alloc (.cells #[x0, .slice a1 q.rules.length k1, x2, x3, x4, x5, x6, x7, .int .u16 (maskOf xs : Int), .int .u16 (maskOf ts : Int)] 74)).alloc (.cells #[.int .i64 a, .int .i64 i] 76))
    go_enter Try.func33, Try.ntmps33
    go_wp2_with fail
    refine wp_region_held_drew (S := fun W' => W'.cell? ⟨w.heap.size, 0, none⟩ = some x0 ∧ W'.cell? ⟨w.heap.size, 1, none⟩ = some (.slice a1 q.rules.length k1) ∧ W'.cell? ⟨w.heap.size, 2, none⟩ = some x2 ∧ W'.cell? ⟨w.heap.size, 3, none⟩ = some x3 ∧ W'.cell? ⟨w.heap.size, 4, none⟩ = some x4 ∧ W'.cell? ⟨w.heap.size, 5, none⟩ = some x5 ∧ W'.cell? ⟨w.heap.size, 6, none⟩ = some x6 ∧ W'.cell? ⟨w.heap.size, 7, none⟩ = some x7 ∧ W'.cell? ⟨w.heap.size, 8, none⟩ = some (.int .u16 (maskOf xs : Int)) ∧ W'.cell? ⟨w.heap.size, 9, none⟩ = some (.int .u16 (maskOf ts : Int)) ∧ W'.cell? ⟨w.heap.size + 1, 0, none⟩ = some (.int .i64 a) ∧ W'.cell? ⟨w.heap.size + 1, 1, none⟩ = some (.int .i64 i)) (by kernel_rfl) (KS _ B0.drew) (fun hHeld => ?_)
    refine takeD (i := 0) (v := .agg #[x0, .slice a1 q.rules.length k1, x2, x3, x4, x5, x6, x7, .int .u16 (maskOf xs : Int), .int .u16 (maskOf ts : Int)]) (some 6) rfl rfl (by kernel_rfl) (by kernel_rfl) (by kernel_rfl) (fun _ _ _ h => h) (Or.inl ⟨by rfl, fun w' hw' => ?_⟩) hHeld ?_
    · first | (go_simp; done) | (obtain ⟨s0, s1, s2, s3, s4, s5, s6, s7, s8, s9, s10, s11⟩ := hw'; go_simp; done) | (obtain ⟨s0, s1, s2, s3, s4, s5, s6, s7⟩ := hw'; go_simp; done) | (obtain ⟨s0, s1⟩ := hw'; go_simp; done)
    try simp only [Act.put, List.setIfInBounds_toArray, List.set_cons_zero, List.set_cons_succ]
    refine takeD (i := 2) (v := .pointer (some ⟨w.heap.size + 1, 0, none⟩)) (some 8) rfl rfl (by kernel_rfl) (by kernel_rfl) (by kernel_rfl) (fun _ _ _ h => h) (Or.inl ⟨by rfl, fun w' hw' => ?_⟩) hHeld ?_
    · first | (go_simp; done) | (obtain ⟨s0, s1, s2, s3, s4, s5, s6, s7, s8, s9, s10, s11⟩ := hw'; go_simp; done) | (obtain ⟨s0, s1, s2, s3, s4, s5, s6, s7⟩ := hw'; go_simp; done) | (obtain ⟨s0, s1⟩ := hw'; go_simp; done)
    try simp only [Act.put, List.setIfInBounds_toArray, List.set_cons_zero, List.set_cons_succ]
    refine takeD (i := 3) (v := .int .i64 a) (some 9) rfl rfl (by kernel_rfl) (by kernel_rfl) (by kernel_rfl) (fun _ _ _ h => h) (Or.inl ⟨by rfl, fun w' hw' => ?_⟩) hHeld ?_
    · first | (go_simp; done) | (obtain ⟨s0, s1, s2, s3, s4, s5, s6, s7, s8, s9, s10, s11⟩ := hw'; go_simp; done) | (obtain ⟨s0, s1, s2, s3, s4, s5, s6, s7⟩ := hw'; go_simp; done) | (obtain ⟨s0, s1⟩ := hw'; go_simp; done)
    try simp only [Act.put, List.setIfInBounds_toArray, List.set_cons_zero, List.set_cons_succ]
    refine wpAnyH_ready (rs := [1]) (by kernel_rfl) (by simp) ?_
    refine AllReadyH.cons rfl (fun K hK => ?_) AllReadyH.nil
    go_simp
    refine (lacking_calls xs ts _).mono ?_
    rintro e w1 ⟨rfl, b1⟩
    refine hK.out _ _ (KS _ (B0.drew.step b1)) (fun hHeld => ?_)
    clear hK K
    try simp only [Act.put, List.setIfInBounds_toArray, List.set_cons_zero, List.set_cons_succ]
    refine wpAnyH_ready (rs := [4]) (by kernel_rfl) (by simp) ?_
    refine AllReadyH.cons rfl (fun K hK => ?_) AllReadyH.nil
    go_simp
    refine (has_calls _ _ _ hml fa).mono ?_
    rintro e w' ⟨he, rfl⟩
    rw [hLH] at he
    subst he
    refine hK.out _ _ (KS _ (B0.drew.step b1)) (fun hHeld => ?_)
    clear hK K
    try simp only [Act.put, List.setIfInBounds_toArray, List.set_cons_zero, List.set_cons_succ]
    refine takeD (i := 5) (v := .bool true) (some 11) rfl rfl (by kernel_rfl) (by kernel_rfl) (by kernel_rfl) (fun _ _ _ h => h) (Or.inl ⟨by rfl, fun w' hw' => ?_⟩) hHeld ?_
    · first | (go_simp; done) | (obtain ⟨s0, s1, s2, s3, s4, s5, s6, s7, s8, s9, s10, s11⟩ := hw'; go_simp; done) | (obtain ⟨s0, s1, s2, s3, s4, s5, s6, s7⟩ := hw'; go_simp; done) | (obtain ⟨s0, s1⟩ := hw'; go_simp; done)
    try simp only [Act.put, List.setIfInBounds_toArray, List.set_cons_zero, List.set_cons_succ]
    refine takeD (i := 6) (v := .bool true) (some 12) rfl rfl (by kernel_rfl) (by kernel_rfl) (by kernel_rfl) (fun _ _ _ h => h) (Or.inl ⟨by rfl, fun w' hw' => ?_⟩) hHeld ?_
    · first | (go_simp; done) | (obtain ⟨s0, s1, s2, s3, s4, s5, s6, s7, s8, s9, s10, s11⟩ := hw'; go_simp; done) | (obtain ⟨s0, s1, s2, s3, s4, s5, s6, s7⟩ := hw'; go_simp; done) | (obtain ⟨s0, s1⟩ := hw'; go_simp; done)
    try simp only [Act.put, List.setIfInBounds_toArray, List.set_cons_zero, List.set_cons_succ]
    refine takeD (i := 7) (v := undef) (some 13) rfl rfl (by kernel_rfl) (by kernel_rfl) (by kernel_rfl) (fun _ _ _ h => h) (Or.inr ⟨by rfl, rfl⟩) hHeld ?_
    try simp only [Act.put, List.setIfInBounds_toArray, List.set_cons_zero, List.set_cons_succ]
    refine takeD (i := 8) (v := undef) (some 14) rfl rfl (by kernel_rfl) (by kernel_rfl) (by kernel_rfl) (fun _ _ _ h => h) (Or.inr ⟨by rfl, rfl⟩) hHeld ?_
    try simp only [Act.put, List.setIfInBounds_toArray, List.set_cons_zero, List.set_cons_succ]
    refine takeD (i := 9) (v := undef) (some 15) rfl rfl (by kernel_rfl) (by kernel_rfl) (by kernel_rfl) (fun _ _ _ h => h) (Or.inr ⟨by rfl, rfl⟩) hHeld ?_
    try simp only [Act.put, List.setIfInBounds_toArray, List.set_cons_zero, List.set_cons_succ]
    refine takeD (i := 10) (v := undef) (some 16) rfl rfl (by kernel_rfl) (by kernel_rfl) (by kernel_rfl) (fun _ _ _ h => h) (Or.inr ⟨by rfl, rfl⟩) hHeld ?_
    try simp only [Act.put, List.setIfInBounds_toArray, List.set_cons_zero, List.set_cons_succ]
    refine takeD (i := 11) (v := undef) (some 17) rfl rfl (by kernel_rfl) (by kernel_rfl) (by kernel_rfl) (fun _ _ _ h => h) (Or.inr ⟨by rfl, rfl⟩) hHeld ?_
    try simp only [Act.put, List.setIfInBounds_toArray, List.set_cons_zero, List.set_cons_succ]
    refine takeD (i := 12) (v := undef) (some 18) rfl rfl (by kernel_rfl) (by kernel_rfl) (by kernel_rfl) (fun _ _ _ h => h) (Or.inr ⟨by rfl, rfl⟩) hHeld ?_
    try simp only [Act.put, List.setIfInBounds_toArray, List.set_cons_zero, List.set_cons_succ]
    refine takeD (i := 13) (v := undef) (some 19) rfl rfl (by kernel_rfl) (by kernel_rfl) (by kernel_rfl) (fun _ _ _ h => h) (Or.inr ⟨by rfl, rfl⟩) hHeld ?_
    try simp only [Act.put, List.setIfInBounds_toArray, List.set_cons_zero, List.set_cons_succ]
    refine takeD (i := 14) (v := undef) (some 20) rfl rfl (by kernel_rfl) (by kernel_rfl) (by kernel_rfl) (fun _ _ _ h => h) (Or.inr ⟨by rfl, rfl⟩) hHeld ?_
    try simp only [Act.put, List.setIfInBounds_toArray, List.set_cons_zero, List.set_cons_succ]
    refine takeD (i := 15) (v := undef) (some 21) rfl rfl (by kernel_rfl) (by kernel_rfl) (by kernel_rfl) (fun _ _ _ h => h) (Or.inr ⟨by rfl, rfl⟩) hHeld ?_
    try simp only [Act.put, List.setIfInBounds_toArray, List.set_cons_zero, List.set_cons_succ]
    refine takeD (i := 16) (v := undef) (some 22) rfl rfl (by kernel_rfl) (by kernel_rfl) (by kernel_rfl) (fun _ _ _ h => h) (Or.inr ⟨by rfl, rfl⟩) hHeld ?_
    try simp only [Act.put, List.setIfInBounds_toArray, List.set_cons_zero, List.set_cons_succ]
    refine takeD (i := 17) (v := .bool true) (some 23) rfl rfl (by kernel_rfl) (by kernel_rfl) (by kernel_rfl) (fun _ _ _ h => h) (Or.inl ⟨by rfl, fun w' hw' => ?_⟩) hHeld ?_
    · first | (go_simp; done) | (obtain ⟨s0, s1, s2, s3, s4, s5, s6, s7, s8, s9, s10, s11⟩ := hw'; go_simp; done) | (obtain ⟨s0, s1, s2, s3, s4, s5, s6, s7⟩ := hw'; go_simp; done) | (obtain ⟨s0, s1⟩ := hw'; go_simp; done)
    try simp only [Act.put, List.setIfInBounds_toArray, List.set_cons_zero, List.set_cons_succ]
    refine wpAnyH_done (by kernel_rfl) ?_ _
    go_wp2
    go_ret
    exact ⟨ret_bool hv.out.symm, tb.drew.step b1⟩
  · rw [hA] at hLH
    cases hW : btwB i 0 ((q.rules.length : Int) - 1)
    · have hv := Lib.hid (alwB_B (rs := q.rules) (ts := ts) (xs := xs) (q := (a, i)) hW)
      have tb : Below w.heap.size w ((w.alloc (.cells #[x0, .slice a1 q.rules.length k1, x2, x3, x4, x5, x6, x7, .int .u16 (maskOf xs : Int), .int .u16 (maskOf ts : Int)] 74)).alloc (.cells #[.int .i64 a, .int .i64 i] 76)) := ((Below.refl _ _).alloc (Nat.le_refl _) _).alloc (by simp) _
      have CV := (Cells.new w [x0, .slice a1 q.rules.length k1, x2, x3, x4, x5, x6, x7, .int .u16 (maskOf xs : Int), .int .u16 (maskOf ts : Int)] 74).alloc (.cells #[.int .i64 a, .int .i64 i] 76)
      have CY := Cells.new (w.alloc (.cells #[x0, .slice a1 q.rules.length k1, x2, x3, x4, x5, x6, x7, .int .u16 (maskOf xs : Int), .int .u16 (maskOf ts : Int)] 74)) [.int .i64 a, .int .i64 i] 76
      rw [World.size_alloc] at CY
      have KS : ∀ W', Below ((w.alloc (.cells #[x0, .slice a1 q.rules.length k1, x2, x3, x4, x5, x6, x7, .int .u16 (maskOf xs : Int), .int .u16 (maskOf ts : Int)] 74)).alloc (.cells #[.int .i64 a, .int .i64 i] 76)).heap.size ((w.alloc (.cells #[x0, .slice a1 q.rules.length k1, x2, x3, x4, x5, x6, x7, .int .u16 (maskOf xs : Int), .int .u16 (maskOf ts : Int)] 74)).alloc (.cells #[.int .i64 a, .int .i64 i] 76)) W' → (W'.cell? ⟨w.heap.size, 0, none⟩ = some x0 ∧ W'.cell? ⟨w.heap.size, 1, none⟩ = some (.slice a1 q.rules.length k1) ∧ W'.cell? ⟨w.heap.size, 2, none⟩ = some x2 ∧ W'.cell? ⟨w.heap.size, 3, none⟩ = some x3 ∧ W'.cell? ⟨w.heap.size, 4, none⟩ = some x4 ∧ W'.cell? ⟨w.heap.size, 5, none⟩ = some x5 ∧ W'.cell? ⟨w.heap.size, 6, none⟩ = some x6 ∧ W'.cell? ⟨w.heap.size, 7, none⟩ = some x7 ∧ W'.cell? ⟨w.heap.size, 8, none⟩ = some (.int .u16 (maskOf xs : Int)) ∧ W'.cell? ⟨w.heap.size, 9, none⟩ = some (.int .u16 (maskOf ts : Int)) ∧ W'.cell? ⟨w.heap.size + 1, 0, none⟩ = some (.int .i64 a) ∧ W'.cell? ⟨w.heap.size + 1, 1, none⟩ = some (.int .i64 i)) := fun W' hb => by
        obtain ⟨y0, y1, y2, y3, y4, y5, y6, y7, y8, y9⟩ := cells10 (CV.later hb)
        obtain ⟨z0, z1⟩ := cells2 (CY.later hb)
        exact ⟨y0, y1, y2, y3, y4, y5, y6, y7, y8, y9, z0, z1⟩
      have B0 := Below.refl ((w.alloc (.cells #[x0, .slice a1 q.rules.length k1, x2, x3, x4, x5, x6, x7, .int .u16 (maskOf xs : Int), .int .u16 (maskOf ts : Int)] 74)).alloc (.cells #[.int .i64 a, .int .i64 i] 76)).heap.size ((w.alloc (.cells #[x0, .slice a1 q.rules.length k1, x2, x3, x4, x5, x6, x7, .int .u16 (maskOf xs : Int), .int .u16 (maskOf ts : Int)] 74)).alloc (.cells #[.int .i64 a, .int .i64 i] 76))
      go_enter Try.func33, Try.ntmps33
      go_wp2_with fail
      go_region_held3 (fun W' => W'.cell? ⟨w.heap.size, 0, none⟩ = some x0 ∧ W'.cell? ⟨w.heap.size, 1, none⟩ = some (.slice a1 q.rules.length k1) ∧ W'.cell? ⟨w.heap.size, 2, none⟩ = some x2 ∧ W'.cell? ⟨w.heap.size, 3, none⟩ = some x3 ∧ W'.cell? ⟨w.heap.size, 4, none⟩ = some x4 ∧ W'.cell? ⟨w.heap.size, 5, none⟩ = some x5 ∧ W'.cell? ⟨w.heap.size, 6, none⟩ = some x6 ∧ W'.cell? ⟨w.heap.size, 7, none⟩ = some x7 ∧ W'.cell? ⟨w.heap.size, 8, none⟩ = some (.int .u16 (maskOf xs : Int)) ∧ W'.cell? ⟨w.heap.size, 9, none⟩ = some (.int .u16 (maskOf ts : Int)) ∧ W'.cell? ⟨w.heap.size + 1, 0, none⟩ = some (.int .i64 a) ∧ W'.cell? ⟨w.heap.size + 1, 1, none⟩ = some (.int .i64 i))
        (first | exact KS _ B0 | exact KS _ B0.drew | exact KS _ (B0.drew.step b1))
        (first | (go_at_call 34; refine (lacking_calls xs ts _).mono ?_; rintro e w1 ⟨rfl, b1⟩) |
          (go_at_call 73; refine (has_calls _ _ _ hml fa).mono ?_; rintro e w' ⟨he, rfl⟩; rw [hLH] at he; subst he) |
          (go_at_call 74; refine (within_calls _ _ _ _).mono ?_; rintro e w' ⟨he, rfl⟩; rw [hW] at he; subst he))
      go_wp2
      go_ret
      exact ⟨ret_bool hv.out.symm, tb.drew.step b1⟩
    · have hv := Lib.hid (alwB_C (rs := q.rules) (ts := ts) (xs := xs) (q := (a, i)) hA hW)
      have hi2 : 0 ≤ i ∧ i ≤ (q.rules.length : Int) - 1 := of_decide_eq_true hW
      obtain ⟨n, hin⟩ := Int.eq_ofNat_of_zero_le hi2.1
      have hn : n < q.rules.length := by omega
      have hni : (n : Int) < (q.rules.length : Int) := by omega
      obtain ⟨b, off, ha1, hc⟩ := h1.base (by omega)
      obtain ⟨ecs, hC, hR⟩ := hc n hn
      have hok12 := HOK.out _ (nth_mem hn)
      have hR0 := hR
      obtain ⟨d1, d4, rfl, hf', r1, r4⟩ := hR0
      obtain ⟨ah, kh, rfl, _, hh⟩ := r1.sl
      obtain ⟨ab, kb, rfl, _, _⟩ := r4.sl
      have so1 := sto Try.prog r1.one1
      have so4 := sto Try.prog r4.one1
      clear hc r1 r4
      have hml2 := maskOf_lt (nth q.rules n).heads
      have hHH : hasM (maskOf (nth q.rules n).heads) a = hasB (nth q.rules n).heads a := by
        by_cases h12 : 1 ≤ a ∧ a ≤ 12
        · exact hasM_maskOf _ _ h12
        · exfalso
          have hxa : hasB xs a = true := by
            cases hh9 : hasB xs a
            · rw [hh9] at hA; cases hA
            · rfl
          have := of_decide_eq_true hxa
          rw [hx] at this
          have := (mem_pickTo _ _ _).1 this
          omega
      have hfr := rd_rule hR
      have HN1 := Lib.hid hin
      have HA1 := Lib.hid ha1
      clear hin ha1
      have hGV : Hid (givB q.rules ts xs a ((n : Int).toNat) = (hasB (nth q.rules n).heads a && reachB (nth q.rules n) (h2B ts xs))) := by show _ = _; rw [Int.toNat_natCast]; rfl
      have tb : Below w.heap.size w ((w.alloc (.cells #[x0, .slice a1 q.rules.length k1, x2, x3, x4, x5, x6, x7, .int .u16 (maskOf xs : Int), .int .u16 (maskOf ts : Int)] 74)).alloc (.cells #[.int .i64 a, .int .i64 i] 76)) := ((Below.refl _ _).alloc (Nat.le_refl _) _).alloc (by simp) _
      have CV := (Cells.new w [x0, .slice a1 q.rules.length k1, x2, x3, x4, x5, x6, x7, .int .u16 (maskOf xs : Int), .int .u16 (maskOf ts : Int)] 74).alloc (.cells #[.int .i64 a, .int .i64 i] 76)
      have CY := Cells.new (w.alloc (.cells #[x0, .slice a1 q.rules.length k1, x2, x3, x4, x5, x6, x7, .int .u16 (maskOf xs : Int), .int .u16 (maskOf ts : Int)] 74)) [.int .i64 a, .int .i64 i] 76
      rw [World.size_alloc] at CY
      have KS : ∀ W', Below ((w.alloc (.cells #[x0, .slice a1 q.rules.length k1, x2, x3, x4, x5, x6, x7, .int .u16 (maskOf xs : Int), .int .u16 (maskOf ts : Int)] 74)).alloc (.cells #[.int .i64 a, .int .i64 i] 76)).heap.size ((w.alloc (.cells #[x0, .slice a1 q.rules.length k1, x2, x3, x4, x5, x6, x7, .int .u16 (maskOf xs : Int), .int .u16 (maskOf ts : Int)] 74)).alloc (.cells #[.int .i64 a, .int .i64 i] 76)) W' → (W'.cell? ⟨w.heap.size, 0, none⟩ = some x0 ∧ W'.cell? ⟨w.heap.size, 1, none⟩ = some (.slice a1 q.rules.length k1) ∧ W'.cell? ⟨w.heap.size, 2, none⟩ = some x2 ∧ W'.cell? ⟨w.heap.size, 3, none⟩ = some x3 ∧ W'.cell? ⟨w.heap.size, 4, none⟩ = some x4 ∧ W'.cell? ⟨w.heap.size, 5, none⟩ = some x5 ∧ W'.cell? ⟨w.heap.size, 6, none⟩ = some x6 ∧ W'.cell? ⟨w.heap.size, 7, none⟩ = some x7 ∧ W'.cell? ⟨w.heap.size, 8, none⟩ = some (.int .u16 (maskOf xs : Int)) ∧ W'.cell? ⟨w.heap.size, 9, none⟩ = some (.int .u16 (maskOf ts : Int)) ∧ W'.cell? ⟨w.heap.size + 1, 0, none⟩ = some (.int .i64 a) ∧ W'.cell? ⟨w.heap.size + 1, 1, none⟩ = some (.int .i64 i)) := fun W' hb => by
        obtain ⟨y0, y1, y2, y3, y4, y5, y6, y7, y8, y9⟩ := cells10 (CV.later hb)
        obtain ⟨z0, z1⟩ := cells2 (CY.later hb)
        exact ⟨y0, y1, y2, y3, y4, y5, y6, y7, y8, y9, z0, z1⟩
      have B0 := Below.refl ((w.alloc (.cells #[x0, .slice a1 q.rules.length k1, x2, x3, x4, x5, x6, x7, .int .u16 (maskOf xs : Int), .int .u16 (maskOf ts : Int)] 74)).alloc (.cells #[.int .i64 a, .int .i64 i] 76)).heap.size ((w.alloc (.cells #[x0, .slice a1 q.rules.length k1, x2, x3, x4, x5, x6, x7, .int .u16 (maskOf xs : Int), .int .u16 (maskOf ts : Int)] 74)).alloc (.cells #[.int .i64 a, .int .i64 i] 76))
      go_enter Try.func33, Try.ntmps33
      go_wp2_with fail
      go_region_held3 (fun W' => W'.cell? ⟨w.heap.size, 0, none⟩ = some x0 ∧ W'.cell? ⟨w.heap.size, 1, none⟩ = some (.slice a1 q.rules.length k1) ∧ W'.cell? ⟨w.heap.size, 2, none⟩ = some x2 ∧ W'.cell? ⟨w.heap.size, 3, none⟩ = some x3 ∧ W'.cell? ⟨w.heap.size, 4, none⟩ = some x4 ∧ W'.cell? ⟨w.heap.size, 5, none⟩ = some x5 ∧ W'.cell? ⟨w.heap.size, 6, none⟩ = some x6 ∧ W'.cell? ⟨w.heap.size, 7, none⟩ = some x7 ∧ W'.cell? ⟨w.heap.size, 8, none⟩ = some (.int .u16 (maskOf xs : Int)) ∧ W'.cell? ⟨w.heap.size, 9, none⟩ = some (.int .u16 (maskOf ts : Int)) ∧ W'.cell? ⟨w.heap.size + 1, 0, none⟩ = some (.int .i64 a) ∧ W'.cell? ⟨w.heap.size + 1, 1, none⟩ = some (.int .i64 i))
        (first | exact KS _ B0 | exact KS _ B0.drew | exact KS _ (B0.drew.step b1))
        (first | (go_at_call 34; refine (lacking_calls xs ts _).mono ?_; rintro e w1 ⟨rfl, b1⟩) |
          (go_at_call 73; refine (has_calls _ _ _ hml fa).mono ?_; rintro e w' ⟨he, rfl⟩; rw [hLH] at he; subst he) |
          (go_at_call 74; refine (within_calls _ _ _ _).mono ?_; rintro e w' ⟨he, rfl⟩; rw [hW] at he; subst he))
      obtain rfl := HA1.out
      obtain rfl := HN1.out
      have t1 := tb.drew.step b1
      have bA := (Below.refl w1.heap.size w1).alloc (Nat.le_refl _) (.cells #[.bool (nth q.rules n).choice, .slice ah (nth q.rules n).heads.length kh, .bool (nth q.rules n).weight, .int .i64 (nth q.rules n).bound, .slice ab (nth q.rules n).body.length kb] 49)
      have B1 := (B0.drew.step b1).step bA
      have t2 := t1.step bA
      have hC1 := hC.later t1
      have u0 := hC1.c0
      have u1 := hC1.c1
      have u2 := hC1.c2
      have u3 := hC1.c3
      have u4 := hC1.c4
      rw [show Rd.k RuleD = 5 from rfl] at u0 u1 u2 u3 u4
      have CR := Cells.new w1 [.bool (nth q.rules n).choice, .slice ah (nth q.rules n).heads.length kh, .bool (nth q.rules n).weight, .int .i64 (nth q.rules n).bound, .slice ab (nth q.rules n).body.length kb] 49
      have hR2 := Rd.mono t2 hR
      have hh2 := hh.later t2
      have K1 := KS _ (B0.drew.step b1)
      have KT := fun W' (hb : Below (w1.alloc (.cells #[.bool (nth q.rules n).choice, .slice ah (nth q.rules n).heads.length kh, .bool (nth q.rules n).weight, .int .i64 (nth q.rules n).bound, .slice ab (nth q.rules n).body.length kb] 49)).heap.size (w1.alloc (.cells #[.bool (nth q.rules n).choice, .slice ah (nth q.rules n).heads.length kh, .bool (nth q.rules n).weight, .int .i64 (nth q.rules n).bound, .slice ab (nth q.rules n).body.length kb] 49)) W') => And.intro (cells5 (CR.later hb)) (KS W' (B1.step hb))
      clear KS B0 B1 CV CY hC hC1 CR
      have KT := Lib.hid KT
      obtain ⟨y0, y1, y2, y3, y4, y5, y6, y7, y8, y9, z0, z1⟩ := K1
      go_upto_region 4 with fail
      have R0 := Below.refl (w1.alloc (.cells #[.bool (nth q.rules n).choice, .slice ah (nth q.rules n).heads.length kh, .bool (nth q.rules n).weight, .int .i64 (nth q.rules n).bound, .slice ab (nth q.rules n).body.length kb] 49)).heap.size (w1.alloc (.cells #[.bool (nth q.rules n).choice, .slice ah (nth q.rules n).heads.length kh, .bool (nth q.rules n).weight, .int .i64 (nth q.rules n).bound, .slice ab (nth q.rules n).body.length kb] 49))
      clear y0 y1 y2 y3 y4 y5 y6 y7 y8 y9 z0 z1 u0 u1 u2 u3 u4
      have K8 : ∀ W', Below (w1.alloc (.cells #[.bool (nth q.rules n).choice, .slice ah (nth q.rules n).heads.length kh, .bool (nth q.rules n).weight, .int .i64 (nth q.rules n).bound, .slice ab (nth q.rules n).body.length kb] 49)).heap.size (w1.alloc (.cells #[.bool (nth q.rules n).choice, .slice ah (nth q.rules n).heads.length kh, .bool (nth q.rules n).weight, .int .i64 (nth q.rules n).bound, .slice ab (nth q.rules n).body.length kb] 49)) W' → (W'.cell? ⟨w1.heap.size, 0, none⟩ = some (.bool (nth q.rules n).choice) ∧ W'.cell? ⟨w1.heap.size, 1, none⟩ = some (.slice ah (nth q.rules n).heads.length kh) ∧ W'.cell? ⟨w1.heap.size, 2, none⟩ = some (.bool (nth q.rules n).weight) ∧ W'.cell? ⟨w1.heap.size, 3, none⟩ = some (.int .i64 (nth q.rules n).bound) ∧ W'.cell? ⟨w1.heap.size, 4, none⟩ = some (.slice ab (nth q.rules n).body.length kb) ∧ W'.cell? ⟨w.heap.size, 8, none⟩ = some (.int .u16 (maskOf xs : Int)) ∧ W'.cell? ⟨w.heap.size, 9, none⟩ = some (.int .u16 (maskOf ts : Int)) ∧ W'.cell? ⟨w.heap.size + 1, 0, none⟩ = some (.int .i64 a)) := fun W' hb => by
        obtain ⟨⟨c0, c1, c2, c3, c4⟩, y0, y1, y2, y3, y4, y5, y6, y7, y8, y9, z0, z1⟩ := KT.out W' hb
        exact ⟨c0, c1, c2, c3, c4, y8, y9, z0⟩
      clear KT
      generalize (w1.alloc (.cells #[.bool (nth q.rules n).choice, .slice ah (nth q.rules n).heads.length kh, .bool (nth q.rules n).weight, .int .i64 (nth q.rules n).bound, .slice ab (nth q.rules n).body.length kb] 49)) = wr at *

      cases hHd : hasB (nth q.rules n).heads a
      · rw [hHd] at hHH
        have hGF : Hid (givB q.rules ts xs a ((n : Int).toNat) = false) := by show _ = _; rw [hGV.out, hHd]; rfl
        refine wp_region_held_drew (S := fun W' => W'.cell? ⟨w1.heap.size, 0, none⟩ = some (.bool (nth q.rules n).choice) ∧ W'.cell? ⟨w1.heap.size, 1, none⟩ = some (.slice ah (nth q.rules n).heads.length kh) ∧ W'.cell? ⟨w1.heap.size, 2, none⟩ = some (.bool (nth q.rules n).weight) ∧ W'.cell? ⟨w1.heap.size, 3, none⟩ = some (.int .i64 (nth q.rules n).bound) ∧ W'.cell? ⟨w1.heap.size, 4, none⟩ = some (.slice ab (nth q.rules n).body.length kb) ∧ W'.cell? ⟨w.heap.size, 8, none⟩ = some (.int .u16 (maskOf xs : Int)) ∧ W'.cell? ⟨w.heap.size, 9, none⟩ = some (.int .u16 (maskOf ts : Int)) ∧ W'.cell? ⟨w.heap.size + 1, 0, none⟩ = some (.int .i64 a)) (by kernel_rfl) (K8 _ R0.drew) (fun hHeld => ?_)
        refine takeD (i := 0) (v := .pointer (some ⟨w1.heap.size, 1, none⟩)) (some 32) rfl rfl (by kernel_rfl) (by kernel_rfl) (by kernel_rfl) (fun _ _ _ h => h) (Or.inl ⟨by rfl, fun w' hw' => ?_⟩) hHeld ?_
        · first | (go_simp; done) | (obtain ⟨s0, s1, s2, s3, s4, s5, s6, s7, s8, s9, s10, s11⟩ := hw'; go_simp; done) | (obtain ⟨s0, s1, s2, s3, s4, s5, s6, s7⟩ := hw'; go_simp; done) | (obtain ⟨s0, s1⟩ := hw'; go_simp; done)
        try simp only [Act.put, List.setIfInBounds_toArray, List.set_cons_zero, List.set_cons_succ]
        refine takeD (i := 1) (v := .slice ah (nth q.rules n).heads.length kh) (some 33) rfl rfl (by kernel_rfl) (by kernel_rfl) (by kernel_rfl) (fun _ _ _ h => h) (Or.inl ⟨by rfl, fun w' hw' => ?_⟩) hHeld ?_
        · first | (go_simp; done) | (obtain ⟨s0, s1, s2, s3, s4, s5, s6, s7, s8, s9, s10, s11⟩ := hw'; go_simp; done) | (obtain ⟨s0, s1, s2, s3, s4, s5, s6, s7⟩ := hw'; go_simp; done) | (obtain ⟨s0, s1⟩ := hw'; go_simp; done)
        try simp only [Act.put, List.setIfInBounds_toArray, List.set_cons_zero, List.set_cons_succ]
        refine takeD (i := 3) (v := .pointer (some ⟨w.heap.size + 1, 0, none⟩)) (some 35) rfl rfl (by kernel_rfl) (by kernel_rfl) (by kernel_rfl) (fun _ _ _ h => h) (Or.inl ⟨by rfl, fun w' hw' => ?_⟩) hHeld ?_
        · first | (go_simp; done) | (obtain ⟨s0, s1, s2, s3, s4, s5, s6, s7, s8, s9, s10, s11⟩ := hw'; go_simp; done) | (obtain ⟨s0, s1, s2, s3, s4, s5, s6, s7⟩ := hw'; go_simp; done) | (obtain ⟨s0, s1⟩ := hw'; go_simp; done)
        try simp only [Act.put, List.setIfInBounds_toArray, List.set_cons_zero, List.set_cons_succ]
        refine takeD (i := 4) (v := .int .i64 a) (some 36) rfl rfl (by kernel_rfl) (by kernel_rfl) (by kernel_rfl) (fun _ _ _ h => h) (Or.inl ⟨by rfl, fun w' hw' => ?_⟩) hHeld ?_
        · first | (go_simp; done) | (obtain ⟨s0, s1, s2, s3, s4, s5, s6, s7, s8, s9, s10, s11⟩ := hw'; go_simp; done) | (obtain ⟨s0, s1, s2, s3, s4, s5, s6, s7⟩ := hw'; go_simp; done) | (obtain ⟨s0, s1⟩ := hw'; go_simp; done)
        try simp only [Act.put, List.setIfInBounds_toArray, List.set_cons_zero, List.set_cons_succ]
        refine wpAnyH_ready (rs := [2]) (by kernel_rfl) (by simp) ?_
        refine AllReadyH.cons rfl (fun K hK => ?_) AllReadyH.nil
        go_simp
        refine (atomsIn_calls _ _ _ _ (hh2.later R0.drew).ints).mono ?_
        rintro e w' ⟨rfl, rfl⟩
        refine hK.out _ _ (K8 _ R0.drew) (fun hHeld => ?_)
        clear hK K
        try simp only [Act.put, List.setIfInBounds_toArray, List.set_cons_zero, List.set_cons_succ]
        refine wpAnyH_ready (rs := [5]) (by kernel_rfl) (by simp) ?_
        refine AllReadyH.cons rfl (fun K hK => ?_) AllReadyH.nil
        go_simp
        refine (has_calls _ _ _ hml2 fa).mono ?_
        rintro e w' ⟨he, rfl⟩
        rw [hHH] at he
        subst he
        refine hK.out _ _ (K8 _ R0.drew) (fun hHeld => ?_)
        clear hK K
        try simp only [Act.put, List.setIfInBounds_toArray, List.set_cons_zero, List.set_cons_succ]
        refine takeD (i := 6) (v := .bool false) (some 38) rfl rfl (by kernel_rfl) (by kernel_rfl) (by kernel_rfl) (fun _ _ _ h => h) (Or.inl ⟨by rfl, fun w' hw' => ?_⟩) hHeld ?_
        · first | (go_simp; done) | (obtain ⟨s0, s1, s2, s3, s4, s5, s6, s7, s8, s9, s10, s11⟩ := hw'; go_simp; done) | (obtain ⟨s0, s1, s2, s3, s4, s5, s6, s7⟩ := hw'; go_simp; done) | (obtain ⟨s0, s1⟩ := hw'; go_simp; done)
        try simp only [Act.put, List.setIfInBounds_toArray, List.set_cons_zero, List.set_cons_succ]
        refine takeD (i := 7) (v := undef) (some 39) rfl rfl (by kernel_rfl) (by kernel_rfl) (by kernel_rfl) (fun _ _ _ h => h) (Or.inr ⟨by rfl, rfl⟩) hHeld ?_
        try simp only [Act.put, List.setIfInBounds_toArray, List.set_cons_zero, List.set_cons_succ]
        refine takeD (i := 8) (v := undef) (some 40) rfl rfl (by kernel_rfl) (by kernel_rfl) (by kernel_rfl) (fun _ _ _ h => h) (Or.inr ⟨by rfl, rfl⟩) hHeld ?_
        try simp only [Act.put, List.setIfInBounds_toArray, List.set_cons_zero, List.set_cons_succ]
        refine takeD (i := 9) (v := undef) (some 41) rfl rfl (by kernel_rfl) (by kernel_rfl) (by kernel_rfl) (fun _ _ _ h => h) (Or.inr ⟨by rfl, rfl⟩) hHeld ?_
        try simp only [Act.put, List.setIfInBounds_toArray, List.set_cons_zero, List.set_cons_succ]
        refine takeD (i := 10) (v := undef) (some 42) rfl rfl (by kernel_rfl) (by kernel_rfl) (by kernel_rfl) (fun _ _ _ h => h) (Or.inr ⟨by rfl, rfl⟩) hHeld ?_
        try simp only [Act.put, List.setIfInBounds_toArray, List.set_cons_zero, List.set_cons_succ]
        refine takeD (i := 11) (v := undef) (some 43) rfl rfl (by kernel_rfl) (by kernel_rfl) (by kernel_rfl) (fun _ _ _ h => h) (Or.inr ⟨by rfl, rfl⟩) hHeld ?_
        try simp only [Act.put, List.setIfInBounds_toArray, List.set_cons_zero, List.set_cons_succ]
        refine takeD (i := 12) (v := undef) (some 44) rfl rfl (by kernel_rfl) (by kernel_rfl) (by kernel_rfl) (fun _ _ _ h => h) (Or.inr ⟨by rfl, rfl⟩) hHeld ?_
        try simp only [Act.put, List.setIfInBounds_toArray, List.set_cons_zero, List.set_cons_succ]
        refine takeD (i := 13) (v := undef) (some 45) rfl rfl (by kernel_rfl) (by kernel_rfl) (by kernel_rfl) (fun _ _ _ h => h) (Or.inr ⟨by rfl, rfl⟩) hHeld ?_
        try simp only [Act.put, List.setIfInBounds_toArray, List.set_cons_zero, List.set_cons_succ]
        refine takeD (i := 14) (v := .bool false) (some 46) rfl rfl (by kernel_rfl) (by kernel_rfl) (by kernel_rfl) (fun _ _ _ h => h) (Or.inl ⟨by rfl, fun w' hw' => ?_⟩) hHeld ?_
        · first | (go_simp; done) | (obtain ⟨s0, s1, s2, s3, s4, s5, s6, s7, s8, s9, s10, s11⟩ := hw'; go_simp; done) | (obtain ⟨s0, s1, s2, s3, s4, s5, s6, s7⟩ := hw'; go_simp; done) | (obtain ⟨s0, s1⟩ := hw'; go_simp; done)
        try simp only [Act.put, List.setIfInBounds_toArray, List.set_cons_zero, List.set_cons_succ]
        refine takeD (i := 15) (v := .bool false) (some 4) rfl rfl (by kernel_rfl) (by kernel_rfl) (by kernel_rfl) (fun _ _ _ h => h) (Or.inl ⟨by rfl, fun w' hw' => ?_⟩) hHeld ?_
        · first | (go_simp; done) | (obtain ⟨s0, s1, s2, s3, s4, s5, s6, s7, s8, s9, s10, s11⟩ := hw'; go_simp; done) | (obtain ⟨s0, s1, s2, s3, s4, s5, s6, s7⟩ := hw'; go_simp; done) | (obtain ⟨s0, s1⟩ := hw'; go_simp; done)
        try simp only [Act.put, List.setIfInBounds_toArray, List.set_cons_zero, List.set_cons_succ]
        refine wpAnyH_done (by kernel_rfl) ?_ _
        go_wp2
        go_ret
        exact ⟨ret_bool (hv.out.trans hGF.out).symm, t2.drew⟩
      · rw [hHd] at hHH
        have hGT : Hid (givB q.rules ts xs a ((n : Int).toNat) = reachI (nth q.rules n) (maskOf ts) (maskOf xs)) := by show _ = _; rw [hGV.out, hHd, reachI_h2 hok12 hfr]; rfl
        go_region_held3 (fun W' => W'.cell? ⟨w1.heap.size, 0, none⟩ = some (.bool (nth q.rules n).choice) ∧ W'.cell? ⟨w1.heap.size, 1, none⟩ = some (.slice ah (nth q.rules n).heads.length kh) ∧ W'.cell? ⟨w1.heap.size, 2, none⟩ = some (.bool (nth q.rules n).weight) ∧ W'.cell? ⟨w1.heap.size, 3, none⟩ = some (.int .i64 (nth q.rules n).bound) ∧ W'.cell? ⟨w1.heap.size, 4, none⟩ = some (.slice ab (nth q.rules n).body.length kb) ∧ W'.cell? ⟨w.heap.size, 8, none⟩ = some (.int .u16 (maskOf xs : Int)) ∧ W'.cell? ⟨w.heap.size, 9, none⟩ = some (.int .u16 (maskOf ts : Int)) ∧ W'.cell? ⟨w.heap.size + 1, 0, none⟩ = some (.int .i64 a))
          (first | exact K8 _ R0 | exact K8 _ R0.drew | exact K8 _ (R0.drew.step b3))
          (first | (go_at_call 37; refine (atomsIn_calls _ _ _ _ (hh2.later R0.drew).ints).mono ?_; rintro e w' ⟨rfl, rfl⟩) |
            (go_at_call 73; refine (has_calls _ _ _ hml2 fa).mono ?_; rintro e w' ⟨he, rfl⟩; rw [hHH] at he; subst he) |
            (go_at_call 75; refine (implReach2_calls _ _ hmt hmx (Rd.mono R0.drew hR2) hok12).mono ?_; rintro e w3 ⟨rfl, b3⟩))
        go_wp2
        go_ret
        exact ⟨ret_bool (hv.out.trans hGT.out).symm, t2.drew.step b3⟩
end


section
attribute [local go_sem] Oper.semAt_some

theorem pickTo_prefix (f : Int → Bool) : ∀ {n m : Nat}, n ≤ m → pickTo f n <+: pickTo f m
  | n, 0, h => by obtain rfl : n = 0 := by omega
                  exact List.prefix_refl _
  | n, m + 1, h => by
    rcases Nat.lt_or_ge m n with hk | hk
    · obtain rfl : n = m + 1 := by omega
      exact List.prefix_refl _
    · refine List.IsPrefix.trans (pickTo_prefix f hk) ?_
      cases hf : f ((m : Int) + 1)
      · rw [pickTo_no hf]; exact List.prefix_refl _
      · rw [pickTo_yes hf]; exact List.prefix_append _ _
/-- An atom of a mask. -/
abbrev AtomL (m : Nat) := { x : Int // (1 ≤ x ∧ x ≤ 12) ∧ hasM m x = true }
set_option maxHeartbeats 2000000 in
theorem atoms_stopsP {F : Fence} (hF : F = Fence.wide) (n : Nat) (hn : 2 ≤ n) (m : Nat) (hm : m < 4096) (w : World) (Bn : Nat) (hb : Boxed w Bn 68 (.int .u16 (m : Int))) :
    SeqStopsK F n Try.prog 101 #[.pointer (some ⟨Bn, 0, none⟩)] (fun x : AtomL m => #[Value.int .i64 x.1]) (KpB Bn 68 (.int .u16 (m : Int))) (fun ys => ys.map (fun x => x.1) = pickTo (hasM m) 12) (fun ys => ys.map (fun x => x.1) <+: pickTo (hasM m) 12) 12 w := fun l J Jx W hW hJ hJx hY h0 => by
  have hbW : Boxed W Bn 68 (.int .u16 (m : Int)) := (hW.block Bn hb.lt).trans hb
  have hro := wideR hF
  have h1 : F.fn 73 := wideF hF _
  have hn1 : 1 ≤ n - 1 := by omega
  have hn0 : 1 ≤ n := by omega
  have hHas := fun (k : Nat) (x : Int) (hx : Fits x) (W : World) => Lib.hid (wideC (n := k) hF (has_calls m x W hm hx))
  refine callsIn_of_wp Try.func101 rfl (wideF hF _) ?_ hro
  clear hF
  simp only [Try.ntmps101, List.size_toArray, List.length_cons, List.length_nil, Nat.reduceAdd, Nat.reduceSub, Array.replicate_succ, Array.replicate_zero, List.push_toArray, List.append_toArray, List.nil_append, List.cons_append]
  gi_wp2
  gi_loopw [3] (fun i wr => ∃ (k : Nat) (pre : List (AtomL m)), k ≤ 12 ∧ i = .int .i64 ((k : Int) + 1) ∧ pre.map (·.1) = pickTo (hasM m) k ∧ J pre wr ∧ Boxed wr Bn 68 (.int .u16 (m : Int))) (fun i _ => 13 - (intOf i).toNat)
  case atStart => exact ⟨0, [], by omega, rfl, rfl, h0, hbW⟩
  case round =>
    obtain ⟨k, pre, hk, rfl, hp, hJs, hB⟩ := hrel
    have hc := hB.cell
    by_cases hlt : k < 12
    · have hFi := fits_small (n := (k : Int) + 1) (by omega) (by omega)
      have hlen : pre.length < 12 := by
        have h1 := congrArg List.length hp
        rw [List.length_map] at h1
        have h2 := pickTo_len (hasM m) k
        omega
      cases hM : hasM m ((k : Int) + 1)
      · have hp' := Lib.hid (show pre.map (·.1) = pickTo (hasM m) (k + 1) by rw [pickTo_no hM]; exact hp)
        gi_wp2_with (gi_at_call 73; refine (hHas _ _ hFi _).out.mono ?_; rintro e w' ⟨rfl, rfl⟩)
        refine ⟨fun _ h => (by cases h), ?_⟩
        gi_wp2
        go_roundw
        case rel => exact ⟨k + 1, pre, by omega, by go_num, hp'.out, hJs, hB⟩
        case measure => simp [intOf]; omega
      · obtain ⟨fn, tmps, assign, body, hy, hR⟩ := hY pre ⟨(k : Int) + 1, by omega, hM⟩ wr hJs hlen
        have hp' := Lib.hid (show (pre ++ [(⟨(k : Int) + 1, by omega, hM⟩ : AtomL m)]).map (·.1) = pickTo (hasM m) (k + 1) by rw [pickTo_yes hM, List.map_append, hp]; rfl)
        dsimp only at hy
        gi_wp2_with (gi_at_call 73; refine (hHas _ _ hFi _).out.mono ?_; rintro e w' ⟨rfl, rfl⟩)
        refine hR.mono ?_
        rintro e W3 (⟨rfl, hJ3, hk3⟩ | ⟨rfl, hJx3⟩)
        · gi_wp2
          go_roundw
          case rel => exact ⟨k + 1, _, by omega, by go_num, hp'.out, hJ3, hk3 hB⟩
          case measure => simp [intOf]; omega
        · gi_wp2
          refine bodyPost_ret (results_none rfl _ _ _) rfl ?_
          exact ⟨⟨_, rfl⟩, .inr ⟨_, by rw [hp'.out]; exact pickTo_prefix _ (by omega), hJx3⟩⟩
    · obtain rfl : k = 12 := by omega
      gi_wp2
      go_end0
      exact ⟨⟨_, rfl⟩, .inl ⟨pre, hp, hJs⟩⟩


theorem keeps_of_below {B : Nat} {W W' : World} (h : Below W.heap.size W W') : KeepsFrom B W W' := ⟨h.size, fun k o _ hk _ => (h.block k (Array.getElem?_eq_some_iff.1 hk).1).trans hk⟩
theorem alwB_lack {rs : List RuleD} {ts xs : List Int} {a : Int} (h : (hasB xs a && !hasB ts a) = true) {k : Nat} (hk : k < rs.length) : alwB rs ts xs (a, (k : Int)) = givB rs ts xs a k := by
  rw [alwB_C h (by show btwB (k : Int) 0 _ = true; exact decide_eq_true (by omega)), Int.toNat_natCast]
theorem find_snoc_no {f : Int → Option (Int × Int)} {l : List Int} {a : Int} (h : l.findSome? f = none) (h' : f a = none) : (l ++ [a]).findSome? f = none := by rw [List.findSome?_append, h]; simp [h']
theorem find_snoc_yes {f : Int → Option (Int × Int)} {l : List Int} {a : Int} {q : Int × Int} (h : l.findSome? f = none) (h' : f a = some q) : (l ++ [a]).findSome? f = some q := by rw [List.findSome?_append, h]; simp [h']
theorem find_prefix {f : Int → Option (Int × Int)} {l m : List Int} {q : Int × Int} (h : l <+: m) (h' : l.findSome? f = some q) : m.findSome? f = some q := by
  obtain ⟨r, rfl⟩ := h
  rw [List.findSome?_append, h']; rfl
theorem cellsAtY {W : World} {b : Nat} {cs : List Value} {t : TypeId} (h : W.heap[b]? = some (.cells cs.toArray t (0, 0))) : Cells W b 0 cs := fun j v hv => by
  rw [Nat.zero_add, cell_of_row W b j _ _ _ h]; simpa using hv
/-- What lies in the two boxes behind the three stores. -/
theorem three_set {W : World} {b c : Nat} {u0 u1 u2 v0 v1 v2 : Value} {t t' : TypeId} (hne : b ≠ c) (h : W.heap[b]? = some (.cells #[u0, u1] t (0, 0))) (h' : W.heap[c]? = some (.cells #[u2] t' (0, 0))) :
    (((W.setCell ⟨b, 0, none⟩ v0).setCell ⟨b, 1, none⟩ v1).setCell ⟨c, 0, none⟩ v2).heap[b]? = some (.cells #[v0, v1] t (0, 0)) ∧ (((W.setCell ⟨b, 0, none⟩ v0).setCell ⟨b, 1, none⟩ v1).setCell ⟨c, 0, none⟩ v2).heap[c]? = some (.cells #[v2] t' (0, 0)) := by
  have e1 : (W.setCell ⟨b, 0, none⟩ v0).heap[b]? = some (.cells #[v0, u1] t (0, 0)) := by rw [heap_setCell_same W b 0 _ _ _ h]; rfl
  have e2 : ((W.setCell ⟨b, 0, none⟩ v0).setCell ⟨b, 1, none⟩ v1).heap[b]? = some (.cells #[v0, v1] t (0, 0)) := by rw [heap_setCell_same _ b 1 _ _ _ e1]; rfl
  have e3 : ((W.setCell ⟨b, 0, none⟩ v0).setCell ⟨b, 1, none⟩ v1).heap[c]? = some (.cells #[u2] t' (0, 0)) := (Below.heap_setCell _ _ _ _ (by simpa using hne.symm)).trans ((Below.heap_setCell _ _ _ _ (by simpa using hne.symm)).trans h')
  exact ⟨(Below.heap_setCell _ _ _ _ (by simpa using hne)).trans e2, by rw [heap_setCell_same _ c 0 _ _ _ e3]; rfl⟩
/-- The next Reason as two numbers. -/
def nxV (o : Option (Int × Int)) : Int × Int := o.getD (0, 0)

set_option maxHeartbeats 8000000 in
theorem next_calls {x0 x1 x2 x3 x4 x5 x6 x7 : Value} {q : ProgD} {w : World} (xs ts : List Int) (h : Rd.R w [x0, x1, x2, x3, x4, x5, x6, x7] q) (hok : ∀ r ∈ q.rules, ruleOkB r 12 = true) (hl : q.rules.length ≤ 60) (hx : IsP xs) :
    Calls Try.prog 30 #[.agg #[x0, x1, x2, x3, x4, x5, x6, x7, .int .u16 (maskOf xs : Int), .int .u16 (maskOf ts : Int)]] w fun e w' => e = .returned (.tuple #[.agg #[.int .i64 (nxV (nxt q.rules ts xs)).1, .int .i64 (nxV (nxt q.rules ts xs)).2], .bool (nxt q.rules ts xs).isSome]) ∧ Below w.heap.size w w' := by
  have h0 := h
  obtain ⟨_, _, _, _, _, _, hcs, hf, g1, _⟩ := h0
  simp only [List.cons.injEq, and_true] at hcs
  obtain ⟨-, rfl, -⟩ := hcs
  obtain ⟨a1, k1, rfl, _, h1⟩ := g1.sl
  have hm1 := h1.1
  have hml := lackM_lt xs ts
  clear hf g1
  refine (callsIn_wide (n := 9)).1 ?_
  obtain ⟨F, hF⟩ : ∃ F, F = Fence.wide := ⟨_, rfl⟩
  rw [← hF]
  have hro := wideR hF
  have hLa := fun (k : Nat) (W : World) => Lib.hid (wideC (n := k) hF (lacking_calls (x0 := x0) (x1 := .slice a1 q.rules.length k1) (x2 := x2) (x3 := x3) (x4 := x4) (x5 := x5) (x6 := x6) (x7 := x7) xs ts W))
  have hAt := fun (k : Nat) (W : World) => Lib.hid (wideC (n := k) hF (atomsSeq_calls (lackM xs ts) W))
  have hAl := fun (k : Nat) (a i : Int) (fa : Fits a) (fi : Fits i) (W : World) (hW : Rd.R W [x0, .slice a1 q.rules.length k1, x2, x3, x4, x5, x6, x7] q) => Lib.hid (wideC (n := k) hF (allows_calls xs ts a i hW hok hl hx fa fi))
  have hf1 : F.fn 70 := wideF hF _
  have hf2 : F.fn 101 := wideF hF _
  have hf3 : F.fn 34 := wideF hF _
  have hf4 : F.fn 33 := wideF hF _
  have HF := Lib.hid hF
  have t0 : Below w.heap.size w (((w.alloc (.cells #[x0, .slice a1 q.rules.length k1, x2, x3, x4, x5, x6, x7, .int .u16 (maskOf xs : Int), .int .u16 (maskOf ts : Int)] 74)).alloc (.cells #[.int .i64 0, .int .i64 0] 76)).alloc (.cells #[.bool false] 4)) := (((Below.refl _ _).alloc (Nat.le_refl _) _).alloc (by simp) _).alloc (by simp; omega) _
  have CV := ((Cells.new w [x0, .slice a1 q.rules.length k1, x2, x3, x4, x5, x6, x7, .int .u16 (maskOf xs : Int), .int .u16 (maskOf ts : Int)] 74).alloc (.cells #[.int .i64 0, .int .i64 0] 76)).alloc (.cells #[.bool false] 4)
  obtain ⟨y0, y1, y2, y3, y4, y5, y6, y7, y8, y9⟩ := cells10 CV
  refine callsIn_of_wp_marks Try.func30 rfl (wideF hF _) ?_ hro
  clear hF
  simp only [Try.ntmps30, List.size_toArray, List.length_cons, List.length_nil, Nat.reduceAdd, Nat.reduceSub, Array.replicate_succ, Array.replicate_zero, List.push_toArray, List.append_toArray, List.nil_append, List.cons_append]
  gi_wp2_with (first | (gi_at_call 34; refine (hLa _ _).out.mono ?_; rintro e w1 ⟨rfl, b1⟩) | (gi_at_call 70; refine (hAt _ _).out.mono ?_; rintro e w4 ⟨rfl, e4⟩))
  have b1' : Below _ _ w1 := b1
  have t1 := t0.step b1
  have hV1 := (b1.block w.heap.size (by simp; omega)).trans ((Below.heap_alloc _ (.cells #[.bool false] 4) w.heap.size (by simp; omega)).trans ((Below.heap_alloc _ (.cells #[.int .i64 0, .int .i64 0] 76) w.heap.size (by simp)).trans (alloc_block w #[x0, .slice a1 q.rules.length k1, x2, x3, x4, x5, x6, x7, .int .u16 (maskOf xs : Int), .int .u16 (maskOf ts : Int)] 74)))
  have hR0 := alloc_block (w.alloc (.cells #[x0, .slice a1 q.rules.length k1, x2, x3, x4, x5, x6, x7, .int .u16 (maskOf xs : Int), .int .u16 (maskOf ts : Int)] 74)) #[.int .i64 0, .int .i64 0] 76
  rw [World.size_alloc] at hR0
  have hR1 := (b1.block (w.heap.size + 1) (by simp)).trans ((Below.heap_alloc _ (.cells #[.bool false] 4) (w.heap.size + 1) (by simp)).trans hR0)
  have hO0 := alloc_block ((w.alloc (.cells #[x0, .slice a1 q.rules.length k1, x2, x3, x4, x5, x6, x7, .int .u16 (maskOf xs : Int), .int .u16 (maskOf ts : Int)] 74)).alloc (.cells #[.int .i64 0, .int .i64 0] 76)) #[.bool false] 4
  rw [World.size_alloc, World.size_alloc] at hO0
  have hO1 := (b1.block (w.heap.size + 1 + 1) (by simp)).trans hO0
  have hz1 : w.heap.size + 3 ≤ w1.heap.size := by have := b1.size; simpa using this
  have b4 : Below w1.heap.size w1 w4 := by rw [e4]; exact (Below.refl _ _).alloc (Nat.le_refl _) _
  have hbx : Boxed w4 w1.heap.size 68 (.int .u16 (lackM xs ts : Int)) := by rw [e4]; exact Boxed.new w1 68 _
  have hV4 := (b4.block w.heap.size (by omega)).trans hV1
  have hR4 := (b4.block (w.heap.size + 1) (by omega)).trans hR1
  have hO4 := (b4.block (w.heap.size + 1 + 1) (by omega)).trans hO1
  have t4 := t1.step b4
  have hz4 : w.heap.size + 3 ≤ w4.heap.size := by have := b4.size; omega
  have hRd := h
  have hseq := atoms_stopsP HF.out 8 (by omega) (lackM xs ts) hml w4 w1.heap.size hbx
  clear b1 b1' t0 t1 hV1 hR0 hR1 hO0 hO1 CV y0 y1 y2 y3 y4 y5 y6 y7 y8 y9 hLa hAt b4
  try rw [← e4]
  clear e4
  refine wpIn_rangeFunc_ownG hro (by omega) (gf := 101) (lb := #[.pointer (some ⟨w1.heap.size, 0, none⟩)]) rfl hf2 (enters_of Try.func101 (by kernel_rfl) rfl)
    hseq kpB_t kpB_b (Below.refl _ _) (fun _ => rfl)
    (fun pre X => (pre.map fun x => x.1).findSome? (nxA q.rules ts xs) = none ∧ X.heap[w.heap.size]? = some (.cells #[x0, .slice a1 q.rules.length k1, x2, x3, x4, x5, x6, x7, .int .u16 (maskOf xs : Int), .int .u16 (maskOf ts : Int)] 74 (0, 0)) ∧ X.heap[w.heap.size + 1]? = some (.cells #[.int .i64 0, .int .i64 0] 76 (0, 0)) ∧ X.heap[w.heap.size + 1 + 1]? = some (.cells #[.bool false] 4 (0, 0)) ∧ Below w.heap.size w X)
    (fun c pre X => c = .ret ∧ ∃ g, (pre.map fun x => x.1).findSome? (nxA q.rules ts xs) = some g ∧ X.heap[w.heap.size + 1]? = some (.cells #[.int .i64 g.1, .int .i64 g.2] 76 (0, 0)) ∧ X.heap[w.heap.size + 1 + 1]? = some (.cells #[.bool true] 4 (0, 0)) ∧ Below w.heap.size w X)
    ?own ?ownx ⟨rfl, hV4, hR4, hO4, t4⟩
    (fun x => { tmps := #[.agg #[x0, .slice a1 q.rules.length k1, x2, x3, x4, x5, x6, x7, .int .u16 (maskOf xs : Int), .int .u16 (maskOf ts : Int)], .pointer (some ⟨w.heap.size, 0, none⟩), .pointer (some ⟨w.heap.size + 1, 0, none⟩), .pointer (some ⟨w.heap.size + 1 + 1, 0, none⟩), .int .i64 x.1, undef, undef, .agg #[x0, .slice a1 q.rules.length k1, x2, x3, x4, x5, x6, x7, .int .u16 (maskOf xs : Int), .int .u16 (maskOf ts : Int)], .int .u16 (lackM xs ts : Int), .func (.func 101) #[] #[.pointer (some ⟨w1.heap.size, 0, none⟩)], .int .i64 x.1, undef, undef, undef, undef, undef, undef, undef, undef, undef, undef, undef, undef, undef, undef, undef, undef, undef], defers := [] }) ?assign ?body ?done ?stop
  case own =>
    rintro s A B row ⟨g1, g2, g3, g4, g5⟩ hg hr
    have hn : ∀ k, k < w.heap.size + 3 → some k ≠ row := fun k hk e => by have := (hr k e.symm).1; omega
    exact ⟨g1, (hg.block _ (block_lt g2) (hn _ (by omega))).trans g2, (hg.block _ (block_lt g3) (hn _ (by omega))).trans g3, (hg.block _ (block_lt g4) (hn _ (by omega))).trans g4, (ownFrom_below (β := Unit) (Nat.le_refl _) (by omega)) () A B row g5 hg hr⟩
  case ownx =>
    rintro c s A B row ⟨g1, g, g2, g3, g4, g5⟩ hg hr
    have hn : ∀ k, k < w.heap.size + 3 → some k ≠ row := fun k hk e => by have := (hr k e.symm).1; omega
    exact ⟨g1, g, g2, (hg.block _ (block_lt g3) (hn _ (by omega))).trans g3, (hg.block _ (block_lt g4) (hn _ (by omega))).trans g4, (ownFrom_below (β := Unit) (Nat.le_refl _) (by omega)) () A B row g5 hg hr⟩
  case assign =>
    intro lc x X K hK
    gi_wp2
    exact hK
  case body =>
    rintro lc pre x X ⟨hN, hV, hR, hO, hB⟩ hlen
    have hlk := lack_has (ts := ts) hx x.1
    rw [x.2.2] at hlk
    have CX := cellsAtY hV
    obtain ⟨y0, y1, y2, y3, y4, y5, y6, y7, y8, y9⟩ := cells10 CX
    have hx12 := x.2.1
    have fx : Fits x.1 := ⟨by omega, by omega⟩
    have HLK := Lib.hid hlk
    have HX2 := Lib.hid x.2.2
    clear hlk
    gi_wp2
    clear y0 y1 y2 y3 y4 y5 y6 y7 y8 y9
    gi_loopw [16] (fun i wr => ∃ k : Nat, k ≤ q.rules.length ∧ i = .int .i64 (k : Int) ∧ rulTo q.rules ts xs x.1 k = none ∧ Below X.heap.size X wr) (fun i _ => q.rules.length - (intOf i).toNat)
    case atStart => exact ⟨0, Nat.zero_le _, rfl, rfl, Below.refl _ _⟩
    case round =>
      obtain ⟨k, hk, rfl, hru, hb⟩ := hrel
      have hszb := hb.size
      have hlw : w.heap.size < wr.heap.size := Nat.lt_of_lt_of_le (block_lt hV) hszb
      have hlw1 : w.heap.size + 1 < wr.heap.size := Nat.lt_of_lt_of_le (block_lt hR) hszb
      have hlw2 : w.heap.size + 1 + 1 < wr.heap.size := Nat.lt_of_lt_of_le (block_lt hO) hszb
      obtain ⟨y0, y1, y2, y3, y4, y5, y6, y7, y8, y9⟩ := cells10 (CX.later hb)
      by_cases hlt : k < q.rules.length
      · have fk : Fits (k : Int) := ⟨by omega, by omega⟩
        have hkl : (k : Int) < (q.rules.length : Int) := by omega
        have bA := (Below.refl wr.heap.size wr).alloc (Nat.le_refl _) (.cells #[.int .i64 x.1, .int .i64 (k : Int)] 76)
        have hbA := hb.step bA
        have CY := Cells.new wr [.int .i64 x.1, .int .i64 (k : Int)] 76
        obtain ⟨z0, z1⟩ := cells2 CY
        cases hg : givB q.rules ts xs x.1 k
        · have hru' := Lib.hid (rulTo_no hru hg)
          have HE := Lib.hid ((alwB_lack HLK.out.symm hlt).trans hg)
          clear hg hru
          gi_wp2_with (gi_at_call 33; refine (CallsIn.inRound lc (hAl _ x.1 (k : Int) fx fk _ (Rd.mono (hB.step hbA) hRd)).out).mono ?_; rintro e w5 ⟨he, b5⟩; rw [HE.out] at he; subst he)
          go_roundw
          case rel => exact ⟨k + 1, by omega, by go_num, hru'.out, hbA.step b5⟩
          case measure => simp [intOf]; omega
        · have hru' := Lib.hid (rulF_at hlt hru hg)
          have HE := Lib.hid ((alwB_lack HLK.out.symm hlt).trans hg)
          clear hg hru
          gi_wp2_with (gi_at_call 33; refine (CallsIn.inRound lc (hAl _ x.1 (k : Int) fx fk _ (Rd.mono (hB.step hbA) hRd)).out).mono ?_; rintro e w5 ⟨he, b5⟩; rw [HE.out] at he; subst he; obtain ⟨z0', z1'⟩ := cells2 (CY.later b5); have hR5 := ((hbA.step b5).block _ (block_lt hR)).trans hR; have hO5 := ((hbA.step b5).block _ (block_lt hO)).trans hO; have f0 := frozen_of_row w5 (w.heap.size + 1) 0 _ _ hR5; have f1 := frozen_of_row w5 (w.heap.size + 1) 1 _ _ hR5; have f2 := frozen_of_row w5 (w.heap.size + 1 + 1) 0 _ _ hO5; obtain ⟨c0, c1⟩ := cells2 (cellsAtY (cs := [.int .i64 0, .int .i64 0]) hR5); have c2 := cellsAtY (cs := [.bool false]) hO5 0 _ rfl)
          have hw5 := (hbA.step b5)
          obtain ⟨r1, r2⟩ := three_set (v0 := .int .i64 x.1) (v1 := .int .i64 (k : Int)) (v2 := .bool true) (show w.heap.size + 1 ≠ w.heap.size + 1 + 1 by omega) hR5 hO5
          refine ⟨(keeps_of_below hw5).trans (((((KeepsOthers.setCell _ _ _).trans (KeepsOthers.setCell _ _ _))).trans (KeepsOthers.setCell _ _ _)).from _), rfl, (x.1, (k : Int)), ?_, r1, r2, ?_⟩
          · rw [List.map_append]
            exact find_snoc_yes hN (by unfold nxA; rw [hru'.out]; rfl)
          · exact (((hB.step hw5).setCell (p := ⟨w.heap.size + 1, 0, none⟩) (by simp) _).setCell (p := ⟨w.heap.size + 1, 1, none⟩) (by simp) _).setCell (p := ⟨w.heap.size + 1 + 1, 0, none⟩) (by simp; omega) _
      · obtain rfl : k = q.rules.length := by omega
        gi_wp2
        refine ⟨keeps_of_below hb, fun hbx' => (hb.block _ hbx'.lt).trans hbx', ?_, (hb.block _ (block_lt hV)).trans hV, (hb.block _ (block_lt hR)).trans hR, (hb.block _ (block_lt hO)).trans hO, hB.step hb⟩
        rw [List.map_append]
        exact find_snoc_no hN (by unfold nxA; rw [show rulF q.rules ts xs x.1 = none from hru]; rfl)
  case done =>
    rintro D ys X hD hS ⟨hN, hV, hR, hO, hB⟩ hK
    have hnx : nxt q.rules ts xs = none := by
      have hS' : ys.map (fun x => x.1) = _ := hS
      rw [hS', show pickTo (hasM (lackM xs ts)) 12 = outL ts xs from lack_list hx] at hN
      exact hN
    obtain ⟨c0, c1⟩ := cells2 (cellsAtY (cs := [.int .i64 0, .int .i64 0]) hR)
    have c2 := cellsAtY (cs := [.bool false]) hO 0 _ rfl
    have f0 := frozen_of_row X (w.heap.size + 1) 0 _ _ hR
    have f1 := frozen_of_row X (w.heap.size + 1) 1 _ _ hR
    have f2 := frozen_of_row X (w.heap.size + 1 + 1) 0 _ _ hO
    gi_wp2
    obtain ⟨r1, r2⟩ := three_set (v0 := .int .i64 0) (v1 := .int .i64 0) (v2 := .bool false) (show w.heap.size + 1 ≠ w.heap.size + 1 + 1 by omega) hR hO
    have hK' := ((((KeepsOthers.setCell X ⟨w.heap.size + 1, 0, none⟩ (.int .i64 0)).trans (KeepsOthers.setCell _ ⟨w.heap.size + 1, 1, none⟩ (.int .i64 0)))).trans (KeepsOthers.setCell _ ⟨w.heap.size + 1 + 1, 0, none⟩ (.bool false))).same D _ hK rfl
    refine ⟨by simp, .inl ⟨_, _, rfl, run_takeDeferred hK', ?_⟩⟩
    have e1 := (World.putObj_heap_other (o := .deferred none) (show w.heap.size + 1 ≠ D by omega)).trans r1
    have e2 := (World.putObj_heap_other (o := .deferred none) (show w.heap.size + 1 + 1 ≠ D by omega)).trans r2
    obtain ⟨d0, d1⟩ := cells2 (cellsAtY (cs := [.int .i64 0, .int .i64 0]) e1)
    have d2 := cellsAtY (cs := [.bool false]) e2 0 _ rfl
    refine ⟨.tuple #[.agg #[.int .i64 0, .int .i64 0], .bool false], ?_, by rw [hnx]; rfl, ?_⟩
    · simp [results, Try.results30, go_sem, d0, d1, d2]
    · exact (((hB.setCell (p := ⟨w.heap.size + 1, 0, none⟩) (by simp) _).setCell (p := ⟨w.heap.size + 1, 1, none⟩) (by simp) _).setCell (p := ⟨w.heap.size + 1 + 1, 0, none⟩) (by simp; omega) _).trans (belowK_b (w := w) (Nat.le_refl _) _ D _ _ (by omega) hK' rfl rfl)
  case stop =>
    rintro D c pre X hD hP ⟨rfl, g, hg, hR, hO, hB⟩ hK
    have hnx : nxt q.rules ts xs = some g := by
      have hP' : pre.map (fun x => x.1) <+: _ := hP
      rw [show pickTo (hasM (lackM xs ts)) 12 = outL ts xs from lack_list hx] at hP'
      exact find_prefix hP' hg
    gi_wp2
    refine ⟨by simp, .inl ⟨_, _, rfl, run_takeDeferred hK, ?_⟩⟩
    have e1 := (World.putObj_heap_other (o := .deferred none) (show w.heap.size + 1 ≠ D by omega)).trans hR
    have e2 := (World.putObj_heap_other (o := .deferred none) (show w.heap.size + 1 + 1 ≠ D by omega)).trans hO
    obtain ⟨d0, d1⟩ := cells2 (cellsAtY (cs := [.int .i64 g.1, .int .i64 g.2]) e1)
    have d2 := cellsAtY (cs := [.bool true]) e2 0 _ rfl
    refine ⟨.tuple #[.agg #[.int .i64 g.1, .int .i64 g.2], .bool true], ?_, by rw [hnx]; rfl, ?_⟩
    · simp [results, Try.results30, go_sem, d0, d1, d2]
    · exact hB.trans (belowK_b (w := w) (Nat.le_refl _) _ D _ _ (by omega) hK rfl rfl)


end

set_option maxHeartbeats 4000000 in
theorem viewOf_no {cs : List Value} {p : ProgD} {w : World} {v : Value} {xs : List Int} (h : Rd.R w cs p) (gx : RdL w [v] xs) (hn : whyB p xs = false) :
    Calls Try.prog 29 #[.agg cs.toArray, v] w fun e w' => e = .returned (.tuple #[.agg #[.int .i64 0, .slice none 0 0, .slice none 0 0, .bool false, .slice none 0 0, .slice none 0 0, .slice none 0 0, .slice none 0 0, .int .u16 0], .bool false]) ∧ Below w.heap.size w w' := by
  cases hF : foldB p
  · skip
    obtain ⟨p0, p1, p2, p3, p4, p5, p6, p7, rfl⟩ := list8 (Rd.len h)
    obtain ⟨ax, cx, rfl, _, hx⟩ := gx.sl
    have hxm := hx.1
    have t0 : Below w.heap.size w ((w.alloc (.cells #[p0, p1, p2, p3, p4, p5, p6, p7] 30)).alloc (.cells #[.int .i64 0, .slice none 0 0, .slice none 0 0, .bool false, .slice none 0 0, .slice none 0 0, .slice none 0 0, .slice none 0 0, .int .u16 0] 70)) := ((Below.refl _ _).alloc (by simp) _).alloc (by simp) _
    have hz := alloc_block (w.alloc (.cells #[p0, p1, p2, p3, p4, p5, p6, p7] 30)) #[.int .i64 0, .slice none 0 0, .slice none 0 0, .bool false, .slice none 0 0, .slice none 0 0, .slice none 0 0, .slice none 0 0, .int .u16 0] 70
    rw [World.size_alloc] at hz
    have hs0 : ((w.alloc (.cells #[p0, p1, p2, p3, p4, p5, p6, p7] 30)).alloc (.cells #[.int .i64 0, .slice none 0 0, .slice none 0 0, .bool false, .slice none 0 0, .slice none 0 0, .slice none 0 0, .slice none 0 0, .int .u16 0] 70)).heap.size = w.heap.size + 2 := by simp
    go_enter Try.func29, Try.ntmps29
    go_wp2_with fail
    refine (implFold_calls (Rd.mono t0 h)).mono ?_
    rintro e w1 ⟨cs1, he, o1, b1⟩
    rw [hF] at he
    subst he
    have t1 := t0.step b1
    have l1 := Rd.one o1.rd
    obtain ⟨x0, x1, x2, x3, x4, x5, x6, x7, rfl⟩ := list8 (Rd.len o1.rd)
    have st0 := sto Try.prog (l1 x0 (by simp))
    have st1 := sto Try.prog (l1 x1 (by simp))
    have st2 := sto Try.prog (l1 x2 (by simp))
    have st3 := sto Try.prog (l1 x3 (by simp))
    have st4 := sto Try.prog (l1 x4 (by simp))
    have st5 := sto Try.prog (l1 x5 (by simp))
    have st6 := sto Try.prog (l1 x6 (by simp))
    have st7 := sto Try.prog (l1 x7 (by simp))
    have o1 := o1.alloc (.cells #[x0, x1, x2, x3, x4, x5, x6, x7] 30)
    have CX1 := Cells.new w1 [x0, x1, x2, x3, x4, x5, x6, x7] 30
    have t1 := t1.alloc t1.size (.cells #[x0, x1, x2, x3, x4, x5, x6, x7] 30)
    clear l1
    have hz1 := (Below.heap_alloc w1 (.cells #[x0, x1, x2, x3, x4, x5, x6, x7] 30) (w.heap.size + 1) (by have := b1.size; omega)).trans ((b1.block _ (block_lt hz)).trans hz)
    have hbs : w.heap.size + 2 ≤ w1.heap.size := by have := b1.size; omega
    have hlz : w.heap.size + 1 < w1.heap.size := by omega
    go_upto_region 3 with fail
    clear st0 st1 st2 st3 st4 st5 st6 st7
    generalize w1.alloc (.cells #[x0, x1, x2, x3, x4, x5, x6, x7] 30) = wq at *
    have hfz := fun j => frozen_of_row wq (w.heap.size + 1) j _ _ hz1
    have hzl := block_lt hz1
    obtain ⟨z0, z1, z2, z3, z4, z5, z6, z7, z8⟩ := cells9 (cellsAtY (W := wq) (b := w.heap.size + 1) (cs := [.int .i64 0, .slice none 0 0, .slice none 0 0, .bool false, .slice none 0 0, .slice none 0 0, .slice none 0 0, .slice none 0 0, .int .u16 0]) hz1)
    clear hz1
    go_wp2
    refine bodyPost_ret (v := .tuple #[.agg #[.int .i64 0, .slice none 0 0, .slice none 0 0, .bool false, .slice none 0 0, .slice none 0 0, .slice none 0 0, .slice none 0 0, .int .u16 0], .bool false])
      (by simp [results, Try.results29, go_sem, z0, z1, z2, z3, z4, z5, z6, z7, z8]) rfl ?_
    refine ⟨rfl, ?_⟩
    repeat (refine Below.setCell ?_ (by simp; try omega) _)
    exact t1
  · have hS : setOkB xs (foldD p).atoms = false := by rw [← whyB_B hF]; exact hn
    obtain ⟨p0, p1, p2, p3, p4, p5, p6, p7, rfl⟩ := list8 (Rd.len h)
    obtain ⟨ax, cx, rfl, _, hx⟩ := gx.sl
    have hxm := hx.1
    have t0 : Below w.heap.size w ((w.alloc (.cells #[p0, p1, p2, p3, p4, p5, p6, p7] 30)).alloc (.cells #[.int .i64 0, .slice none 0 0, .slice none 0 0, .bool false, .slice none 0 0, .slice none 0 0, .slice none 0 0, .slice none 0 0, .int .u16 0] 70)) := ((Below.refl _ _).alloc (by simp) _).alloc (by simp) _
    have hz := alloc_block (w.alloc (.cells #[p0, p1, p2, p3, p4, p5, p6, p7] 30)) #[.int .i64 0, .slice none 0 0, .slice none 0 0, .bool false, .slice none 0 0, .slice none 0 0, .slice none 0 0, .slice none 0 0, .int .u16 0] 70
    rw [World.size_alloc] at hz
    have hs0 : ((w.alloc (.cells #[p0, p1, p2, p3, p4, p5, p6, p7] 30)).alloc (.cells #[.int .i64 0, .slice none 0 0, .slice none 0 0, .bool false, .slice none 0 0, .slice none 0 0, .slice none 0 0, .slice none 0 0, .int .u16 0] 70)).heap.size = w.heap.size + 2 := by simp
    go_enter Try.func29, Try.ntmps29
    go_wp2_with fail
    refine (implFold_calls (Rd.mono t0 h)).mono ?_
    rintro e w1 ⟨cs1, he, o1, b1⟩
    rw [hF] at he
    subst he
    have t1 := t0.step b1
    have l1 := Rd.one o1.rd
    obtain ⟨x0, x1, x2, x3, x4, x5, x6, x7, rfl⟩ := list8 (Rd.len o1.rd)
    have st0 := sto Try.prog (l1 x0 (by simp))
    have st1 := sto Try.prog (l1 x1 (by simp))
    have st2 := sto Try.prog (l1 x2 (by simp))
    have st3 := sto Try.prog (l1 x3 (by simp))
    have st4 := sto Try.prog (l1 x4 (by simp))
    have st5 := sto Try.prog (l1 x5 (by simp))
    have st6 := sto Try.prog (l1 x6 (by simp))
    have st7 := sto Try.prog (l1 x7 (by simp))
    have o1 := o1.alloc (.cells #[x0, x1, x2, x3, x4, x5, x6, x7] 30)
    have CX1 := Cells.new w1 [x0, x1, x2, x3, x4, x5, x6, x7] 30
    have t1 := t1.alloc t1.size (.cells #[x0, x1, x2, x3, x4, x5, x6, x7] 30)
    clear l1
    have hz1 := (Below.heap_alloc w1 (.cells #[x0, x1, x2, x3, x4, x5, x6, x7] 30) (w.heap.size + 1) (by have := b1.size; omega)).trans ((b1.block _ (block_lt hz)).trans hz)
    have hbs : w.heap.size + 2 ≤ w1.heap.size := by have := b1.size; omega
    have hlz : w.heap.size + 1 < w1.heap.size := by omega
    rw [foldR_yes hF] at o1
    obtain ⟨y0, y1, y2, y3, y4, y5, y6, y7⟩ := cells8 CX1
    have oR := o1.rd
    obtain ⟨_, _, _, _, _, _, hl, _⟩ := oR
    simp only [List.cons.injEq, and_true] at hl
    obtain ⟨rfl, -⟩ := hl
    have hx1 := (hx.later t1).ints
    go_upto_region 3 with (go_at_call 69; refine (implSetOk_calls _ _ _ _ _ hx1).mono ?_; rintro e w' ⟨he, rfl⟩; rw [hS] at he; subst he)
    clear st0 st1 st2 st3 st4 st5 st6 st7 y0 y1 y2 y3 y4 y5 y6 y7 o1 CX1 hx1
    generalize w1.alloc (.cells #[.int .i64 (foldD p).atoms, x1, x2, x3, x4, x5, x6, x7] 30) = wq at *
    have hfz := fun j => frozen_of_row wq (w.heap.size + 1) j _ _ hz1
    have hzl := block_lt hz1
    obtain ⟨z0, z1, z2, z3, z4, z5, z6, z7, z8⟩ := cells9 (cellsAtY (W := wq) (b := w.heap.size + 1) (cs := [.int .i64 0, .slice none 0 0, .slice none 0 0, .bool false, .slice none 0 0, .slice none 0 0, .slice none 0 0, .slice none 0 0, .int .u16 0]) hz1)
    clear hz1
    go_wp2
    refine bodyPost_ret (v := .tuple #[.agg #[.int .i64 0, .slice none 0 0, .slice none 0 0, .bool false, .slice none 0 0, .slice none 0 0, .slice none 0 0, .slice none 0 0, .int .u16 0], .bool false])
      (by simp [results, Try.results29, go_sem, z0, z1, z2, z3, z4, z5, z6, z7, z8]) rfl ?_
    refine ⟨rfl, ?_⟩
    repeat (refine Below.setCell ?_ (by simp; try omega) _)
    exact t1

theorem cells_put {W : World} {b g : Nat} {cs vs : List Value} (h : Cells W b 0 cs) (hne : b ≠ g) : Cells (put W g 0 vs) b 0 cs := fun j v hv => by
  have := h j v hv
  rw [← this]
  exact World.cell?_of_block (a := ⟨b, 0 + j, none⟩) ((put_chg g vs W 0).block b (by simpa using hne))
set_option maxHeartbeats 4000000 in
theorem viewOf_yes {cs : List Value} {p : ProgD} {w : World} {v : Value} {xs : List Int} (h : Rd.R w cs p) (gx : RdL w [v] xs) (hn : whyB p xs = true) :
    Calls Try.prog 29 #[.agg cs.toArray, v] w fun e w' => ∃ x0 x1 x2 x3 x4 x5 x6 x7, e = .returned (.tuple #[.agg #[x0, x1, x2, x3, x4, x5, x6, x7, .int .u16 (maskOf xs : Int)], .bool true]) ∧ Own w.heap.size w' [x0, x1, x2, x3, x4, x5, x6, x7] (foldD p) ∧ Below w.heap.size w w' := by
  obtain ⟨hF, hS⟩ := whyB_fold hn
  have hmx := maskOf_lt xs
  obtain ⟨p0, p1, p2, p3, p4, p5, p6, p7, rfl⟩ := list8 (Rd.len h)
  obtain ⟨ax, cx, rfl, _, hx⟩ := gx.sl
  have hxm := hx.1
  have t0 : Below w.heap.size w ((w.alloc (.cells #[p0, p1, p2, p3, p4, p5, p6, p7] 30)).alloc (.cells #[.int .i64 0, .slice none 0 0, .slice none 0 0, .bool false, .slice none 0 0, .slice none 0 0, .slice none 0 0, .slice none 0 0, .int .u16 0] 70)) := ((Below.refl _ _).alloc (by simp) _).alloc (by simp) _
  have hz := alloc_block (w.alloc (.cells #[p0, p1, p2, p3, p4, p5, p6, p7] 30)) #[.int .i64 0, .slice none 0 0, .slice none 0 0, .bool false, .slice none 0 0, .slice none 0 0, .slice none 0 0, .slice none 0 0, .int .u16 0] 70
  rw [World.size_alloc] at hz
  have hs0 : ((w.alloc (.cells #[p0, p1, p2, p3, p4, p5, p6, p7] 30)).alloc (.cells #[.int .i64 0, .slice none 0 0, .slice none 0 0, .bool false, .slice none 0 0, .slice none 0 0, .slice none 0 0, .slice none 0 0, .int .u16 0] 70)).heap.size = w.heap.size + 2 := by simp
  go_enter Try.func29, Try.ntmps29
  go_wp2_with fail
  refine (implFold_calls (Rd.mono t0 h)).mono ?_
  rintro e w1 ⟨cs1, he, o1, b1⟩
  rw [hF] at he
  subst he
  have t1 := t0.step b1
  have l1 := Rd.one o1.rd
  obtain ⟨x0, x1, x2, x3, x4, x5, x6, x7, rfl⟩ := list8 (Rd.len o1.rd)
  have st0 := sto Try.prog (l1 x0 (by simp))
  have st1 := sto Try.prog (l1 x1 (by simp))
  have st2 := sto Try.prog (l1 x2 (by simp))
  have st3 := sto Try.prog (l1 x3 (by simp))
  have st4 := sto Try.prog (l1 x4 (by simp))
  have st5 := sto Try.prog (l1 x5 (by simp))
  have st6 := sto Try.prog (l1 x6 (by simp))
  have st7 := sto Try.prog (l1 x7 (by simp))
  have o1 := o1.alloc (.cells #[x0, x1, x2, x3, x4, x5, x6, x7] 30)
  have CX1 := Cells.new w1 [x0, x1, x2, x3, x4, x5, x6, x7] 30
  have t1 := t1.alloc t1.size (.cells #[x0, x1, x2, x3, x4, x5, x6, x7] 30)
  clear l1
  have hz1 := (Below.heap_alloc w1 (.cells #[x0, x1, x2, x3, x4, x5, x6, x7] 30) (w.heap.size + 1) (by have := b1.size; omega)).trans ((b1.block _ (block_lt hz)).trans hz)
  have hbs : w.heap.size + 2 ≤ w1.heap.size := by have := b1.size; omega
  have hlz : w.heap.size + 1 < w1.heap.size := by omega
  rw [foldR_yes hF] at o1
  obtain ⟨y0, y1, y2, y3, y4, y5, y6, y7⟩ := cells8 CX1
  have oR := o1.rd
  obtain ⟨_, _, _, _, _, _, hl, _⟩ := oR
  simp only [List.cons.injEq, and_true] at hl
  obtain ⟨rfl, -⟩ := hl
  have hx1 := (hx.later t1).ints
  go_upto_region 4 with (go_at_call 69; refine (implSetOk_calls _ _ _ _ _ hx1).mono ?_; rintro e w' ⟨he, rfl⟩; rw [hS] at he; subst he)
  clear y0 y1 y2 y3 y4 y5 y6 y7
  have hx2 := (hx.later t1.drew).ints
  have o2 := o1.drew
  have t2 := t1.drew
  have CX2 := CX1.drew
  have hz2 : (w1.alloc (.cells #[.int .i64 (foldD p).atoms, x1, x2, x3, x4, x5, x6, x7] 30)).drew.heap[w.heap.size + 1]? = _ := hz1
  have hzs : w1.heap.size < (w1.alloc (.cells #[.int .i64 (foldD p).atoms, x1, x2, x3, x4, x5, x6, x7] 30)).drew.heap.size := by show w1.heap.size < (w1.alloc _).heap.size; simp
  clear hx1 t1 CX1 hz1
  have hfz := fun j => frozen_of_row _ (w.heap.size + 1) j _ _ hz2
  have hzl := block_lt hz2
  obtain ⟨z0, z1, z2, z3, z4, z5, z6, z7, z8⟩ := cells9 (cellsAtY (W := _) (b := w.heap.size + 1) (cs := [.int .i64 0, .slice none 0 0, .slice none 0 0, .bool false, .slice none 0 0, .slice none 0 0, .slice none 0 0, .slice none 0 0, .int .u16 0]) hz2)
  refine wp_region_held_drew (S := fun W' => W'.cell? ⟨w1.heap.size, 0, none⟩ = some (.int .i64 (foldD p).atoms) ∧ W'.cell? ⟨w1.heap.size, 1, none⟩ = some x1 ∧ W'.cell? ⟨w1.heap.size, 2, none⟩ = some x2 ∧ W'.cell? ⟨w1.heap.size, 3, none⟩ = some x3 ∧ W'.cell? ⟨w1.heap.size, 4, none⟩ = some x4 ∧ W'.cell? ⟨w1.heap.size, 5, none⟩ = some x5 ∧ W'.cell? ⟨w1.heap.size, 6, none⟩ = some x6 ∧ W'.cell? ⟨w1.heap.size, 7, none⟩ = some x7) (by kernel_rfl) (cells8 CX2) (fun hHeld => ?_)
  generalize (w1.alloc (.cells #[.int .i64 (foldD p).atoms, x1, x2, x3, x4, x5, x6, x7] 30)).drew = wq at *
  refine takeD (i := 0) (v := .agg #[.int .i64 (foldD p).atoms, x1, x2, x3, x4, x5, x6, x7]) (some 23) rfl rfl (by kernel_rfl) (by kernel_rfl) (by kernel_rfl) (fun _ _ _ h => h) (Or.inl ⟨by rfl, fun w' hw' => ?_⟩) hHeld ?_
  · first | (go_simp; done) | (obtain ⟨s0, s1, s2, s3, s4, s5, s6, s7, s8, s9, s10, s11⟩ := hw'; go_simp; done) | (obtain ⟨s0, s1, s2, s3, s4, s5, s6, s7⟩ := hw'; go_simp; done) | (obtain ⟨s0, s1⟩ := hw'; go_simp; done)
  try simp only [Act.put, List.setIfInBounds_toArray, List.set_cons_zero, List.set_cons_succ]
  refine takeD (i := 1) (v := .slice ax xs.length cx) (some 24) rfl rfl (by kernel_rfl) (by kernel_rfl) (by kernel_rfl) (fun _ _ _ h => h) (Or.inl ⟨by rfl, fun w' hw' => ?_⟩) hHeld ?_
  · first | (go_simp; done) | (obtain ⟨s0, s1, s2, s3, s4, s5, s6, s7, s8, s9, s10, s11⟩ := hw'; go_simp; done) | (obtain ⟨s0, s1, s2, s3, s4, s5, s6, s7⟩ := hw'; go_simp; done) | (obtain ⟨s0, s1⟩ := hw'; go_simp; done)
  try simp only [Act.put, List.setIfInBounds_toArray, List.set_cons_zero, List.set_cons_succ]
  refine wpAnyH_ready (rs := [2]) (by kernel_rfl) (by simp) ?_
  refine AllReadyH.cons rfl (fun K hK => ?_) AllReadyH.nil
  go_simp
  refine (atomsIn_calls _ _ _ _ hx2).mono ?_
  rintro e w' ⟨rfl, rfl⟩
  refine hK.out _ _ (cells8 CX2) (fun hHeld => ?_)
  clear hK K
  try simp only [Act.put, List.setIfInBounds_toArray, List.set_cons_zero, List.set_cons_succ]
  refine takeD (i := 3) (v := .agg #[.int .i64 (foldD p).atoms, x1, x2, x3, x4, x5, x6, x7, .int .u16 (maskOf xs : Int)]) (some 26) rfl rfl (by kernel_rfl) (by kernel_rfl) (by kernel_rfl) (fun _ _ _ h => h) (Or.inl ⟨by rfl, fun w' hw' => ?_⟩) hHeld ?_
  · first | (go_simp; done) | (obtain ⟨s0, s1, s2, s3, s4, s5, s6, s7, s8, s9, s10, s11⟩ := hw'; go_simp; done) | (obtain ⟨s0, s1, s2, s3, s4, s5, s6, s7⟩ := hw'; go_simp; done) | (obtain ⟨s0, s1⟩ := hw'; go_simp; done)
  try simp only [Act.put, List.setIfInBounds_toArray, List.set_cons_zero, List.set_cons_succ]
  refine wpAnyH_ready (rs := [4]) (by kernel_rfl) (by simp) ?_
  refine AllReadyH.cons rfl (fun K hK => ?_) AllReadyH.nil
  go_simp
  refine hK.out _ _ (cells8 (cells_put (g := w.heap.size + 1) (vs := [.int .i64 (foldD p).atoms, x1, x2, x3, x4, x5, x6, x7, .int .u16 (maskOf xs : Int)]) CX2 (by omega))) (fun hHeld => ?_)
  clear hK K
  try simp only [Act.put, List.setIfInBounds_toArray, List.set_cons_zero, List.set_cons_succ]
  refine takeD (i := 5) (v := .bool true) (some 5) rfl rfl (by kernel_rfl) (by kernel_rfl) (by kernel_rfl) (fun _ _ _ h => h) (Or.inl ⟨by rfl, fun w' hw' => ?_⟩) hHeld ?_
  · first | (go_simp; done) | (obtain ⟨s0, s1, s2, s3, s4, s5, s6, s7, s8, s9, s10, s11⟩ := hw'; go_simp; done) | (obtain ⟨s0, s1, s2, s3, s4, s5, s6, s7⟩ := hw'; go_simp; done) | (obtain ⟨s0, s1⟩ := hw'; go_simp; done)
  try simp only [Act.put, List.setIfInBounds_toArray, List.set_cons_zero, List.set_cons_succ]
  refine wpAnyH_done (by kernel_rfl) ?_ _
  go_wp2
  refine bodyPost_ret (v := .tuple #[.agg #[.int .i64 (foldD p).atoms, x1, x2, x3, x4, x5, x6, x7, .int .u16 (maskOf xs : Int)], .bool true])
    (by simp [results, Try.results29, go_sem, z0, z1, z2, z3, z4, z5, z6, z7, z8]) rfl ⟨_, _, _, _, _, _, _, _, rfl, ?_, ?_⟩
  · 
    obtain ⟨fp, hO, hfp⟩ := o2
    exact ⟨fp, Ow.kept (w' := put wq (w.heap.size + 1) 0 [.int .i64 (foldD p).atoms, x1, x2, x3, x4, x5, x6, x7, .int .u16 (maskOf xs : Int)]) hO fun f hf => (put_chg (w.heap.size + 1) _ wq 0).block f (by have := hfp f hf; simp; omega), fun f hf => by have := hfp f hf; omega⟩
  · repeat (refine Below.setCell ?_ (by simp; try omega) _)
    exact t2

/-! ### WhyF -/
theorem rdl_one {w : World} {g : Nat} {q : Int × Int} (hC : Cells w g 0 [.int .i64 q.1, .int .i64 q.2]) (h1 : Fits q.1) (h2 : Fits q.2) : RdL w [.slice (some ⟨g, 0, none⟩) 1 1] [q] :=
  ⟨some ⟨g, 0, none⟩, 1, rfl, by simp, by omega, by simp, fun i hi => by
    have : i = 0 := by simp at hi; omega
    subst this
    exact ⟨g, 0, _, rfl, by rw [Nat.zero_mul]; exact hC, ⟨rfl, h1, h2⟩⟩⟩
theorem info_rs : (Try.prog.info? 76).map (fun i => (i.zero, i.size, i.bytes)) = some (some (.agg #[.int .i64 0, .int .i64 0]), 2, 16) := by kernel_rfl
theorem flat_keep {α : Type} [Fl α] {B : Nat} {e : TypeId} {w w' : World} {v : Value} {xs : List α} (h : OwnF B e w v xs) (hk : ∀ g, B ≤ g → g < w.heap.size → w'.heap[g]? = w.heap[g]?) : OwnF B e w' v xs := by
  obtain ⟨⟨h1, h2⟩, h3⟩ := h
  refine ⟨⟨h1, ?_⟩, h3⟩
  rcases h2 with h2 | ⟨g, cap, cur, e, hB, hh, hr⟩
  · exact .inl h2
  · exact .inr ⟨g, cap, cur, e, hB, (hk g hB (block_lt hh)).trans hh, hr⟩
theorem flat_mono {α : Type} [Fl α] {B B' : Nat} {e : TypeId} {w : World} {v : Value} {xs : List α} (h : OwnF B e w v xs) (hB : B' ≤ B) : OwnF B' e w v xs := by
  obtain ⟨⟨h1, h2⟩, h3⟩ := h
  refine ⟨⟨h1, ?_⟩, h3⟩
  rcases h2 with h2 | ⟨g, cap, cur, e, hg, hr⟩
  · exact .inl h2
  · exact .inr ⟨g, cap, cur, e, Nat.le_trans hB hg, hr⟩
theorem flat_sl {α : Type} [Fl α] {B : Nat} {e : TypeId} {w : World} {v : Value} {xs : List α} (h : OwnF B e w v xs) : ∃ a c, v = .slice a xs.length c ∧ ∀ g, v.ownBlock = some g → B ≤ g ∧ g < w.heap.size := by
  obtain ⟨⟨h1, h2⟩, h3⟩ := h
  rcases h2 with ⟨rfl, hn⟩ | ⟨g, cap, cur, rfl, hg, hh, hr⟩
  · exact ⟨none, 0, by rw [hn], fun g hg => by simp [Value.ownBlock] at hg⟩
  · exact ⟨_, _, rfl, fun g' hg' => by simp [Value.ownBlock] at hg'; subst hg'; exact ⟨hg, block_lt hh⟩⟩
def lenS : Value → Nat
  | .slice _ n _ => n
  | _ => 0

set_option maxHeartbeats 2000000 in
theorem take_calls {x0 x1 x2 x3 x4 x5 x6 x7 : Value} {b m : Nat} {w : World} (ts : List Int) (a i : Int) (fa : Fits a) (hB : w.heap[b]? = some (.cells #[x0, x1, x2, x3, x4, x5, x6, x7, .int .u16 (m : Int), .int .u16 (maskOf ts : Int)] 74 (0, 0))) :
    Calls Try.prog 31 #[.pointer (some ⟨b, 0, none⟩), .agg #[.int .i64 a, .int .i64 i]] w fun e w' => (∃ r, e = .returned r) ∧ w'.heap[b]? = some (.cells #[x0, x1, x2, x3, x4, x5, x6, x7, .int .u16 (m : Int), .int .u16 (maskOf (ts ++ [a]) : Int)] 74 (0, 0)) ∧ Below b w w' ∧ (∀ g, g ≠ b → g < w.heap.size → w'.heap[g]? = w.heap[g]?) ∧ w.heap.size ≤ w'.heap.size := by
  have hm := maskOf_lt ts
  have hbl := bitN_lt a
  have hlt := block_lt hB
  have bA := (Below.refl w.heap.size w).alloc (Nat.le_refl _) (.cells #[.int .i64 a, .int .i64 i] 76)
  have CY := Cells.new w [.int .i64 a, .int .i64 i] 76
  have hB1 := (Below.heap_alloc w (.cells #[.int .i64 a, .int .i64 i] 76) b hlt).trans hB
  have hsz : (w.alloc (.cells #[.int .i64 a, .int .i64 i] 76)).heap.size = w.heap.size + 1 := World.size_alloc _ _
  go_enter Try.func31, Try.ntmps31
  go_upto_region 1 with fail
  obtain ⟨z0, _⟩ := cells2 CY
  have y9 : (w.alloc (.cells #[.int .i64 a, .int .i64 i] 76)).cell? ⟨b, 9, none⟩ = some (.int .u16 (maskOf ts : Int)) := by rw [cell_of_row _ b 9 _ _ _ hB1]; rfl
  have f9 := frozen_of_row (w.alloc (.cells #[.int .i64 a, .int .i64 i] 76)) b 9 _ _ hB1
  generalize w.alloc (.cells #[.int .i64 a, .int .i64 i] 76) = wq at *
  have z0 : wq.drew.cell? ⟨w.heap.size, 0, none⟩ = some (.int .i64 a) := z0
  have y9 : wq.drew.cell? ⟨b, 9, none⟩ = some (.int .u16 (maskOf ts : Int)) := y9
  have f9 : wq.drew.frozen? ⟨b, 9, none⟩ = false := f9
  have hB1 : wq.drew.heap[b]? = _ := hB1
  have bA := bA.drew
  have hsz : wq.drew.heap.size = w.heap.size + 1 := hsz
  refine wp_region_held_drew (S := fun W' => W'.cell? ⟨w.heap.size, 0, none⟩ = some (.int .i64 a)) (by kernel_rfl) z0 (fun hHeld => ?_)
  generalize wq.drew = wp at *
  refine takeD (i := 0) (v := .pointer (some ⟨b, 0, none⟩)) (some 4) rfl rfl (by kernel_rfl) (by kernel_rfl) (by kernel_rfl) (fun _ _ _ h => h) (Or.inl ⟨by rfl, fun w' hw' => ?_⟩) hHeld ?_
  · first | (go_simp; done) | (obtain ⟨s0, s1⟩ := hw'; go_simp; done)
  try simp only [Act.put, List.setIfInBounds_toArray, List.set_cons_zero, List.set_cons_succ]
  refine takeD (i := 1) (v := .pointer (some ⟨b, 0, none⟩)) (some 5) rfl rfl (by kernel_rfl) (by kernel_rfl) (by kernel_rfl) (fun _ _ _ h => h) (Or.inl ⟨by rfl, fun w' hw' => ?_⟩) hHeld ?_
  · first | (go_simp; done) | (obtain ⟨s0, s1⟩ := hw'; go_simp; done)
  try simp only [Act.put, List.setIfInBounds_toArray, List.set_cons_zero, List.set_cons_succ]
  refine takeD (i := 2) (v := .pointer (some ⟨b, 0, none⟩)) (some 6) rfl rfl (by kernel_rfl) (by kernel_rfl) (by kernel_rfl) (fun _ _ _ h => h) (Or.inl ⟨by rfl, fun w' hw' => ?_⟩) hHeld ?_
  · first | (go_simp; done) | (obtain ⟨s0, s1⟩ := hw'; go_simp; done)
  try simp only [Act.put, List.setIfInBounds_toArray, List.set_cons_zero, List.set_cons_succ]
  refine takeD (i := 3) (v := .pointer (some ⟨b, 9, none⟩)) (some 7) rfl rfl (by kernel_rfl) (by kernel_rfl) (by kernel_rfl) (fun _ _ _ h => h) (Or.inl ⟨by rfl, fun w' hw' => ?_⟩) hHeld ?_
  · first | (go_simp; done) | (obtain ⟨s0, s1⟩ := hw'; go_simp; done)
  try simp only [Act.put, List.setIfInBounds_toArray, List.set_cons_zero, List.set_cons_succ]
  refine takeD (i := 5) (v := .pointer (some ⟨w.heap.size, 0, none⟩)) (some 9) rfl rfl (by kernel_rfl) (by kernel_rfl) (by kernel_rfl) (fun _ _ _ h => h) (Or.inl ⟨by rfl, fun w' hw' => ?_⟩) hHeld ?_
  · first | (go_simp; done) | (obtain ⟨s0, s1⟩ := hw'; go_simp; done)
  try simp only [Act.put, List.setIfInBounds_toArray, List.set_cons_zero, List.set_cons_succ]
  refine takeD (i := 6) (v := .int .i64 a) (some 10) rfl rfl (by kernel_rfl) (by kernel_rfl) (by kernel_rfl) (fun _ _ _ h => h) (Or.inl ⟨by rfl, fun w' hw' => ?_⟩) hHeld ?_
  · first | (go_simp; done) | (obtain ⟨s0, s1⟩ := hw'; go_simp; done)
  try simp only [Act.put, List.setIfInBounds_toArray, List.set_cons_zero, List.set_cons_succ]
  refine wpAnyH_ready (rs := [4, 7]) (by kernel_rfl) (by simp) ?_
  refine AllReadyH.cons rfl (fun K hK => ?_) (AllReadyH.cons rfl (fun K hK => ?_) AllReadyH.nil)
  · go_simp
    refine hK.out _ _ z0 (fun hHeld => ?_)
    clear hK K
    try simp only [Act.put, List.setIfInBounds_toArray, List.set_cons_zero, List.set_cons_succ]
    refine wpAnyH_ready (rs := [7]) (by kernel_rfl) (by simp) ?_
    refine AllReadyH.cons rfl (fun K hK => ?_) AllReadyH.nil
    go_simp
    refine (atomBit_calls a _ fa).mono ?_
    rintro e w' ⟨rfl, rfl⟩
    refine hK.out _ _ z0 (fun hHeld => ?_)
    clear hK K
    try simp only [Act.put, List.setIfInBounds_toArray, List.set_cons_zero, List.set_cons_succ]
    refine wpAnyH_ready (rs := [8]) (by kernel_rfl) (by simp) ?_
    refine AllReadyH.cons rfl (fun K hK => ?_) AllReadyH.nil
    go_simp
    refine (joinN_calls _ _ _ hm hbl).mono ?_
    rintro e w' ⟨rfl, rfl⟩
    refine hK.out _ _ z0 (fun hHeld => ?_)
    clear hK K
    try simp only [Act.put, List.setIfInBounds_toArray, List.set_cons_zero, List.set_cons_succ]
    refine takeD (i := 9) (v := .pointer (some ⟨b, 0, none⟩)) (some 13) rfl rfl (by kernel_rfl) (by kernel_rfl) (by kernel_rfl) (fun _ _ _ h => h) (Or.inl ⟨by rfl, fun w' hw' => ?_⟩) hHeld ?_
    · first | (go_simp; done) | (obtain ⟨s0, s1⟩ := hw'; go_simp; done)
    try simp only [Act.put, List.setIfInBounds_toArray, List.set_cons_zero, List.set_cons_succ]
    refine takeD (i := 10) (v := .pointer (some ⟨b, 9, none⟩)) (some 14) rfl rfl (by kernel_rfl) (by kernel_rfl) (by kernel_rfl) (fun _ _ _ h => h) (Or.inl ⟨by rfl, fun w' hw' => ?_⟩) hHeld ?_
    · first | (go_simp; done) | (obtain ⟨s0, s1⟩ := hw'; go_simp; done)
    try simp only [Act.put, List.setIfInBounds_toArray, List.set_cons_zero, List.set_cons_succ]
    refine wpAnyH_ready (rs := [11]) (by kernel_rfl) (by simp) ?_
    refine AllReadyH.cons rfl (fun K hK => ?_) AllReadyH.nil
    go_simp
    refine hK.out _ _ ((World.cell?_of_block (a := ⟨w.heap.size, 0, none⟩) (Below.heap_setCell _ _ _ _ (by simp; omega))).trans z0) (fun hHeld => ?_)
    clear hK K
    try simp only [Act.put, List.setIfInBounds_toArray, List.set_cons_zero, List.set_cons_succ]
    refine wpAnyH_done (by kernel_rfl) ?_ _
    go_wp2
    go_end0
    refine ⟨⟨_, rfl⟩, ?_, ?_, ?_, ?_⟩
    · rw [maskOf_snoc, heap_setCell_same _ b 9 _ _ _ hB1]; rfl
    · exact (bA.mono (show b ≤ w.heap.size by omega)).setCell (p := ⟨b, 9, none⟩) (show b ≤ b from Nat.le_refl _) _
    · intro g hg hgl
      exact (Below.heap_setCell _ _ _ _ (by simpa using hg)).trans (bA.block g hgl)
    · have hbs9 := bA.size
      rw [World.size_setCell]
      exact hbs9
  · go_simp
    refine (atomBit_calls a _ fa).mono ?_
    rintro e w' ⟨rfl, rfl⟩
    refine hK.out _ _ z0 (fun hHeld => ?_)
    clear hK K
    try simp only [Act.put, List.setIfInBounds_toArray, List.set_cons_zero, List.set_cons_succ]
    refine wpAnyH_ready (rs := [4]) (by kernel_rfl) (by simp) ?_
    refine AllReadyH.cons rfl (fun K hK => ?_) AllReadyH.nil
    go_simp
    refine hK.out _ _ z0 (fun hHeld => ?_)
    clear hK K
    try simp only [Act.put, List.setIfInBounds_toArray, List.set_cons_zero, List.set_cons_succ]
    refine wpAnyH_ready (rs := [8]) (by kernel_rfl) (by simp) ?_
    refine AllReadyH.cons rfl (fun K hK => ?_) AllReadyH.nil
    go_simp
    refine (joinN_calls _ _ _ hm hbl).mono ?_
    rintro e w' ⟨rfl, rfl⟩
    refine hK.out _ _ z0 (fun hHeld => ?_)
    clear hK K
    try simp only [Act.put, List.setIfInBounds_toArray, List.set_cons_zero, List.set_cons_succ]
    refine takeD (i := 9) (v := .pointer (some ⟨b, 0, none⟩)) (some 13) rfl rfl (by kernel_rfl) (by kernel_rfl) (by kernel_rfl) (fun _ _ _ h => h) (Or.inl ⟨by rfl, fun w' hw' => ?_⟩) hHeld ?_
    · first | (go_simp; done) | (obtain ⟨s0, s1⟩ := hw'; go_simp; done)
    try simp only [Act.put, List.setIfInBounds_toArray, List.set_cons_zero, List.set_cons_succ]
    refine takeD (i := 10) (v := .pointer (some ⟨b, 9, none⟩)) (some 14) rfl rfl (by kernel_rfl) (by kernel_rfl) (by kernel_rfl) (fun _ _ _ h => h) (Or.inl ⟨by rfl, fun w' hw' => ?_⟩) hHeld ?_
    · first | (go_simp; done) | (obtain ⟨s0, s1⟩ := hw'; go_simp; done)
    try simp only [Act.put, List.setIfInBounds_toArray, List.set_cons_zero, List.set_cons_succ]
    refine wpAnyH_ready (rs := [11]) (by kernel_rfl) (by simp) ?_
    refine AllReadyH.cons rfl (fun K hK => ?_) AllReadyH.nil
    go_simp
    refine hK.out _ _ ((World.cell?_of_block (a := ⟨w.heap.size, 0, none⟩) (Below.heap_setCell _ _ _ _ (by simp; omega))).trans z0) (fun hHeld => ?_)
    clear hK K
    try simp only [Act.put, List.setIfInBounds_toArray, List.set_cons_zero, List.set_cons_succ]
    refine wpAnyH_done (by kernel_rfl) ?_ _
    go_wp2
    go_end0
    refine ⟨⟨_, rfl⟩, ?_, ?_, ?_, ?_⟩
    · rw [maskOf_snoc, heap_setCell_same _ b 9 _ _ _ hB1]; rfl
    · exact (bA.mono (show b ≤ w.heap.size by omega)).setCell (p := ⟨b, 9, none⟩) (show b ≤ b from Nat.le_refl _) _
    · intro g hg hgl
      exact (Below.heap_setCell _ _ _ _ (by simpa using hg)).trans (bA.block g hgl)
    · have hbs9 := bA.size
      rw [World.size_setCell]
      exact hbs9


set_option maxHeartbeats 4000000 in
theorem implWhy_calls {cs : List Value} {p : ProgD} {w : World} {v : Value} {xs : List Int} (h : Rd.R w cs p) (gx : RdL w [v] xs) :
    Calls Try.prog 8 #[.agg cs.toArray, v] w fun e w' => ∃ u, e = .returned u ∧ OwnF w.heap.size 76 w' u (whyR p xs) ∧ Below w.heap.size w w' := by
  obtain ⟨p0, p1, p2, p3, p4, p5, p6, p7, rfl⟩ := list8 (Rd.len h)
  have t0 : Below w.heap.size w (w.alloc (.cells #[p0, p1, p2, p3, p4, p5, p6, p7] 30)) := (Below.refl _ _).alloc (by simp) _
  cases hW : whyB p xs
  · have hv := Lib.hid (whyR_no hW)
    go_enter Try.func8, Try.ntmps8
    go_wp2_with fail
    refine (viewOf_no (Rd.mono t0 h) (Rd.mono (α := List Int) t0 gx) hW).mono ?_
    rintro e w1 ⟨rfl, b1⟩
    go_wp2
    go_ret
    exact ⟨_, rfl, by rw [hv.out]; exact ⟨World.ownsRow_nil _ _ _ _, by simp⟩, (t0.step b1).alloc (t0.step b1).size _⟩
  · have hv := Lib.hid (whyR_yes hW)
    have hP := whyB_isP hW
    have hok : progOkB (foldD p) = true := foldR_ok (whyB_fold hW).1
    have hr12 := rules12 hok
    have hlen := (progOk_rules hok).1
    have hxl := hP.le
    obtain ⟨i0, hi, hz0, hz1, hz2⟩ := info_parts info_rs
    go_enter Try.func8, Try.ntmps8
    go_wp2_with fail
    refine (viewOf_yes (Rd.mono t0 h) (Rd.mono (α := List Int) t0 gx) hW).mono ?_
    rintro e w1 ⟨x0, x1, x2, x3, x4, x5, x6, x7, rfl, o1, b1⟩
    have hRd := o1.rd
    have l1 := Rd.one hRd
    have st0 := sto Try.prog (l1 x0 (by simp))
    have st1 := sto Try.prog (l1 x1 (by simp))
    have st2 := sto Try.prog (l1 x2 (by simp))
    have st3 := sto Try.prog (l1 x3 (by simp))
    have st4 := sto Try.prog (l1 x4 (by simp))
    have st5 := sto Try.prog (l1 x5 (by simp))
    have st6 := sto Try.prog (l1 x6 (by simp))
    have st7 := sto Try.prog (l1 x7 (by simp))
    have t1 := t0.step b1
    obtain ⟨y0, y1, y2, y3, y4, y5, y6, y7, y8⟩ := cells9 (Cells.new w1 [x0, x1, x2, x3, x4, x5, x6, x7, .int .u16 (maskOf xs : Int)] 70)
    have bV := (Below.refl w1.heap.size w1).alloc (Nat.le_refl _) (.cells #[x0, x1, x2, x3, x4, x5, x6, x7, .int .u16 (maskOf xs : Int)] 70)
    have bA := bV.alloc (by simp) (.cells #[x0, x1, x2, x3, x4, x5, x6, x7, .int .u16 (maskOf xs : Int), .int .u16 0] 74)
    have hA0 := alloc_block (w1.alloc (.cells #[x0, x1, x2, x3, x4, x5, x6, x7, .int .u16 (maskOf xs : Int)] 70)) #[x0, x1, x2, x3, x4, x5, x6, x7, .int .u16 (maskOf xs : Int), .int .u16 0] 74
    rw [World.size_alloc] at hA0
    go_wp2
    clear st0 st1 st2 st3 st4 st5 st6 st7 y0 y1 y2 y3 y4 y5 y6 y7 y8
    have hzA : ((w1.alloc (.cells #[x0, x1, x2, x3, x4, x5, x6, x7, .int .u16 (maskOf xs : Int)] 70)).alloc (.cells #[x0, x1, x2, x3, x4, x5, x6, x7, .int .u16 (maskOf xs : Int), .int .u16 0] 74)).heap.size = w1.heap.size + 2 := by simp
    generalize (w1.alloc (.cells #[x0, x1, x2, x3, x4, x5, x6, x7, .int .u16 (maskOf xs : Int)] 70)).alloc (.cells #[x0, x1, x2, x3, x4, x5, x6, x7, .int .u16 (maskOf xs : Int), .int .u16 0] 74) = wa at *
    go_loopw [8] (fun lv wr => ∃ k : Nat, (whyK (foldD p).rules xs k).length = k ∧ OwnF (w1.heap.size + 2) 76 wr lv (whyK (foldD p).rules xs k) ∧ wr.heap[w1.heap.size + 1]? = some (.cells #[x0, x1, x2, x3, x4, x5, x6, x7, .int .u16 (maskOf xs : Int), .int .u16 (maskOf (fsts (whyK (foldD p).rules xs k)) : Int)] 74 (0, 0)) ∧ Below w1.heap.size w1 wr ∧ w1.heap.size + 2 ≤ wr.heap.size) (fun lv _ => xs.length - lenS lv)
    case atStart => exact ⟨0, rfl, ⟨World.ownsRow_nil _ _ _ _, by simp [whyK]⟩, hA0, bA, by omega⟩
    case round =>
      obtain ⟨k, hkl, hO, hV, hB, hS⟩ := hrel
      clear hA0 bA bV hzA
      obtain ⟨la, lc, rfl, hob⟩ := flat_sl hO
      have hkl2 := whyK_le (rs := (foldD p).rules) (xs := xs) k
      have HKL := Lib.hid hkl
      obtain ⟨y0, y1, y2, y3, y4, y5, y6, y7, y8, y9⟩ := cells10 (cellsAtY (cs := [x0, x1, x2, x3, x4, x5, x6, x7, .int .u16 (maskOf xs : Int), .int .u16 (maskOf (fsts (whyK (foldD p).rules xs k)) : Int)]) hV)
      cases hn : nxt (foldD p).rules (fsts (whyK (foldD p).rules xs k)) xs
      · have he0 := Lib.hid (whyF_end hkl hn)
        have hNC := next_calls xs (fsts (whyK (foldD p).rules xs k)) (Rd.mono hB hRd) hr12 hlen hP
        rw [hn] at hNC
        have HNC := Lib.hid hNC
        clear hNC hn hkl
        go_wp2_with fail
        refine HNC.out.mono ?_
        rintro e w5 ⟨rfl, b5⟩
        go_wp2
        go_ret
        refine ⟨_, rfl, ?_, ((t1.trans (hB.mono t1.size)).step b5).alloc ((t1.trans (hB.mono t1.size)).step b5).size _⟩
        rw [hv.out, he0.out]
        exact flat_mono (flat_keep hO fun g _ hg => ((b5.alloc b5.size _).block g hg)) (by have := t1.size; omega)
      · rename_i q
        obtain ⟨hgl, hkx⟩ := whyK_go hkl hn
        obtain ⟨hm1, _, hm3, hm4, _⟩ := nxt_mem hn
        have hq12 : 1 ≤ q.1 ∧ q.1 ≤ 12 := by
          rw [hP] at hm1
          have := (mem_pickTo _ _ _).1 hm1
          omega
        have fq1 : Fits q.1 := ⟨by omega, by omega⟩
        have fq2 : Fits q.2 := ⟨by omega, by omega⟩
        have hK1 := Lib.hid (whyK_some hn)
        have hgl := Lib.hid hgl
        have hNC := next_calls xs (fsts (whyK (foldD p).rules xs k)) (Rd.mono hB hRd) hr12 hlen hP
        rw [hn] at hNC
        have HNC : Hid (Calls Try.prog 30 #[.agg #[x0, x1, x2, x3, x4, x5, x6, x7, .int .u16 (maskOf xs : Int), .int .u16 (maskOf (fsts (whyK (foldD p).rules xs k)) : Int)]] wr fun e w' => e = .returned (.tuple #[.agg #[.int .i64 q.1, .int .i64 q.2], .bool true]) ∧ Below wr.heap.size wr w') := hNC
        have hkl3 : (whyK (foldD p).rules xs k).length ≤ 12 := by omega
        clear hNC hn hm1 hm4 hkl
        go_wp2_with fail
        refine HNC.out.mono ?_
        rintro e w5 ⟨rfl, b5⟩
        have b6 := b5.alloc b5.size (.cells #[.int .i64 q.1, .int .i64 q.2] 76)
        have b7 := b6.alloc b6.size (.cells #[.int .i64 q.1, .int .i64 q.2] 76)
        have CY := Cells.new w5 [.int .i64 q.1, .int .i64 q.2] 76
        have CZ := Cells.new (w5.alloc (.cells #[.int .i64 q.1, .int .i64 q.2] 76)) [.int .i64 q.1, .int .i64 q.2] 76
        rw [World.size_alloc] at CZ
        have hr1 := rdl_one CZ fq1 fq2
        obtain ⟨z0, z1⟩ := cells2 CY
        have hO7 := flat_keep hO (w' := (w5.alloc (.cells #[.int .i64 q.1, .int .i64 q.2] 76)).alloc (.cells #[.int .i64 q.1, .int .i64 q.2] 76)) (fun g _ hg => b7.block g hg)
        have hs7 : w1.heap.size + 2 ≤ ((w5.alloc (.cells #[.int .i64 q.1, .int .i64 q.2] 76)).alloc (.cells #[.int .i64 q.1, .int .i64 q.2] 76)).heap.size := by have := b7.size; omega
        clear y0 y1 y2 y3 y4 y5 y6 y7 y8 y9
        go_wp2_with (at_builtin; refine wpList_append_flat (α := Int × Int) (B := w1.heap.size + 2) rfl _ _ 35 rfl i0 (.agg #[.int .i64 0, .int .i64 0]) 16 Try.underlying35 hi hz0 hz1 hz2 rfl rfl hO7 rfl hr1 (by simp; omega) (by simp; omega) hs7 ?_; intro v8 w8 hO8 hb8 hg8; obtain ⟨a8, c8, rfl, hob8⟩ := flat_sl hO8; have CY8 := CY.kept (w' := w8) ((hg8.block _ (by simp; omega) (by intro e; have := hob _ e.symm; have := b5.size; omega)).trans (Below.heap_alloc _ _ _ (by simp))); obtain ⟨q0, q1⟩ := cells2 CY8)
        have hV8 := (hb8.block (w1.heap.size + 1) (by omega)).trans ((b7.block _ (block_lt hV)).trans hV)
        have hB8 : Below w1.heap.size w1 w8 := (hB.step b7).trans (hb8.mono (by omega))
        refine (take_calls (fsts (whyK (foldD p).rules xs k)) q.1 q.2 fq1 hV8).mono ?_
        rintro e w9 ⟨⟨r9, rfl⟩, hV9, hb9, hk9, hs9⟩
        rw [← fsts_snoc, ← hK1.out] at hV9
        have hO9 := flat_keep hO8 (w' := w9) (fun g hg hgl => hk9 g (by omega) hgl)
        rw [← hK1.out] at hO9
        have HO9 := Lib.hid hO9
        have hlen9 : Hid ((whyK (foldD p).rules xs k ++ [q]).length = (whyK (foldD p).rules xs k).length + 1) := by show _ = _; simp
        have hB9 := hB8.trans (hb9.mono (by omega))
        have hS9 : w1.heap.size + 2 ≤ w9.heap.size := by have := hb8.size; omega
        have hmz : Hid (xs.length - lenS (.slice a8 (whyK (foldD p).rules xs k ++ [q]).length c8) < xs.length - lenS (.slice la (whyK (foldD p).rules xs k).length lc)) := by
          show xs.length - (whyK (foldD p).rules xs k ++ [q]).length < xs.length - (whyK (foldD p).rules xs k).length
          have e1 := hlen9.out
          have e2 := HKL.out
          omega
        have hxz : (whyK (foldD p).rules xs k ++ [q]).length = (whyK (foldD p).rules xs k).length + 1 := hlen9.out
        have hsl9 : Hid (OwnF (w1.heap.size + 2) 76 w9 (.slice a8 ((whyK (foldD p).rules xs k).length + 1) c8) (whyK (foldD p).rules xs (k + 1))) := by
          show OwnF _ _ _ _ _
          have e3 : (whyK (foldD p).rules xs (k + 1)).length = (whyK (foldD p).rules xs k).length + 1 := by rw [hK1.out]; exact hxz
          rw [← e3]; exact HO9.out
        have hmz9 : Hid (xs.length - lenS (.slice a8 ((whyK (foldD p).rules xs k).length + 1) c8) < xs.length - lenS (.slice la (whyK (foldD p).rules xs k).length lc)) := by
          show _ < _
          rw [← hxz]; exact hmz.out
        clear hxz
        clear hO9 hO8 hO7 hg8 hob8 q0 q1 z0 z1 CY8 CY CZ
        go_wp2
        go_roundw
        case rel => exact ⟨k + 1, hgl.out, hsl9.out, hV9, hB9, hS9⟩
        case measure => exact hmz9.out

end Go.Proofs.Ythfbnalgnnjbbaa
