/-
  What must be: what the program answers. No condition of its own.
-/
import Derived.Test.YtingnpnnacafbaaGreatPropD
import Derived.Test.YtingnpnnacafbaaGreatAnsI
import Derived.BigQuiet
import Derived.Deep.RegionHeld3
import Derived.Deep.RegionWith
import Derived.StillTailTactics
namespace Go.Proofs.YtingnpnnacafbaaGreat
set_option linter.unusedVariables false
set_option linter.unusedSimpArgs false
open Go.RowKit
set_option maxRecDepth 100000
set_option linter.unusedVariables false
set_option linter.unusedSimpArgs false

/-- The two numbers of a list of values. -/
def tM (vs : List Int) : Nat := maskOf (withL vs 1)
def fM (vs : List Int) : Nat := maskOf (withL vs 2)
theorem tM_lt (vs : List Int) : tM vs < 4096 := maskOf_lt _
theorem fM_lt (vs : List Int) : fM vs < 4096 := maskOf_lt _
theorem nM_lt (f : Nat) : 4095 &&& (65535 - f) < 4096 := Nat.lt_of_le_of_lt Nat.and_le_left (by omega)
theorem must_mask {r : RuleD} {vs : List Int} (hok : ruleOkB r 12 = true) (hf : FitsR r) : reachI r (tM vs) (4095 &&& (65535 - fM vs)) = mustB r vs := by
  unfold tM fM mustB
  rw [maskOf_notF]
  exact reachI_h2 hok hf

theorem less4095_calls (f : Nat) (w : World) (hf : f < 4096) :
    Calls Tryz.prog 110 #[.int .u16 4095, .int .u16 (f : Int)] w fun e w' => e = .returned (.int .u16 ((4095 &&& (65535 - f) : Nat) : Int)) ∧ w = w' := lessN_calls 4095 f w (by omega) hf
theorem rd5I {w : World} {cs : List Value} {r : RuleD} (h : Rd.R w cs r) : ∃ ah kh ab kb, cs = [.bool r.choice, .slice ah r.heads.length kh, .bool r.weight, .int .i64 r.bound, .slice ab r.body.length kb] ∧ Ints w ah r.heads := by
  obtain ⟨d1, d4, rfl, hf', r1, r4⟩ := h
  obtain ⟨ah, kh, rfl, _, hh⟩ := r1.sl
  obtain ⟨ab, kb, rfl, _, _⟩ := r4.sl
  exact ⟨ah, kh, ab, kb, rfl, hh.ints⟩

set_option maxHeartbeats 1000000 in
theorem mustHold_calls {cs : List Value} {r : RuleD} {w : World} (m f : Nat) (hm : m < 4096) (hf : f < 4096) (h : Rd.R w cs r) (hok : ruleOkB r 12 = true) :
    Calls Tryz.prog 151 #[.agg cs.toArray, .agg #[.int .u16 (m : Int), .int .u16 (f : Int)]] w fun e w' => e = .returned (.bool (reachI r m (4095 &&& (65535 - f)))) ∧ Below w.heap.size w w' := by
  have hR := h
  obtain ⟨ah, kh, ab, kb, rfl, _⟩ := rd5I h
  have TB := ((Below.refl w.heap.size w).alloc (Nat.le_refl _) (.cells #[.bool r.choice, .slice ah r.heads.length kh, .bool r.weight, .int .i64 r.bound, .slice ab r.body.length kb] 129)).alloc (by simp) (.cells #[.int .u16 (m : Int), .int .u16 (f : Int)] 75)
  have CXr := (Cells.new w [.bool r.choice, .slice ah r.heads.length kh, .bool r.weight, .int .i64 r.bound, .slice ab r.body.length kb] 129).alloc (.cells #[.int .u16 (m : Int), .int .u16 (f : Int)] 75)
  have CXv := Cells.new (w.alloc (.cells #[.bool r.choice, .slice ah r.heads.length kh, .bool r.weight, .int .i64 r.bound, .slice ab r.body.length kb] 129)) [.int .u16 (m : Int), .int .u16 (f : Int)] 75
  rw [World.size_alloc] at CXv
  have hn := nM_lt f
  go_enter Tryz.func151, Tryz.ntmps151
  go_wp2
  go_region_held3 (fun w' => (w'.cell? ⟨w.heap.size, 0, none⟩ = some (.bool r.choice) ∧ w'.cell? ⟨w.heap.size, 1, none⟩ = some (.slice ah r.heads.length kh) ∧ w'.cell? ⟨w.heap.size, 2, none⟩ = some (.bool r.weight) ∧ w'.cell? ⟨w.heap.size, 3, none⟩ = some (.int .i64 r.bound) ∧ w'.cell? ⟨w.heap.size, 4, none⟩ = some (.slice ab r.body.length kb)) ∧ (w'.cell? ⟨w.heap.size + 1, 0, none⟩ = some (.int .u16 (m : Int)) ∧ w'.cell? ⟨w.heap.size + 1, 1, none⟩ = some (.int .u16 (f : Int))))
    (first | exact ⟨cells5 CXr.drew, cells2 CXv.drew⟩ | exact ⟨cells5 (CXr.drew.later b2), cells2 (CXv.drew.later b2)⟩)
    (first | (go_at_call 110; refine (less4095_calls _ _ hf).mono ?_; rintro e w' ⟨rfl, rfl⟩) |
      (go_at_call 199; refine (implReach2_calls m _ hm hn (Rd.mono TB.drew hR) hok).mono ?_; rintro e w2 ⟨rfl, b2⟩))
  go_wp2
  go_ret
  exact ⟨rfl, TB.drew.step b2⟩

set_option maxHeartbeats 1000000 in
theorem mayCome_calls {cs : List Value} {q : ProgD} {w : World} (vs : List Int) (h : Rd.R w cs q) (hok : ∀ r ∈ q.rules, ruleOkB r 12 = true) :
    Calls Tryz.prog 153 #[.agg cs.toArray, .agg #[.int .u16 (tM vs : Int), .int .u16 (fM vs : Int)]] w fun e w' => ∃ m : Nat, e = .returned (.int .u16 (m : Int)) ∧ (m < 4096 ∧ mset m = comeL q.rules vs) ∧ Below w.heap.size w w' := by
  obtain ⟨p0, p1, p2, p3, p4, p5, p6, p7, rfl⟩ := list8 (Rd.len h)
  have TB := ((Below.refl w.heap.size w).alloc (Nat.le_refl _) (.cells #[p0, p1, p2, p3, p4, p5, p6, p7] 30)).alloc (by simp) (.cells #[.int .u16 (tM vs : Int), .int .u16 (fM vs : Int)] 75)
  have CXp := (Cells.new w [p0, p1, p2, p3, p4, p5, p6, p7] 30).alloc (.cells #[.int .u16 (tM vs : Int), .int .u16 (fM vs : Int)] 75)
  have CXv := Cells.new (w.alloc (.cells #[p0, p1, p2, p3, p4, p5, p6, p7] 30)) [.int .u16 (tM vs : Int), .int .u16 (fM vs : Int)] 75
  rw [World.size_alloc] at CXv
  have hn := nM_lt (fM vs)
  have hfm := fM_lt vs
  go_enter Tryz.func153, Tryz.ntmps153
  go_wp2
  go_region_held3 (fun w' => (w'.cell? ⟨w.heap.size, 0, none⟩ = some p0 ∧ w'.cell? ⟨w.heap.size, 1, none⟩ = some p1 ∧ w'.cell? ⟨w.heap.size, 2, none⟩ = some p2 ∧ w'.cell? ⟨w.heap.size, 3, none⟩ = some p3 ∧ w'.cell? ⟨w.heap.size, 4, none⟩ = some p4 ∧ w'.cell? ⟨w.heap.size, 5, none⟩ = some p5 ∧ w'.cell? ⟨w.heap.size, 6, none⟩ = some p6 ∧ w'.cell? ⟨w.heap.size, 7, none⟩ = some p7) ∧ (w'.cell? ⟨w.heap.size + 1, 0, none⟩ = some (.int .u16 (tM vs : Int)) ∧ w'.cell? ⟨w.heap.size + 1, 1, none⟩ = some (.int .u16 (fM vs : Int))))
    (first | exact ⟨cells8 CXp.drew, cells2 CXv.drew⟩ | exact ⟨cells8 (CXp.drew.later b2), cells2 (CXv.drew.later b2)⟩)
    (first | (go_at_call 110; refine (less4095_calls _ _ hfm).mono ?_; rintro e w' ⟨rfl, rfl⟩) |
      (go_at_call 176; refine (made_calls (withL vs 1) false (comeR (withL vs 2)) 4095 _ (by omega) hn (moreOk_come q.rules vs) (Rd.mono TB.drew h) hok).mono ?_; rintro e w2 ⟨m, rfl, hm, b2⟩))
  go_wp2
  go_ret
  exact ⟨m, rfl, hm, TB.drew.step b2⟩

theorem apart_calls (m f : Nat) (w : World) (hm : m < 4096) (hf : f < 4096) :
    Calls Tryz.prog 152 #[.agg #[.int .u16 (m : Int), .int .u16 (f : Int)]] w fun e w' => e = .returned (.bool (apartB m f)) ∧ Below w.heap.size w w' := by
  go_enter Tryz.func152, Tryz.ntmps152
  go_wp2_with (go_at_call 51; refine (meet_calls _ _ _ hm hf).mono ?_; rintro e w' ⟨rfl, rfl⟩)
  go_ret
  exact ⟨rfl, (Below.refl _ _).alloc (Nat.le_refl _) _⟩

/-- What a task answers: the two numbers, and whether there is no clash. -/
def TaskR (o : Option (List Int)) (w : World) (e : Ending) (w' : World) : Prop :=
  (∃ m f : Nat, e = .returned (.tuple #[.agg #[.int .u16 (m : Int), .int .u16 (f : Int)], .bool o.isSome]) ∧ m < 4096 ∧ f < 4096 ∧ ∀ us, o = some us → m = tM us ∧ f = fM us) ∧ Below w.heap.size w w'

set_option maxHeartbeats 2000000 in
theorem refuse_calls {cs : List Value} {r : RuleD} {w : World} {vs : List Int} (h : Rd.R w cs r) (hok : ruleOkB r 12 = true) (hc : r.choice = false) (hh : r.heads = []) :
    Calls Tryz.prog 92 #[.agg cs.toArray, .agg #[.int .u16 (tM vs : Int), .int .u16 (fM vs : Int)]] w (TaskR (fOne r vs) w) := by
  have hR := h
  have hms := must_mask (vs := vs) hok (rd_rule h)
  have hO : Hid ((fOne r vs).isSome = !mustB r vs ∧ ∀ us, fOne r vs = some us → tM vs = tM us ∧ fM vs = fM us) := by
    cases hM : mustB r vs
    · rw [fOne_no hM]; exact ⟨rfl, fun us e => by cases e; exact ⟨rfl, rfl⟩⟩
    · rw [fOne_nil hc hM hh]; exact ⟨rfl, fun us e => by cases e⟩
  obtain ⟨ah, kh, ab, kb, rfl, _⟩ := rd5I h
  clear hc hh
  have hm := tM_lt vs
  have hf := fM_lt vs
  obtain ⟨m, hme⟩ : ∃ m, m = tM vs := ⟨_, rfl⟩
  obtain ⟨f, hfe⟩ : ∃ f, f = fM vs := ⟨_, rfl⟩
  rw [← hme, ← hfe] at hms hO
  rw [← hme] at hm
  rw [← hfe] at hf
  rw [← hme, ← hfe]
  clear hme hfe
  have HMS := Lib.hid hms
  have TB := ((Below.refl w.heap.size w).alloc (Nat.le_refl _) (.cells #[.bool r.choice, .slice ah r.heads.length kh, .bool r.weight, .int .i64 r.bound, .slice ab r.body.length kb] 129)).alloc (by simp) (.cells #[.int .u16 (m : Int), .int .u16 (f : Int)] 75)
  have CXr := (Cells.new w [.bool r.choice, .slice ah r.heads.length kh, .bool r.weight, .int .i64 r.bound, .slice ab r.body.length kb] 129).alloc (.cells #[.int .u16 (m : Int), .int .u16 (f : Int)] 75)
  have CXv := Cells.new (w.alloc (.cells #[.bool r.choice, .slice ah r.heads.length kh, .bool r.weight, .int .i64 r.bound, .slice ab r.body.length kb] 129)) [.int .u16 (m : Int), .int .u16 (f : Int)] 75
  rw [World.size_alloc] at CXv
  have TC := TB.alloc (by simp; omega) (.cells #[.int .u16 0, .int .u16 0] 75)
  have CXr := CXr.alloc (.cells #[.int .u16 0, .int .u16 0] 75)
  have CXv := CXv.alloc (.cells #[.int .u16 0, .int .u16 0] 75)
  have hB2 := heap_alloc_new ((w.alloc (.cells #[.bool r.choice, .slice ah r.heads.length kh, .bool r.weight, .int .i64 r.bound, .slice ab r.body.length kb] 129)).alloc (.cells #[.int .u16 (m : Int), .int .u16 (f : Int)] 75)) (.cells #[.int .u16 0, .int .u16 0] 75)
  rw [World.size_alloc, World.size_alloc] at hB2
  go_enter Tryz.func92, Tryz.ntmps92
  go_wp2
  refine wp_region_held_drew (S := fun w' => (w'.cell? ⟨w.heap.size, 0, none⟩ = some (.bool r.choice) ∧ w'.cell? ⟨w.heap.size, 1, none⟩ = some (.slice ah r.heads.length kh) ∧ w'.cell? ⟨w.heap.size, 2, none⟩ = some (.bool r.weight) ∧ w'.cell? ⟨w.heap.size, 3, none⟩ = some (.int .i64 r.bound) ∧ w'.cell? ⟨w.heap.size, 4, none⟩ = some (.slice ab r.body.length kb)) ∧ (w'.cell? ⟨w.heap.size + 1, 0, none⟩ = some (.int .u16 (m : Int)) ∧ w'.cell? ⟨w.heap.size + 1, 1, none⟩ = some (.int .u16 (f : Int)))) (by kernel_rfl) ⟨cells5 CXr.drew, cells2 CXv.drew⟩ (fun hHeld => ?_)
  refine takeD (i := 0) (v := .agg #[.int .u16 (m : Int), .int .u16 (f : Int)]) (some 6) rfl rfl (by kernel_rfl) (by kernel_rfl) (by kernel_rfl) (fun _ _ _ h => h) (Or.inl ⟨by rfl, fun w' hw' => ?_⟩) hHeld ?_
  · first | (go_simp; done) | (obtain ⟨⟨s0, s1, s2, s3, s4⟩, s5, s6⟩ := hw'; go_simp; done) | (obtain ⟨s5, s6⟩ := hw'; go_simp; done) | (obtain ⟨s0, s1, s2, s3, s4, s5, s6, s7⟩ := hw'; go_simp)
  try simp only [Act.put, List.setIfInBounds_toArray, List.set_cons_zero, List.set_cons_succ]
  refine takeD (i := 1) (v := .agg #[.bool r.choice, .slice ah r.heads.length kh, .bool r.weight, .int .i64 r.bound, .slice ab r.body.length kb]) (some 7) rfl rfl (by kernel_rfl) (by kernel_rfl) (by kernel_rfl) (fun _ _ _ h => h) (Or.inl ⟨by rfl, fun w' hw' => ?_⟩) hHeld ?_
  · first | (go_simp; done) | (obtain ⟨⟨s0, s1, s2, s3, s4⟩, s5, s6⟩ := hw'; go_simp; done) | (obtain ⟨s5, s6⟩ := hw'; go_simp; done) | (obtain ⟨s0, s1, s2, s3, s4, s5, s6, s7⟩ := hw'; go_simp)
  try simp only [Act.put, List.setIfInBounds_toArray, List.set_cons_zero, List.set_cons_succ]
  refine takeD (i := 2) (v := .agg #[.int .u16 (m : Int), .int .u16 (f : Int)]) (some 8) rfl rfl (by kernel_rfl) (by kernel_rfl) (by kernel_rfl) (fun _ _ _ h => h) (Or.inl ⟨by rfl, fun w' hw' => ?_⟩) hHeld ?_
  · first | (go_simp; done) | (obtain ⟨⟨s0, s1, s2, s3, s4⟩, s5, s6⟩ := hw'; go_simp; done) | (obtain ⟨s5, s6⟩ := hw'; go_simp; done) | (obtain ⟨s0, s1, s2, s3, s4, s5, s6, s7⟩ := hw'; go_simp)
  try simp only [Act.put, List.setIfInBounds_toArray, List.set_cons_zero, List.set_cons_succ]
  refine wpAnyH_ready (rs := [3]) (by kernel_rfl) (by simp) ?_
  refine AllReadyH.cons rfl (fun K hK => ?_) AllReadyH.nil
  go_simp
  refine (mustHold_calls m f hm hf (Rd.mono TC.drew hR) hok).mono ?_
  rintro e w2 ⟨he, b2⟩
  rw [HMS.out] at he
  subst he
  have hB3 : w2.heap[w.heap.size + 1 + 1]? = some (.cells #[.int .u16 0, .int .u16 0] 75 (0, 0)) := (b2.block _ (block_lt hB2)).trans hB2
  obtain ⟨q0, q1⟩ := cells2 (bx_cells (cs := [.int .u16 0, .int .u16 0]) hB3)
  have z0 := frozen_of_row w2 (w.heap.size + 1 + 1) 0 _ _ hB3
  have z1 := frozen_of_row w2 (w.heap.size + 1 + 1) 1 _ _ hB3
  have C2r := CXr.drew.later b2
  have C2v := CXv.drew.later b2
  refine hK.out _ _ ⟨cells5 C2r, cells2 C2v⟩ (fun hHeld => ?_)
  clear hK K
  try simp only [Act.put, List.setIfInBounds_toArray, List.set_cons_zero, List.set_cons_succ]
  refine takeD (i := 4) (v := .bool (!mustB r vs)) (some 10) rfl rfl (by kernel_rfl) (by kernel_rfl) (by kernel_rfl) (fun _ _ _ h => h) (Or.inl ⟨by rfl, fun w' hw' => ?_⟩) hHeld ?_
  · first | (go_simp; done) | (obtain ⟨⟨s0, s1, s2, s3, s4⟩, s5, s6⟩ := hw'; go_simp; done) | (obtain ⟨s5, s6⟩ := hw'; go_simp; done) | (obtain ⟨s0, s1, s2, s3, s4, s5, s6, s7⟩ := hw'; go_simp)
  try simp only [Act.put, List.setIfInBounds_toArray, List.set_cons_zero, List.set_cons_succ]
  refine wpAnyH_ready (rs := [5]) (by kernel_rfl) (by simp) ?_
  refine AllReadyH.cons rfl (fun K hK => ?_) AllReadyH.nil
  go_simp
  have hS3 : ∀ a : Nat, a ≤ w.heap.size + 1 → ((w2.setCell ⟨w.heap.size + 1 + 1, 0, none⟩ (.int .u16 (m : Int))).setCell ⟨w.heap.size + 1 + 1, 1, none⟩ (.int .u16 (f : Int))).heap[a]? = w2.heap[a]? := fun a ha => (Below.heap_setCell _ _ _ _ (by show a ≠ w.heap.size + 1 + 1; omega)).trans (Below.heap_setCell _ _ _ _ (by show a ≠ w.heap.size + 1 + 1; omega))
  have C3r := C2r.kept (hS3 w.heap.size (by omega))
  have C3v := C2v.kept (hS3 (w.heap.size + 1) (by omega))
  obtain ⟨e0, e1⟩ := cells2 (bx_cells (cs := [.int .u16 (m : Int), .int .u16 (f : Int)]) (bx_set (i := 1) (bx_set (i := 0) (cs := [.int .u16 0, .int .u16 0]) hB3 (.int .u16 (m : Int))) (.int .u16 (f : Int))))
  have tE : Below w.heap.size w ((w2.setCell ⟨w.heap.size + 1 + 1, 0, none⟩ (.int .u16 (m : Int))).setCell ⟨w.heap.size + 1 + 1, 1, none⟩ (.int .u16 (f : Int))) := ((TC.drew.step b2).setCell (by show _ ≤ w.heap.size + 1 + 1; omega) _).setCell (by show _ ≤ w.heap.size + 1 + 1; omega) _
  refine hK.out _ _ ⟨cells5 C3r, cells2 C3v⟩ (fun hHeld => ?_)
  clear hK K
  try simp only [Act.put, List.setIfInBounds_toArray, List.set_cons_zero, List.set_cons_succ]
  refine wpAnyH_ready (rs := [6]) (by kernel_rfl) (by simp) ?_
  refine AllReadyH.cons rfl (fun K hK => ?_) AllReadyH.nil
  go_simp
  refine hK.out _ _ ⟨cells5 C3r, cells2 C3v⟩ (fun hHeld => ?_)
  clear hK K
  try simp only [Act.put, List.setIfInBounds_toArray, List.set_cons_zero, List.set_cons_succ]
  refine wpAnyH_done (by kernel_rfl) ?_ _
  clear C3r C3v C2r C2v q0 q1
  go_wp2
  exact bodyPost_ret (v := .tuple #[.agg #[.int .u16 (m : Int), .int .u16 (f : Int)], .bool (!mustB r vs)]) (by simp [results, Tryz.results92, go_sem, e0, e1]) rfl ⟨⟨m, f, by rw [hO.out.1], hm, hf, hO.out.2⟩, tE⟩


theorem upToV_pow {n : Nat} (hn : n ≤ 12) : ((2 : Int) ^ n) = ((2 ^ n : Nat) : Int) ∧ 1 ≤ 2 ^ n ∧ 2 ^ n ≤ 4096 := by
  have h1 : 2 ^ n ≤ 2 ^ 12 := Nat.pow_le_pow_right (by omega) hn
  have h2 : 0 < 2 ^ n := Nat.two_pow_pos n
  exact ⟨by simp, h2, h1⟩
theorem upToV_calls (n : Nat) (w : World) (hn : n ≤ 12) :
    Calls Tryz.prog 141 #[.int .i64 (n : Int)] w fun e w' => e = .returned (.int .u16 ((2 ^ n - 1 : Nat) : Int)) ∧ w = w' := by
  obtain ⟨hp, h1, h2⟩ := upToV_pow hn
  obtain ⟨P, hP⟩ : ∃ P : Nat, P = 2 ^ n := ⟨_, rfl⟩
  rw [← hP] at hp h1 h2
  have hv : Hid (2 ^ n = P) := hP.symm
  clear hP
  go_enter Tryz.func141, Tryz.ntmps141
  go_wp2
  go_ret
  refine ⟨ret_int ?_, rfl⟩
  rw [hv.out]
  first | omega | (unfold IntKind.wrap; simp; omega) | skip


theorem force_clash {vs : List Int} {a : Int} (ha : 1 ≤ a ∧ a ≤ 12) (h : valB vs 2 a = true) : apartB (tM vs ||| maskOf [a]) (fM vs) = false := by
  have hlt : tM vs ||| maskOf [a] < 4096 := Nat.or_lt_two_pow (n := 12) (tM_lt vs) (maskOf_lt _)
  cases e : apartB (tM vs ||| maskOf [a]) (fM vs)
  · rfl
  · exfalso
    have := (apart_iff hlt).1 e a ha.1 ha.2 (by rw [hasM_or ha, hasM_maskOf _ _ ha, show hasB [a] a = true by simp [hasB], Bool.or_true])
    unfold fM at this
    rw [hasM_with ha, h] at this
    cases this
theorem hasB_one {a x : Int} : hasB [a] x = decide (x = a) := by unfold hasB; simp
theorem force_t {vs : List Int} {a : Int} (ha : 1 ≤ a ∧ a ≤ (vs.length : Int)) (h2 : valB vs 2 a = false) (hl : vs.length ≤ 12) : tM (setV vs a 1) = tM vs ||| maskOf [a] := by
  refine mask_ext (tM_lt _) (Nat.or_lt_two_pow (n := 12) (tM_lt vs) (maskOf_lt _)) fun x h1 h3 => ?_
  have hx : 1 ≤ x ∧ x ≤ 12 := ⟨h1, h3⟩
  unfold tM
  rw [hasM_or hx, hasM_with hx, hasM_with hx, hasM_maskOf _ _ hx, hasB_one, valB_set ha]
  by_cases e : x = a
  · rw [if_pos e, decide_eq_true e]; simp
  · rw [if_neg e, decide_eq_false e, Bool.or_false]
theorem force_f {vs : List Int} {a : Int} (ha : 1 ≤ a ∧ a ≤ (vs.length : Int)) (h2 : valB vs 2 a = false) (hl : vs.length ≤ 12) : fM (setV vs a 1) = fM vs := by
  refine mask_ext (fM_lt _) (fM_lt _) fun x h1 h3 => ?_
  have hx : 1 ≤ x ∧ x ≤ 12 := ⟨h1, h3⟩
  unfold fM
  rw [hasM_with hx, hasM_with hx, valB_set ha]
  by_cases e : x = a
  · rw [if_pos e, e, h2]; rfl
  · rw [if_neg e]
set_option maxHeartbeats 4000000 in
theorem force_calls {cs : List Value} {r : RuleD} {w : World} {vs : List Int} {a : Int} {l : List Int} (h : Rd.R w cs r) (hv : VOk vs.length vs) (hok : ruleOkB r (vs.length : Int) = true) (hc : r.choice = false) (hh : r.heads = a :: l) :
    Calls Tryz.prog 93 #[.agg cs.toArray, .agg #[.int .u16 (tM vs : Int), .int .u16 (fM vs : Int)]] w (TaskR (fOne r vs) w) := by
  have hl12 := hv.2.1
  have hok12 := ruleOkB_mono hok (show (vs.length : Int) ≤ 12 by omega) (by omega)
  obtain ⟨rfl, ha⟩ := head_ok hok hc hh
  have hR := h
  have hms := must_mask (vs := vs) hok12 (rd_rule h)
  have hap := vals_apart vs
  obtain ⟨ah, kh, ab, kb, rfl, hhI⟩ := rd5I h
  have hm := tM_lt vs
  have hf := fM_lt vs
  have HC := Lib.hid hc
  have HH := Lib.hid hh
  have hmh : maskOf r.heads = maskOf [a] := by rw [hh]
  have hml := maskOf_lt r.heads
  have hm2 : tM vs ||| maskOf r.heads < 4096 := Nat.or_lt_two_pow (n := 12) hm hml
  have HL := Lib.hid hmh
  clear hc hh hmh
  obtain ⟨m, hme⟩ : ∃ m, m = tM vs := ⟨_, rfl⟩
  obtain ⟨f, hfe⟩ : ∃ f, f = fM vs := ⟨_, rfl⟩
  rw [← hme, ← hfe] at hms
  rw [← hme] at hm hm2
  rw [← hfe] at hf
  have HAP : Hid (apartB m f = true) := by show _ = _; rw [hme, hfe]; exact hap
  have HME := Lib.hid hme
  have HFE := Lib.hid hfe
  rw [← hme, ← hfe]
  clear hme hfe hap
  have TB := ((Below.refl w.heap.size w).alloc (Nat.le_refl _) (.cells #[.bool r.choice, .slice ah r.heads.length kh, .bool r.weight, .int .i64 r.bound, .slice ab r.body.length kb] 129)).alloc (by simp) (.cells #[.int .u16 (m : Int), .int .u16 (f : Int)] 75)
  have CXr := (Cells.new w [.bool r.choice, .slice ah r.heads.length kh, .bool r.weight, .int .i64 r.bound, .slice ab r.body.length kb] 129).alloc (.cells #[.int .u16 (m : Int), .int .u16 (f : Int)] 75)
  have CXv := Cells.new (w.alloc (.cells #[.bool r.choice, .slice ah r.heads.length kh, .bool r.weight, .int .i64 r.bound, .slice ab r.body.length kb] 129)) [.int .u16 (m : Int), .int .u16 (f : Int)] 75
  rw [World.size_alloc] at CXv
  have TC := TB.alloc (by simp; omega) (.cells #[.int .u16 0, .int .u16 0] 75)
  have CXr := CXr.alloc (.cells #[.int .u16 0, .int .u16 0] 75)
  have CXv := CXv.alloc (.cells #[.int .u16 0, .int .u16 0] 75)
  have hVB : (((w.alloc (.cells #[.bool r.choice, .slice ah r.heads.length kh, .bool r.weight, .int .i64 r.bound, .slice ab r.body.length kb] 129)).alloc (.cells #[.int .u16 (m : Int), .int .u16 (f : Int)] 75)).alloc (.cells #[.int .u16 0, .int .u16 0] 75)).heap[w.heap.size + 1]? = some (.cells ([.int .u16 (m : Int), .int .u16 (f : Int)] : List Value).toArray 75 (0, 0)) := by
    rw [Below.heap_alloc _ _ _ (by simp)]
    have := heap_alloc_new (w.alloc (.cells #[.bool r.choice, .slice ah r.heads.length kh, .bool r.weight, .int .i64 r.bound, .slice ab r.body.length kb] 129)) (.cells #[.int .u16 (m : Int), .int .u16 (f : Int)] 75)
    rw [World.size_alloc] at this
    exact this
  have hB2 := heap_alloc_new ((w.alloc (.cells #[.bool r.choice, .slice ah r.heads.length kh, .bool r.weight, .int .i64 r.bound, .slice ab r.body.length kb] 129)).alloc (.cells #[.int .u16 (m : Int), .int .u16 (f : Int)] 75)) (.cells #[.int .u16 0, .int .u16 0] 75)
  rw [World.size_alloc, World.size_alloc] at hB2
  go_enter Tryz.func93, Tryz.ntmps93
  go_wp2_with fail
  refine (mustHold_calls m f hm hf (Rd.mono TC hR) hok12).mono ?_
  rintro e w2 ⟨he, b2⟩
  rw [hms] at he
  subst he
  have HB2 := (b2.block _ (block_lt hB2)).trans hB2
  have HV2 := (b2.block _ (block_lt hVB)).trans hVB
  have C2r := CXr.later b2
  have TW := TC.step b2
  cases hM : mustB r vs
  · have hO : Hid (fOne r vs = some vs) := fOne_no hM
    have HB := HB2
    have CV := bx_cells HV2
    clear hms hM
    go_wp2
    refine wp_region_held_drew (S := fun w' => w'.cell? ⟨w.heap.size + 1, 0, none⟩ = some (.int .u16 (m : Int)) ∧ w'.cell? ⟨w.heap.size + 1, 1, none⟩ = some (.int .u16 (f : Int))) (by kernel_rfl) (cells2 CV.drew) (fun hHeld => ?_)
    refine takeD (i := 0) (v := .agg #[.int .u16 (m : Int), .int .u16 (f : Int)]) (some 16) rfl rfl (by kernel_rfl) (by kernel_rfl) (by kernel_rfl) (fun _ _ _ h => h) (Or.inl ⟨by rfl, fun w' hw' => ?_⟩) hHeld ?_
    · first | (go_simp; done) | (obtain ⟨⟨s0, s1, s2, s3, s4⟩, s5, s6⟩ := hw'; go_simp; done) | (obtain ⟨s5, s6⟩ := hw'; go_simp; done) | (obtain ⟨s0, s1, s2, s3, s4, s5, s6, s7⟩ := hw'; go_simp)
    try simp only [Act.put, List.setIfInBounds_toArray, List.set_cons_zero, List.set_cons_succ]
    refine takeD (i := 1) (v := .agg #[.int .u16 (m : Int), .int .u16 (f : Int)]) (some 17) rfl rfl (by kernel_rfl) (by kernel_rfl) (by kernel_rfl) (fun _ _ _ h => h) (Or.inl ⟨by rfl, fun w' hw' => ?_⟩) hHeld ?_
    · first | (go_simp; done) | (obtain ⟨⟨s0, s1, s2, s3, s4⟩, s5, s6⟩ := hw'; go_simp; done) | (obtain ⟨s5, s6⟩ := hw'; go_simp; done) | (obtain ⟨s0, s1, s2, s3, s4, s5, s6, s7⟩ := hw'; go_simp)
    try simp only [Act.put, List.setIfInBounds_toArray, List.set_cons_zero, List.set_cons_succ]
    refine wpAnyH_ready (rs := [2]) (by kernel_rfl) (by simp) ?_
    refine AllReadyH.cons rfl (fun K hK => ?_) AllReadyH.nil
    go_simp
    refine (apart_calls _ f _ hm hf).mono ?_
    rintro e w5 ⟨he, b5⟩
    rw [HAP.out] at he
    subst he
    have hB5 : w5.heap[w.heap.size + 1 + 1]? = some (.cells #[.int .u16 0, .int .u16 0] 75 (0, 0)) := (b5.block _ (block_lt HB)).trans HB
    obtain ⟨q0, q1⟩ := cells2 (bx_cells (cs := [.int .u16 0, .int .u16 0]) hB5)
    have z0 := frozen_of_row w5 (w.heap.size + 1 + 1) 0 _ _ hB5
    have z1 := frozen_of_row w5 (w.heap.size + 1 + 1) 1 _ _ hB5
    have C5v := CV.drew.later b5
    refine hK.out _ _ (cells2 C5v) (fun hHeld => ?_)
    clear hK K
    try simp only [Act.put, List.setIfInBounds_toArray, List.set_cons_zero, List.set_cons_succ]
    refine wpAnyH_ready (rs := [3]) (by kernel_rfl) (by simp) ?_
    refine AllReadyH.cons rfl (fun K hK => ?_) AllReadyH.nil
    go_simp
    have C6v := C5v.kept ((Below.heap_setCell (w5.setCell ⟨w.heap.size + 1 + 1, 0, none⟩ (.int .u16 (m : Int))) ⟨w.heap.size + 1 + 1, 1, none⟩ (.int .u16 (f : Int)) (w.heap.size + 1) (by show _ ≠ w.heap.size + 1 + 1; omega)).trans (Below.heap_setCell w5 ⟨w.heap.size + 1 + 1, 0, none⟩ (.int .u16 (m : Int)) (w.heap.size + 1) (by show _ ≠ w.heap.size + 1 + 1; omega)))
    obtain ⟨e0, e1⟩ := cells2 (bx_cells (cs := [.int .u16 (m : Int), .int .u16 (f : Int)]) (bx_set (i := 1) (bx_set (i := 0) (cs := [.int .u16 0, .int .u16 0]) hB5 (.int .u16 (m : Int))) (.int .u16 (f : Int))))
    have tE : Below w.heap.size w ((w5.setCell ⟨w.heap.size + 1 + 1, 0, none⟩ (.int .u16 (m : Int))).setCell ⟨w.heap.size + 1 + 1, 1, none⟩ (.int .u16 (f : Int))) := ((TW.drew.step b5).setCell (by show _ ≤ w.heap.size + 1 + 1; omega) _).setCell (by show _ ≤ w.heap.size + 1 + 1; omega) _
    refine hK.out _ _ (cells2 C6v) (fun hHeld => ?_)
    clear hK K
    try simp only [Act.put, List.setIfInBounds_toArray, List.set_cons_zero, List.set_cons_succ]
    refine wpAnyH_ready (rs := [4]) (by kernel_rfl) (by simp) ?_
    refine AllReadyH.cons rfl (fun K hK => ?_) AllReadyH.nil
    go_simp
    refine hK.out _ _ (cells2 C6v) (fun hHeld => ?_)
    clear hK K
    try simp only [Act.put, List.setIfInBounds_toArray, List.set_cons_zero, List.set_cons_succ]
    refine wpAnyH_done (by kernel_rfl) ?_ _
    clear C6v C5v q0 q1
    go_wp2
    refine bodyPost_ret (v := .tuple #[.agg #[.int .u16 (m : Int), .int .u16 (f : Int)], .bool true]) (by simp [results, Tryz.results93, go_sem, e0, e1]) rfl ⟨?_, tE⟩
    exact ⟨m, f, by rw [hO.out]; rfl, hm, hf, fun us e => by rw [hO.out] at e; cases e; exact ⟨HME.out, HFE.out⟩⟩
  · have HM := Lib.hid hM
    clear hms hM
    have hhW := (hhI.later TW).later (Below.refl _ _).drew
    obtain ⟨r0, r1, r2, r3, r4⟩ := cells5 C2r
    obtain ⟨v0, v1⟩ := cells2 (bx_cells HV2)
    have y0 := frozen_of_row w2 (w.heap.size + 1) 0 _ _ HV2
    have y1 := frozen_of_row w2 (w.heap.size + 1) 1 _ _ HV2
    have CV : Cells (w2.setCell ⟨w.heap.size + 1, 0, none⟩ (.int .u16 ((m ||| maskOf r.heads : Nat) : Int))).drew (w.heap.size + 1) 0 [.int .u16 ((m ||| maskOf r.heads : Nat) : Int), .int .u16 (f : Int)] := (bx_cells (bx_set (i := 0) HV2 (.int .u16 ((m ||| maskOf r.heads : Nat) : Int)))).drew
    have HB : (w2.setCell ⟨w.heap.size + 1, 0, none⟩ (.int .u16 ((m ||| maskOf r.heads : Nat) : Int))).drew.heap[w.heap.size + 1 + 1]? = some (.cells #[.int .u16 0, .int .u16 0] 75 (0, 0)) := (Below.heap_setCell _ _ _ _ (by show w.heap.size + 1 + 1 ≠ w.heap.size + 1; omega)).trans HB2
    have TW := (TW.setCell (p := ⟨w.heap.size + 1, 0, none⟩) (by show _ ≤ w.heap.size + 1; omega) (.int .u16 ((m ||| maskOf r.heads : Nat) : Int))).drew
    cases h2 : valB vs 2 a
    · have hO : Hid (fOne r vs = some (setV vs a 1)) := fOne_set HC.out HM.out HH.out h2
      have ht : Hid (m ||| maskOf r.heads = tM (setV vs a 1)) := by show _ = _; rw [HME.out, HL.out]; exact (force_t ha h2 hl12).symm
      have hff : Hid (f = fM (setV vs a 1)) := by show _ = _; rw [HFE.out]; exact (force_f ha h2 hl12).symm
      have HA : Hid (apartB (m ||| maskOf r.heads) f = true) := by show _ = _; rw [ht.out, hff.out]; exact vals_apart _
      clear h2
      go_wp2
      refine wp_region_still_tail 7 (by kernel_rfl) (by kernel_rfl) ?_
      simp only [List.take_succ_cons, List.take_zero, List.drop_succ_cons, List.drop_zero]
      repeat still_step
      still_call ((atomsIn_calls _ _ _ _ hhW).mono fun _ _ h => ⟨h.1, h.2.symm⟩)
      repeat still_step
      still_call ((joinN_calls _ _ _ hm hml).mono fun _ _ h => ⟨h.1, h.2.symm⟩)
      repeat still_step
      try refine wpStill_nil ?_
      go_wp2
      refine wp_region_held_drew (S := fun w' => w'.cell? ⟨w.heap.size + 1, 0, none⟩ = some (.int .u16 ((m ||| maskOf r.heads : Nat) : Int)) ∧ w'.cell? ⟨w.heap.size + 1, 1, none⟩ = some (.int .u16 (f : Int))) (by kernel_rfl) (cells2 CV.drew) (fun hHeld => ?_)
      refine takeD (i := 0) (v := .agg #[.int .u16 ((m ||| maskOf r.heads : Nat) : Int), .int .u16 (f : Int)]) (some 16) rfl rfl (by kernel_rfl) (by kernel_rfl) (by kernel_rfl) (fun _ _ _ h => h) (Or.inl ⟨by rfl, fun w' hw' => ?_⟩) hHeld ?_
      · first | (go_simp; done) | (obtain ⟨⟨s0, s1, s2, s3, s4⟩, s5, s6⟩ := hw'; go_simp; done) | (obtain ⟨s5, s6⟩ := hw'; go_simp; done) | (obtain ⟨s0, s1, s2, s3, s4, s5, s6, s7⟩ := hw'; go_simp)
      try simp only [Act.put, List.setIfInBounds_toArray, List.set_cons_zero, List.set_cons_succ]
      refine takeD (i := 1) (v := .agg #[.int .u16 ((m ||| maskOf r.heads : Nat) : Int), .int .u16 (f : Int)]) (some 17) rfl rfl (by kernel_rfl) (by kernel_rfl) (by kernel_rfl) (fun _ _ _ h => h) (Or.inl ⟨by rfl, fun w' hw' => ?_⟩) hHeld ?_
      · first | (go_simp; done) | (obtain ⟨⟨s0, s1, s2, s3, s4⟩, s5, s6⟩ := hw'; go_simp; done) | (obtain ⟨s5, s6⟩ := hw'; go_simp; done) | (obtain ⟨s0, s1, s2, s3, s4, s5, s6, s7⟩ := hw'; go_simp)
      try simp only [Act.put, List.setIfInBounds_toArray, List.set_cons_zero, List.set_cons_succ]
      refine wpAnyH_ready (rs := [2]) (by kernel_rfl) (by simp) ?_
      refine AllReadyH.cons rfl (fun K hK => ?_) AllReadyH.nil
      go_simp
      refine (apart_calls _ f _ hm2 hf).mono ?_
      rintro e w5 ⟨he, b5⟩
      rw [HA.out] at he
      subst he
      have hB5 : w5.heap[w.heap.size + 1 + 1]? = some (.cells #[.int .u16 0, .int .u16 0] 75 (0, 0)) := (b5.block _ (block_lt HB)).trans HB
      obtain ⟨q0, q1⟩ := cells2 (bx_cells (cs := [.int .u16 0, .int .u16 0]) hB5)
      have z0 := frozen_of_row w5 (w.heap.size + 1 + 1) 0 _ _ hB5
      have z1 := frozen_of_row w5 (w.heap.size + 1 + 1) 1 _ _ hB5
      have C5v := CV.drew.later b5
      refine hK.out _ _ (cells2 C5v) (fun hHeld => ?_)
      clear hK K
      try simp only [Act.put, List.setIfInBounds_toArray, List.set_cons_zero, List.set_cons_succ]
      refine wpAnyH_ready (rs := [3]) (by kernel_rfl) (by simp) ?_
      refine AllReadyH.cons rfl (fun K hK => ?_) AllReadyH.nil
      go_simp
      have C6v := C5v.kept ((Below.heap_setCell (w5.setCell ⟨w.heap.size + 1 + 1, 0, none⟩ (.int .u16 ((m ||| maskOf r.heads : Nat) : Int))) ⟨w.heap.size + 1 + 1, 1, none⟩ (.int .u16 (f : Int)) (w.heap.size + 1) (by show _ ≠ w.heap.size + 1 + 1; omega)).trans (Below.heap_setCell w5 ⟨w.heap.size + 1 + 1, 0, none⟩ (.int .u16 ((m ||| maskOf r.heads : Nat) : Int)) (w.heap.size + 1) (by show _ ≠ w.heap.size + 1 + 1; omega)))
      obtain ⟨e0, e1⟩ := cells2 (bx_cells (cs := [.int .u16 ((m ||| maskOf r.heads : Nat) : Int), .int .u16 (f : Int)]) (bx_set (i := 1) (bx_set (i := 0) (cs := [.int .u16 0, .int .u16 0]) hB5 (.int .u16 ((m ||| maskOf r.heads : Nat) : Int))) (.int .u16 (f : Int))))
      have tE : Below w.heap.size w ((w5.setCell ⟨w.heap.size + 1 + 1, 0, none⟩ (.int .u16 ((m ||| maskOf r.heads : Nat) : Int))).setCell ⟨w.heap.size + 1 + 1, 1, none⟩ (.int .u16 (f : Int))) := ((TW.drew.step b5).setCell (by show _ ≤ w.heap.size + 1 + 1; omega) _).setCell (by show _ ≤ w.heap.size + 1 + 1; omega) _
      refine hK.out _ _ (cells2 C6v) (fun hHeld => ?_)
      clear hK K
      try simp only [Act.put, List.setIfInBounds_toArray, List.set_cons_zero, List.set_cons_succ]
      refine wpAnyH_ready (rs := [4]) (by kernel_rfl) (by simp) ?_
      refine AllReadyH.cons rfl (fun K hK => ?_) AllReadyH.nil
      go_simp
      refine hK.out _ _ (cells2 C6v) (fun hHeld => ?_)
      clear hK K
      try simp only [Act.put, List.setIfInBounds_toArray, List.set_cons_zero, List.set_cons_succ]
      refine wpAnyH_done (by kernel_rfl) ?_ _
      clear C6v C5v q0 q1
      go_wp2
      refine bodyPost_ret (v := .tuple #[.agg #[.int .u16 ((m ||| maskOf r.heads : Nat) : Int), .int .u16 (f : Int)], .bool true]) (by simp [results, Tryz.results93, go_sem, e0, e1]) rfl ⟨?_, tE⟩
      exact ⟨m ||| maskOf r.heads, f, by rw [hO.out]; rfl, hm2, hf, fun us e => by rw [hO.out] at e; cases e; exact ⟨ht.out, hff.out⟩⟩
    · have hO : Hid (fOne r vs = none) := fOne_clash HC.out HM.out HH.out h2
      have HA : Hid (apartB (m ||| maskOf r.heads) f = false) := by show _ = _; rw [HME.out, HFE.out, HL.out]; exact force_clash ⟨ha.1, by omega⟩ h2
      clear h2
      go_wp2
      refine wp_region_still_tail 7 (by kernel_rfl) (by kernel_rfl) ?_
      simp only [List.take_succ_cons, List.take_zero, List.drop_succ_cons, List.drop_zero]
      repeat still_step
      still_call ((atomsIn_calls _ _ _ _ hhW).mono fun _ _ h => ⟨h.1, h.2.symm⟩)
      repeat still_step
      still_call ((joinN_calls _ _ _ hm hml).mono fun _ _ h => ⟨h.1, h.2.symm⟩)
      repeat still_step
      try refine wpStill_nil ?_
      go_wp2
      refine wp_region_held_drew (S := fun w' => w'.cell? ⟨w.heap.size + 1, 0, none⟩ = some (.int .u16 ((m ||| maskOf r.heads : Nat) : Int)) ∧ w'.cell? ⟨w.heap.size + 1, 1, none⟩ = some (.int .u16 (f : Int))) (by kernel_rfl) (cells2 CV.drew) (fun hHeld => ?_)
      refine takeD (i := 0) (v := .agg #[.int .u16 ((m ||| maskOf r.heads : Nat) : Int), .int .u16 (f : Int)]) (some 16) rfl rfl (by kernel_rfl) (by kernel_rfl) (by kernel_rfl) (fun _ _ _ h => h) (Or.inl ⟨by rfl, fun w' hw' => ?_⟩) hHeld ?_
      · first | (go_simp; done) | (obtain ⟨⟨s0, s1, s2, s3, s4⟩, s5, s6⟩ := hw'; go_simp; done) | (obtain ⟨s5, s6⟩ := hw'; go_simp; done) | (obtain ⟨s0, s1, s2, s3, s4, s5, s6, s7⟩ := hw'; go_simp)
      try simp only [Act.put, List.setIfInBounds_toArray, List.set_cons_zero, List.set_cons_succ]
      refine takeD (i := 1) (v := .agg #[.int .u16 ((m ||| maskOf r.heads : Nat) : Int), .int .u16 (f : Int)]) (some 17) rfl rfl (by kernel_rfl) (by kernel_rfl) (by kernel_rfl) (fun _ _ _ h => h) (Or.inl ⟨by rfl, fun w' hw' => ?_⟩) hHeld ?_
      · first | (go_simp; done) | (obtain ⟨⟨s0, s1, s2, s3, s4⟩, s5, s6⟩ := hw'; go_simp; done) | (obtain ⟨s5, s6⟩ := hw'; go_simp; done) | (obtain ⟨s0, s1, s2, s3, s4, s5, s6, s7⟩ := hw'; go_simp)
      try simp only [Act.put, List.setIfInBounds_toArray, List.set_cons_zero, List.set_cons_succ]
      refine wpAnyH_ready (rs := [2]) (by kernel_rfl) (by simp) ?_
      refine AllReadyH.cons rfl (fun K hK => ?_) AllReadyH.nil
      go_simp
      refine (apart_calls _ f _ hm2 hf).mono ?_
      rintro e w5 ⟨he, b5⟩
      rw [HA.out] at he
      subst he
      have hB5 : w5.heap[w.heap.size + 1 + 1]? = some (.cells #[.int .u16 0, .int .u16 0] 75 (0, 0)) := (b5.block _ (block_lt HB)).trans HB
      obtain ⟨q0, q1⟩ := cells2 (bx_cells (cs := [.int .u16 0, .int .u16 0]) hB5)
      have z0 := frozen_of_row w5 (w.heap.size + 1 + 1) 0 _ _ hB5
      have z1 := frozen_of_row w5 (w.heap.size + 1 + 1) 1 _ _ hB5
      have C5v := CV.drew.later b5
      refine hK.out _ _ (cells2 C5v) (fun hHeld => ?_)
      clear hK K
      try simp only [Act.put, List.setIfInBounds_toArray, List.set_cons_zero, List.set_cons_succ]
      refine wpAnyH_ready (rs := [3]) (by kernel_rfl) (by simp) ?_
      refine AllReadyH.cons rfl (fun K hK => ?_) AllReadyH.nil
      go_simp
      have C6v := C5v.kept ((Below.heap_setCell (w5.setCell ⟨w.heap.size + 1 + 1, 0, none⟩ (.int .u16 ((m ||| maskOf r.heads : Nat) : Int))) ⟨w.heap.size + 1 + 1, 1, none⟩ (.int .u16 (f : Int)) (w.heap.size + 1) (by show _ ≠ w.heap.size + 1 + 1; omega)).trans (Below.heap_setCell w5 ⟨w.heap.size + 1 + 1, 0, none⟩ (.int .u16 ((m ||| maskOf r.heads : Nat) : Int)) (w.heap.size + 1) (by show _ ≠ w.heap.size + 1 + 1; omega)))
      obtain ⟨e0, e1⟩ := cells2 (bx_cells (cs := [.int .u16 ((m ||| maskOf r.heads : Nat) : Int), .int .u16 (f : Int)]) (bx_set (i := 1) (bx_set (i := 0) (cs := [.int .u16 0, .int .u16 0]) hB5 (.int .u16 ((m ||| maskOf r.heads : Nat) : Int))) (.int .u16 (f : Int))))
      have tE : Below w.heap.size w ((w5.setCell ⟨w.heap.size + 1 + 1, 0, none⟩ (.int .u16 ((m ||| maskOf r.heads : Nat) : Int))).setCell ⟨w.heap.size + 1 + 1, 1, none⟩ (.int .u16 (f : Int))) := ((TW.drew.step b5).setCell (by show _ ≤ w.heap.size + 1 + 1; omega) _).setCell (by show _ ≤ w.heap.size + 1 + 1; omega) _
      refine hK.out _ _ (cells2 C6v) (fun hHeld => ?_)
      clear hK K
      try simp only [Act.put, List.setIfInBounds_toArray, List.set_cons_zero, List.set_cons_succ]
      refine wpAnyH_ready (rs := [4]) (by kernel_rfl) (by simp) ?_
      refine AllReadyH.cons rfl (fun K hK => ?_) AllReadyH.nil
      go_simp
      refine hK.out _ _ (cells2 C6v) (fun hHeld => ?_)
      clear hK K
      try simp only [Act.put, List.setIfInBounds_toArray, List.set_cons_zero, List.set_cons_succ]
      refine wpAnyH_done (by kernel_rfl) ?_ _
      clear C6v C5v q0 q1
      go_wp2
      refine bodyPost_ret (v := .tuple #[.agg #[.int .u16 ((m ||| maskOf r.heads : Nat) : Int), .int .u16 (f : Int)], .bool false]) (by simp [results, Tryz.results93, go_sem, e0, e1]) rfl ⟨?_, tE⟩
      exact ⟨m ||| maskOf r.heads, f, by rw [hO.out]; rfl, hm2, hf, fun us e => by rw [hO.out] at e; cases e⟩


theorem ex_all {q : ProgD} {vs : List Int} {c : Nat} (hn : q.atoms = (vs.length : Int)) (hv : VOk vs.length vs) (hc : c < 4096) (hm : mset c = comeL q.rules vs) :
    apartB (tM vs) (fM vs ||| ((2 ^ vs.length - 1) &&& (65535 - c))) = (exAll q vs).isSome ∧ ∀ us, exAll q vs = some us → tM vs = tM us ∧ fM vs ||| ((2 ^ vs.length - 1) &&& (65535 - c)) = fM us := by
  have hl12 := hv.2.1
  have hP : 2 ^ vs.length - 1 < 4096 := by
    have : 2 ^ vs.length ≤ 2 ^ 12 := Nat.pow_le_pow_right (by omega) hl12
    omega
  have hE : exAll q vs = exTo (comeL q.rules vs) vs vs.length := by
    unfold exAll
    rw [hn]; rfl
  have hcx : ∀ x : Int, 1 ≤ x ∧ x ≤ 12 → hasM c x = hasB (comeL q.rules vs) x := fun x hx => by rw [← hm, hasB_mset hx]
  have hlt : fM vs ||| ((2 ^ vs.length - 1) &&& (65535 - c)) < 4096 := Nat.or_lt_two_pow (n := 12) (fM_lt vs) (Nat.lt_of_le_of_lt Nat.and_le_left hP)
  have hx2 : ∀ x : Int, 1 ≤ x ∧ x ≤ 12 → hasM (fM vs ||| ((2 ^ vs.length - 1) &&& (65535 - c))) x = (valB vs 2 x || (decide (x ≤ vs.length) && !hasB (comeL q.rules vs) x)) := fun x hx => by
    rw [hasM_or hx, hasM_less hP hc hx, hasM_upTo hx, hcx x hx]
    unfold fM
    rw [hasM_with hx]
  rw [hE]
  obtain ⟨i1, i2⟩ := exTo_val (s := comeL q.rules vs) hv (Nat.le_refl vs.length)
  cases e : exTo (comeL q.rules vs) vs vs.length with
  | none =>
    obtain ⟨a, a1, a2, a3, a4⟩ := i2 e
    refine ⟨?_, fun us h => (by cases h)⟩
    show _ = false
    cases ea : apartB (tM vs) (fM vs ||| ((2 ^ vs.length - 1) &&& (65535 - c)))
    · rfl
    · exfalso
      have ha : 1 ≤ a ∧ a ≤ 12 := ⟨a1, by omega⟩
      have := (apart_iff (tM_lt vs)).1 ea a ha.1 ha.2 (by unfold tM; rw [hasM_with ha]; exact a4)
      rw [hx2 a ha, a3, decide_eq_true a2] at this
      simp at this
  | some us =>
    obtain ⟨j1, j2, j3⟩ := i1 us e
    have ht : tM vs = tM us := mask_ext (tM_lt _) (tM_lt _) fun x h1 h2 => by
      have hx : 1 ≤ x ∧ x ≤ 12 := ⟨h1, h2⟩
      unfold tM
      rw [hasM_with hx, hasM_with hx, j3]
      by_cases hy : 1 ≤ x ∧ x ≤ (vs.length : Int) ∧ hasB (comeL q.rules vs) x = false
      · rw [if_pos hy, j1 x hy.1 hy.2.1 hy.2.2]; rfl
      · rw [if_neg hy]
    have hf : fM vs ||| ((2 ^ vs.length - 1) &&& (65535 - c)) = fM us := mask_ext hlt (fM_lt _) fun x h1 h2 => by
      have hx : 1 ≤ x ∧ x ≤ 12 := ⟨h1, h2⟩
      rw [hx2 x hx]
      unfold fM
      rw [hasM_with hx, j3]
      by_cases hy : 1 ≤ x ∧ x ≤ (vs.length : Int) ∧ hasB (comeL q.rules vs) x = false
      · rw [if_pos hy, hy.2.2, decide_eq_true hy.2.1]; simp
      · rw [if_neg hy]
        by_cases hz : x ≤ (vs.length : Int)
        · have : hasB (comeL q.rules vs) x = true := by
            cases hb : hasB (comeL q.rules vs) x
            · exact absurd ⟨h1, hz, hb⟩ hy
            · rfl
          rw [this]; simp
        · rw [decide_eq_false hz]; simp
    refine ⟨?_, fun us' h => by cases h; exact ⟨ht, hf⟩⟩
    rw [hf, ht]
    exact vals_apart us
set_option maxHeartbeats 16000000 in
theorem exclude_calls {cs : List Value} {q : ProgD} {w : World} {vs : List Int} (h : Rd.R w cs q) (hn : q.atoms = (vs.length : Int)) (hv : VOk vs.length vs) (hok : ∀ r ∈ q.rules, ruleOkB r 12 = true) :
    Calls Tryz.prog 94 #[.agg cs.toArray, .agg #[.int .u16 (tM vs : Int), .int .u16 (fM vs : Int)]] w (TaskR (exAll q vs) w) := by
  have hl12 := hv.2.1
  have hR := h
  have hm := tM_lt vs
  have hf := fM_lt vs
  have hP : 2 ^ vs.length - 1 < 4096 := by
    have : 2 ^ vs.length ≤ 2 ^ 12 := Nat.pow_le_pow_right (by omega) hl12
    omega
  have HAT := fun w => Lib.hid (upToV_calls vs.length w hl12)
  obtain ⟨PP, hPP⟩ : ∃ PP, PP = 2 ^ vs.length - 1 := ⟨_, rfl⟩
  rw [← hPP] at hP HAT
  have HPE : Hid (2 ^ vs.length - 1 = PP) := hPP.symm
  clear hPP
  obtain ⟨c1, c2, c4, c5, c6, c7, rfl, hfa, g1, g2, g4, g5, g6, g7⟩ := h
  rw [hn] at hR ⊢
  clear g1 g2 g4 g5 g6 g7 hfa
  have TC := (((Below.refl w.heap.size w).alloc (Nat.le_refl _) (.cells #[.int .i64 (vs.length : Int), c1, c2, .bool q.projOn, c4, c5, c6, c7] 30)).alloc (by simp) (.cells #[.int .u16 (tM vs : Int), .int .u16 (fM vs : Int)] 75)).alloc (by simp; omega) (.cells #[.int .u16 0, .int .u16 0] 75)
  have CXp := ((Cells.new w [.int .i64 (vs.length : Int), c1, c2, .bool q.projOn, c4, c5, c6, c7] 30).alloc (.cells #[.int .u16 (tM vs : Int), .int .u16 (fM vs : Int)] 75)).alloc (.cells #[.int .u16 0, .int .u16 0] 75)
  have hVB : (((w.alloc (.cells #[.int .i64 (vs.length : Int), c1, c2, .bool q.projOn, c4, c5, c6, c7] 30)).alloc (.cells #[.int .u16 (tM vs : Int), .int .u16 (fM vs : Int)] 75)).alloc (.cells #[.int .u16 0, .int .u16 0] 75)).heap[w.heap.size + 1]? = some (.cells ([.int .u16 (tM vs : Int), .int .u16 (fM vs : Int)] : List Value).toArray 75 (0, 0)) := by
    rw [Below.heap_alloc _ _ _ (by simp)]
    have := heap_alloc_new (w.alloc (.cells #[.int .i64 (vs.length : Int), c1, c2, .bool q.projOn, c4, c5, c6, c7] 30)) (.cells #[.int .u16 (tM vs : Int), .int .u16 (fM vs : Int)] 75)
    rw [World.size_alloc] at this
    exact this
  have hB2 := heap_alloc_new ((w.alloc (.cells #[.int .i64 (vs.length : Int), c1, c2, .bool q.projOn, c4, c5, c6, c7] 30)).alloc (.cells #[.int .u16 (tM vs : Int), .int .u16 (fM vs : Int)] 75)) (.cells #[.int .u16 0, .int .u16 0] 75)
  rw [World.size_alloc, World.size_alloc] at hB2
  obtain ⟨y0, y1, y2, y3, y4, y5, y6, y7⟩ := cells8 CXp
  obtain ⟨v0, v1⟩ := cells2 (bx_cells hVB)
  go_enter Tryz.func94, Tryz.ntmps94
  go_wp2
  refine wp_region_held_drew (S := fun w' => w'.cell? ⟨w.heap.size, 0, none⟩ = some (.int .i64 (vs.length : Int)) ∧ w'.cell? ⟨w.heap.size, 1, none⟩ = some c1 ∧ w'.cell? ⟨w.heap.size, 2, none⟩ = some c2 ∧ w'.cell? ⟨w.heap.size, 3, none⟩ = some (.bool q.projOn) ∧ w'.cell? ⟨w.heap.size, 4, none⟩ = some c4 ∧ w'.cell? ⟨w.heap.size, 5, none⟩ = some c5 ∧ w'.cell? ⟨w.heap.size, 6, none⟩ = some c6 ∧ w'.cell? ⟨w.heap.size, 7, none⟩ = some c7) (by kernel_rfl) (cells8 CXp.drew) (fun hHeld => ?_)
  refine takeD (i := 0) (v := .pointer (some ⟨w.heap.size + 1, 1, none⟩)) (some 6) rfl rfl (by kernel_rfl) (by kernel_rfl) (by kernel_rfl) (fun _ _ _ h => h) (Or.inl ⟨by rfl, fun w' hw' => ?_⟩) hHeld ?_
  · first | (go_simp; done) | (obtain ⟨⟨s0, s1, s2, s3, s4⟩, s5, s6⟩ := hw'; go_simp; done) | (obtain ⟨s5, s6⟩ := hw'; go_simp; done) | (obtain ⟨s0, s1, s2, s3, s4, s5, s6, s7⟩ := hw'; go_simp)
  try simp only [Act.put, List.setIfInBounds_toArray, List.set_cons_zero, List.set_cons_succ]
  refine takeD (i := 2) (v := .pointer (some ⟨w.heap.size, 0, none⟩)) (some 8) rfl rfl (by kernel_rfl) (by kernel_rfl) (by kernel_rfl) (fun _ _ _ h => h) (Or.inl ⟨by rfl, fun w' hw' => ?_⟩) hHeld ?_
  · first | (go_simp; done) | (obtain ⟨⟨s0, s1, s2, s3, s4⟩, s5, s6⟩ := hw'; go_simp; done) | (obtain ⟨s5, s6⟩ := hw'; go_simp; done) | (obtain ⟨s0, s1, s2, s3, s4, s5, s6, s7⟩ := hw'; go_simp)
  try simp only [Act.put, List.setIfInBounds_toArray, List.set_cons_zero, List.set_cons_succ]
  refine takeD (i := 3) (v := .int .i64 (vs.length : Int)) (some 9) rfl rfl (by kernel_rfl) (by kernel_rfl) (by kernel_rfl) (fun _ _ _ h => h) (Or.inl ⟨by rfl, fun w' hw' => ?_⟩) hHeld ?_
  · first | (go_simp; done) | (obtain ⟨⟨s0, s1, s2, s3, s4⟩, s5, s6⟩ := hw'; go_simp; done) | (obtain ⟨s5, s6⟩ := hw'; go_simp; done) | (obtain ⟨s0, s1, s2, s3, s4, s5, s6, s7⟩ := hw'; go_simp)
  try simp only [Act.put, List.setIfInBounds_toArray, List.set_cons_zero, List.set_cons_succ]
  refine takeD (i := 5) (v := .agg #[.int .i64 (vs.length : Int), c1, c2, .bool q.projOn, c4, c5, c6, c7]) (some 11) rfl rfl (by kernel_rfl) (by kernel_rfl) (by kernel_rfl) (fun _ _ _ h => h) (Or.inl ⟨by rfl, fun w' hw' => ?_⟩) hHeld ?_
  · first | (go_simp; done) | (obtain ⟨⟨s0, s1, s2, s3, s4⟩, s5, s6⟩ := hw'; go_simp; done) | (obtain ⟨s5, s6⟩ := hw'; go_simp; done) | (obtain ⟨s0, s1, s2, s3, s4, s5, s6, s7⟩ := hw'; go_simp)
  try simp only [Act.put, List.setIfInBounds_toArray, List.set_cons_zero, List.set_cons_succ]
  refine wpAnyH_ready (rs := [1, 4, 6]) (by kernel_rfl) (by simp) ?_
  refine (AllReadyH.cons rfl (fun K hK => ?_) (AllReadyH.cons rfl (fun K hK => ?_) (AllReadyH.cons rfl (fun K hK => ?_) AllReadyH.nil)))
  · skip
    go_simp
    refine hK.out _ _ (cells8 CXp.drew) (fun hHeld => ?_)
    clear hK K
    try simp only [Act.put, List.setIfInBounds_toArray, List.set_cons_zero, List.set_cons_succ]
    refine wpAnyH_ready (rs := [4, 6]) (by kernel_rfl) (by simp) ?_
    refine (AllReadyH.cons rfl (fun K hK => ?_) (AllReadyH.cons rfl (fun K hK => ?_) AllReadyH.nil))
    · skip
      go_simp
      refine (HAT _).out.mono ?_
      rintro e w' ⟨rfl, rfl⟩
      refine hK.out _ _ (cells8 CXp.drew) (fun hHeld => ?_)
      clear hK K
      try simp only [Act.put, List.setIfInBounds_toArray, List.set_cons_zero, List.set_cons_succ]
      refine wpAnyH_ready (rs := [6]) (by kernel_rfl) (by simp) ?_
      refine (AllReadyH.cons rfl (fun K hK => ?_) AllReadyH.nil)
      go_simp
      refine hK.out _ _ (cells8 CXp.drew) (fun hHeld => ?_)
      clear hK K
      try simp only [Act.put, List.setIfInBounds_toArray, List.set_cons_zero, List.set_cons_succ]
      refine wpAnyH_ready (rs := [7]) (by kernel_rfl) (by simp) ?_
      refine (AllReadyH.cons rfl (fun K hK => ?_) AllReadyH.nil)
      go_simp
      refine (mayCome_calls vs (Rd.mono TC.drew hR) hok).mono ?_
      rintro e w5 ⟨c, rfl, ⟨hc, hcm⟩, b5⟩
      have C5p := CXp.drew.later b5
      have HV5 : w5.heap[w.heap.size + 1]? = some (.cells ([.int .u16 (tM vs : Int), .int .u16 (fM vs : Int)] : List Value).toArray 75 (0, 0)) := (b5.block _ (block_lt hVB)).trans hVB
      have HB5 : w5.heap[w.heap.size + 1 + 1]? = some (.cells #[.int .u16 0, .int .u16 0] 75 (0, 0)) := (b5.block _ (block_lt hB2)).trans hB2
      obtain ⟨u0, u1⟩ := cells2 (bx_cells HV5)
      have yz0 := frozen_of_row w5 (w.heap.size + 1) 0 _ _ HV5
      have yz1 := frozen_of_row w5 (w.heap.size + 1) 1 _ _ HV5
      have hlt : PP &&& (65535 - c) < 4096 := Nat.lt_of_le_of_lt Nat.and_le_left hP
      have hFl : fM vs ||| (PP &&& (65535 - c)) < 4096 := Nat.or_lt_two_pow (n := 12) hf hlt
      have HX : Hid (apartB (tM vs) (fM vs ||| (PP &&& (65535 - c))) = (exAll q vs).isSome ∧ ∀ us, exAll q vs = some us → tM vs = tM us ∧ fM vs ||| (PP &&& (65535 - c)) = fM us) := HPE.out ▸ ex_all hn hv hc hcm
      have T5 := TC.drew.step b5
      refine hK.out _ _ (cells8 C5p) (fun hHeld => ?_)
      clear hK K
      try simp only [Act.put, List.setIfInBounds_toArray, List.set_cons_zero, List.set_cons_succ]
      refine wpAnyH_ready (rs := [8]) (by kernel_rfl) (by simp) ?_
      refine (AllReadyH.cons rfl (fun K hK => ?_) AllReadyH.nil)
      go_simp
      refine (lessN_calls _ _ _ hP hc).mono ?_
      rintro e w' ⟨rfl, rfl⟩
      refine hK.out _ _ (cells8 C5p) (fun hHeld => ?_)
      clear hK K
      try simp only [Act.put, List.setIfInBounds_toArray, List.set_cons_zero, List.set_cons_succ]
      refine wpAnyH_ready (rs := [9]) (by kernel_rfl) (by simp) ?_
      refine (AllReadyH.cons rfl (fun K hK => ?_) AllReadyH.nil)
      go_simp
      refine (joinN_calls _ _ _ hf hlt).mono ?_
      rintro e w' ⟨rfl, rfl⟩
      refine hK.out _ _ (cells8 C5p) (fun hHeld => ?_)
      clear hK K
      try simp only [Act.put, List.setIfInBounds_toArray, List.set_cons_zero, List.set_cons_succ]
      refine takeD (i := 10) (v := .pointer (some ⟨w.heap.size + 1, 1, none⟩)) (some 16) rfl rfl (by kernel_rfl) (by kernel_rfl) (by kernel_rfl) (fun _ _ _ h => h) (Or.inl ⟨by rfl, fun w' hw' => ?_⟩) hHeld ?_
      · first | (go_simp; done) | (obtain ⟨⟨s0, s1, s2, s3, s4⟩, s5, s6⟩ := hw'; go_simp; done) | (obtain ⟨s5, s6⟩ := hw'; go_simp; done) | (obtain ⟨s0, s1, s2, s3, s4, s5, s6, s7⟩ := hw'; go_simp)
      try simp only [Act.put, List.setIfInBounds_toArray, List.set_cons_zero, List.set_cons_succ]
      refine wpAnyH_ready (rs := [11]) (by kernel_rfl) (by simp) ?_
      refine AllReadyH.cons rfl (fun K hK => ?_) AllReadyH.nil
      go_simp
      refine hK.out _ _ (cells8 (C5p.kept (Below.heap_setCell _ _ _ _ (by show w.heap.size ≠ w.heap.size + 1; omega)))) (fun hHeld => ?_)
      clear hK K
      try simp only [Act.put, List.setIfInBounds_toArray, List.set_cons_zero, List.set_cons_succ]
      refine wpAnyH_done (by kernel_rfl) ?_ _
      have CV : Cells (w5.setCell ⟨w.heap.size + 1, 1, none⟩ (.int .u16 ((fM vs ||| (PP &&& (65535 - c)) : Nat) : Int))) (w.heap.size + 1) 0 [.int .u16 (tM vs : Int), .int .u16 ((fM vs ||| (PP &&& (65535 - c)) : Nat) : Int)] := bx_cells (bx_set (i := 1) HV5 (.int .u16 ((fM vs ||| (PP &&& (65535 - c)) : Nat) : Int)))
      have HB : (w5.setCell ⟨w.heap.size + 1, 1, none⟩ (.int .u16 ((fM vs ||| (PP &&& (65535 - c)) : Nat) : Int))).heap[w.heap.size + 1 + 1]? = some (.cells #[.int .u16 0, .int .u16 0] 75 (0, 0)) := (Below.heap_setCell _ _ _ _ (by show w.heap.size + 1 + 1 ≠ w.heap.size + 1; omega)).trans HB5
      have TW := T5.setCell (p := ⟨w.heap.size + 1, 1, none⟩) (by show _ ≤ w.heap.size + 1; omega) (.int .u16 ((fM vs ||| (PP &&& (65535 - c)) : Nat) : Int))
      clear u0 u1 v0 v1 y0 y1 y2 y3 y4 y5 y6 y7
      go_wp2
      refine wp_region_held_drew (S := fun w' => w'.cell? ⟨w.heap.size + 1, 0, none⟩ = some (.int .u16 (tM vs : Int)) ∧ w'.cell? ⟨w.heap.size + 1, 1, none⟩ = some (.int .u16 ((fM vs ||| (PP &&& (65535 - c)) : Nat) : Int))) (by kernel_rfl) (cells2 CV.drew) (fun hHeld => ?_)
      refine takeD (i := 0) (v := .agg #[.int .u16 (tM vs : Int), .int .u16 ((fM vs ||| (PP &&& (65535 - c)) : Nat) : Int)]) (some 17) rfl rfl (by kernel_rfl) (by kernel_rfl) (by kernel_rfl) (fun _ _ _ h => h) (Or.inl ⟨by rfl, fun w' hw' => ?_⟩) hHeld ?_
      · first | (go_simp; done) | (obtain ⟨⟨s0, s1, s2, s3, s4⟩, s5, s6⟩ := hw'; go_simp; done) | (obtain ⟨s5, s6⟩ := hw'; go_simp; done) | (obtain ⟨s0, s1, s2, s3, s4, s5, s6, s7⟩ := hw'; go_simp)
      try simp only [Act.put, List.setIfInBounds_toArray, List.set_cons_zero, List.set_cons_succ]
      refine takeD (i := 1) (v := .agg #[.int .u16 (tM vs : Int), .int .u16 ((fM vs ||| (PP &&& (65535 - c)) : Nat) : Int)]) (some 18) rfl rfl (by kernel_rfl) (by kernel_rfl) (by kernel_rfl) (fun _ _ _ h => h) (Or.inl ⟨by rfl, fun w' hw' => ?_⟩) hHeld ?_
      · first | (go_simp; done) | (obtain ⟨⟨s0, s1, s2, s3, s4⟩, s5, s6⟩ := hw'; go_simp; done) | (obtain ⟨s5, s6⟩ := hw'; go_simp; done) | (obtain ⟨s0, s1, s2, s3, s4, s5, s6, s7⟩ := hw'; go_simp)
      try simp only [Act.put, List.setIfInBounds_toArray, List.set_cons_zero, List.set_cons_succ]
      refine wpAnyH_ready (rs := [2]) (by kernel_rfl) (by simp) ?_
      refine AllReadyH.cons rfl (fun K hK => ?_) AllReadyH.nil
      go_simp
      refine (apart_calls _ _ _ hm hFl).mono ?_
      rintro e w6 ⟨he, b6⟩
      rw [HX.out.1] at he
      subst he
      have hB6 : w6.heap[w.heap.size + 1 + 1]? = some (.cells #[.int .u16 0, .int .u16 0] 75 (0, 0)) := (b6.block _ (block_lt HB)).trans HB
      obtain ⟨q0, q1⟩ := cells2 (bx_cells (cs := [.int .u16 0, .int .u16 0]) hB6)
      have z0 := frozen_of_row w6 (w.heap.size + 1 + 1) 0 _ _ hB6
      have z1 := frozen_of_row w6 (w.heap.size + 1 + 1) 1 _ _ hB6
      have C6v := CV.drew.later b6
      refine hK.out _ _ (cells2 C6v) (fun hHeld => ?_)
      clear hK K
      try simp only [Act.put, List.setIfInBounds_toArray, List.set_cons_zero, List.set_cons_succ]
      refine wpAnyH_ready (rs := [3]) (by kernel_rfl) (by simp) ?_
      refine AllReadyH.cons rfl (fun K hK => ?_) AllReadyH.nil
      go_simp
      have C7v := C6v.kept ((Below.heap_setCell (w6.setCell ⟨w.heap.size + 1 + 1, 0, none⟩ (.int .u16 (tM vs : Int))) ⟨w.heap.size + 1 + 1, 1, none⟩ (.int .u16 ((fM vs ||| (PP &&& (65535 - c)) : Nat) : Int)) (w.heap.size + 1) (by show _ ≠ w.heap.size + 1 + 1; omega)).trans (Below.heap_setCell w6 ⟨w.heap.size + 1 + 1, 0, none⟩ (.int .u16 (tM vs : Int)) (w.heap.size + 1) (by show _ ≠ w.heap.size + 1 + 1; omega)))
      obtain ⟨e0, e1⟩ := cells2 (bx_cells (cs := [.int .u16 (tM vs : Int), .int .u16 ((fM vs ||| (PP &&& (65535 - c)) : Nat) : Int)]) (bx_set (i := 1) (bx_set (i := 0) (cs := [.int .u16 0, .int .u16 0]) hB6 (.int .u16 (tM vs : Int))) (.int .u16 ((fM vs ||| (PP &&& (65535 - c)) : Nat) : Int))))
      have tE : Below w.heap.size w ((w6.setCell ⟨w.heap.size + 1 + 1, 0, none⟩ (.int .u16 (tM vs : Int))).setCell ⟨w.heap.size + 1 + 1, 1, none⟩ (.int .u16 ((fM vs ||| (PP &&& (65535 - c)) : Nat) : Int))) := ((TW.drew.step b6).setCell (by show _ ≤ w.heap.size + 1 + 1; omega) _).setCell (by show _ ≤ w.heap.size + 1 + 1; omega) _
      refine hK.out _ _ (cells2 C7v) (fun hHeld => ?_)
      clear hK K
      try simp only [Act.put, List.setIfInBounds_toArray, List.set_cons_zero, List.set_cons_succ]
      refine wpAnyH_ready (rs := [4]) (by kernel_rfl) (by simp) ?_
      refine AllReadyH.cons rfl (fun K hK => ?_) AllReadyH.nil
      go_simp
      refine hK.out _ _ (cells2 C7v) (fun hHeld => ?_)
      clear hK K
      try simp only [Act.put, List.setIfInBounds_toArray, List.set_cons_zero, List.set_cons_succ]
      refine wpAnyH_done (by kernel_rfl) ?_ _
      clear C7v C6v q0 q1
      go_wp2
      refine bodyPost_ret (v := .tuple #[.agg #[.int .u16 (tM vs : Int), .int .u16 ((fM vs ||| (PP &&& (65535 - c)) : Nat) : Int)], .bool (exAll q vs).isSome]) (by simp [results, Tryz.results94, go_sem, e0, e1]) rfl ⟨?_, tE⟩
      exact ⟨tM vs, fM vs ||| (PP &&& (65535 - c)), rfl, hm, hFl, HX.out.2⟩
    · skip
      go_simp
      refine hK.out _ _ (cells8 CXp.drew) (fun hHeld => ?_)
      clear hK K
      try simp only [Act.put, List.setIfInBounds_toArray, List.set_cons_zero, List.set_cons_succ]
      refine wpAnyH_ready (rs := [4]) (by kernel_rfl) (by simp) ?_
      refine (AllReadyH.cons rfl (fun K hK => ?_) AllReadyH.nil)
      go_simp
      refine (HAT _).out.mono ?_
      rintro e w' ⟨rfl, rfl⟩
      refine hK.out _ _ (cells8 CXp.drew) (fun hHeld => ?_)
      clear hK K
      try simp only [Act.put, List.setIfInBounds_toArray, List.set_cons_zero, List.set_cons_succ]
      refine wpAnyH_ready (rs := [7]) (by kernel_rfl) (by simp) ?_
      refine (AllReadyH.cons rfl (fun K hK => ?_) AllReadyH.nil)
      go_simp
      refine (mayCome_calls vs (Rd.mono TC.drew hR) hok).mono ?_
      rintro e w5 ⟨c, rfl, ⟨hc, hcm⟩, b5⟩
      have C5p := CXp.drew.later b5
      have HV5 : w5.heap[w.heap.size + 1]? = some (.cells ([.int .u16 (tM vs : Int), .int .u16 (fM vs : Int)] : List Value).toArray 75 (0, 0)) := (b5.block _ (block_lt hVB)).trans hVB
      have HB5 : w5.heap[w.heap.size + 1 + 1]? = some (.cells #[.int .u16 0, .int .u16 0] 75 (0, 0)) := (b5.block _ (block_lt hB2)).trans hB2
      obtain ⟨u0, u1⟩ := cells2 (bx_cells HV5)
      have yz0 := frozen_of_row w5 (w.heap.size + 1) 0 _ _ HV5
      have yz1 := frozen_of_row w5 (w.heap.size + 1) 1 _ _ HV5
      have hlt : PP &&& (65535 - c) < 4096 := Nat.lt_of_le_of_lt Nat.and_le_left hP
      have hFl : fM vs ||| (PP &&& (65535 - c)) < 4096 := Nat.or_lt_two_pow (n := 12) hf hlt
      have HX : Hid (apartB (tM vs) (fM vs ||| (PP &&& (65535 - c))) = (exAll q vs).isSome ∧ ∀ us, exAll q vs = some us → tM vs = tM us ∧ fM vs ||| (PP &&& (65535 - c)) = fM us) := HPE.out ▸ ex_all hn hv hc hcm
      have T5 := TC.drew.step b5
      refine hK.out _ _ (cells8 C5p) (fun hHeld => ?_)
      clear hK K
      try simp only [Act.put, List.setIfInBounds_toArray, List.set_cons_zero, List.set_cons_succ]
      refine wpAnyH_ready (rs := [8]) (by kernel_rfl) (by simp) ?_
      refine (AllReadyH.cons rfl (fun K hK => ?_) AllReadyH.nil)
      go_simp
      refine (lessN_calls _ _ _ hP hc).mono ?_
      rintro e w' ⟨rfl, rfl⟩
      refine hK.out _ _ (cells8 C5p) (fun hHeld => ?_)
      clear hK K
      try simp only [Act.put, List.setIfInBounds_toArray, List.set_cons_zero, List.set_cons_succ]
      refine wpAnyH_ready (rs := [9]) (by kernel_rfl) (by simp) ?_
      refine (AllReadyH.cons rfl (fun K hK => ?_) AllReadyH.nil)
      go_simp
      refine (joinN_calls _ _ _ hf hlt).mono ?_
      rintro e w' ⟨rfl, rfl⟩
      refine hK.out _ _ (cells8 C5p) (fun hHeld => ?_)
      clear hK K
      try simp only [Act.put, List.setIfInBounds_toArray, List.set_cons_zero, List.set_cons_succ]
      refine takeD (i := 10) (v := .pointer (some ⟨w.heap.size + 1, 1, none⟩)) (some 16) rfl rfl (by kernel_rfl) (by kernel_rfl) (by kernel_rfl) (fun _ _ _ h => h) (Or.inl ⟨by rfl, fun w' hw' => ?_⟩) hHeld ?_
      · first | (go_simp; done) | (obtain ⟨⟨s0, s1, s2, s3, s4⟩, s5, s6⟩ := hw'; go_simp; done) | (obtain ⟨s5, s6⟩ := hw'; go_simp; done) | (obtain ⟨s0, s1, s2, s3, s4, s5, s6, s7⟩ := hw'; go_simp)
      try simp only [Act.put, List.setIfInBounds_toArray, List.set_cons_zero, List.set_cons_succ]
      refine wpAnyH_ready (rs := [11]) (by kernel_rfl) (by simp) ?_
      refine AllReadyH.cons rfl (fun K hK => ?_) AllReadyH.nil
      go_simp
      refine hK.out _ _ (cells8 (C5p.kept (Below.heap_setCell _ _ _ _ (by show w.heap.size ≠ w.heap.size + 1; omega)))) (fun hHeld => ?_)
      clear hK K
      try simp only [Act.put, List.setIfInBounds_toArray, List.set_cons_zero, List.set_cons_succ]
      refine wpAnyH_done (by kernel_rfl) ?_ _
      have CV : Cells (w5.setCell ⟨w.heap.size + 1, 1, none⟩ (.int .u16 ((fM vs ||| (PP &&& (65535 - c)) : Nat) : Int))) (w.heap.size + 1) 0 [.int .u16 (tM vs : Int), .int .u16 ((fM vs ||| (PP &&& (65535 - c)) : Nat) : Int)] := bx_cells (bx_set (i := 1) HV5 (.int .u16 ((fM vs ||| (PP &&& (65535 - c)) : Nat) : Int)))
      have HB : (w5.setCell ⟨w.heap.size + 1, 1, none⟩ (.int .u16 ((fM vs ||| (PP &&& (65535 - c)) : Nat) : Int))).heap[w.heap.size + 1 + 1]? = some (.cells #[.int .u16 0, .int .u16 0] 75 (0, 0)) := (Below.heap_setCell _ _ _ _ (by show w.heap.size + 1 + 1 ≠ w.heap.size + 1; omega)).trans HB5
      have TW := T5.setCell (p := ⟨w.heap.size + 1, 1, none⟩) (by show _ ≤ w.heap.size + 1; omega) (.int .u16 ((fM vs ||| (PP &&& (65535 - c)) : Nat) : Int))
      clear u0 u1 v0 v1 y0 y1 y2 y3 y4 y5 y6 y7
      go_wp2
      refine wp_region_held_drew (S := fun w' => w'.cell? ⟨w.heap.size + 1, 0, none⟩ = some (.int .u16 (tM vs : Int)) ∧ w'.cell? ⟨w.heap.size + 1, 1, none⟩ = some (.int .u16 ((fM vs ||| (PP &&& (65535 - c)) : Nat) : Int))) (by kernel_rfl) (cells2 CV.drew) (fun hHeld => ?_)
      refine takeD (i := 0) (v := .agg #[.int .u16 (tM vs : Int), .int .u16 ((fM vs ||| (PP &&& (65535 - c)) : Nat) : Int)]) (some 17) rfl rfl (by kernel_rfl) (by kernel_rfl) (by kernel_rfl) (fun _ _ _ h => h) (Or.inl ⟨by rfl, fun w' hw' => ?_⟩) hHeld ?_
      · first | (go_simp; done) | (obtain ⟨⟨s0, s1, s2, s3, s4⟩, s5, s6⟩ := hw'; go_simp; done) | (obtain ⟨s5, s6⟩ := hw'; go_simp; done) | (obtain ⟨s0, s1, s2, s3, s4, s5, s6, s7⟩ := hw'; go_simp)
      try simp only [Act.put, List.setIfInBounds_toArray, List.set_cons_zero, List.set_cons_succ]
      refine takeD (i := 1) (v := .agg #[.int .u16 (tM vs : Int), .int .u16 ((fM vs ||| (PP &&& (65535 - c)) : Nat) : Int)]) (some 18) rfl rfl (by kernel_rfl) (by kernel_rfl) (by kernel_rfl) (fun _ _ _ h => h) (Or.inl ⟨by rfl, fun w' hw' => ?_⟩) hHeld ?_
      · first | (go_simp; done) | (obtain ⟨⟨s0, s1, s2, s3, s4⟩, s5, s6⟩ := hw'; go_simp; done) | (obtain ⟨s5, s6⟩ := hw'; go_simp; done) | (obtain ⟨s0, s1, s2, s3, s4, s5, s6, s7⟩ := hw'; go_simp)
      try simp only [Act.put, List.setIfInBounds_toArray, List.set_cons_zero, List.set_cons_succ]
      refine wpAnyH_ready (rs := [2]) (by kernel_rfl) (by simp) ?_
      refine AllReadyH.cons rfl (fun K hK => ?_) AllReadyH.nil
      go_simp
      refine (apart_calls _ _ _ hm hFl).mono ?_
      rintro e w6 ⟨he, b6⟩
      rw [HX.out.1] at he
      subst he
      have hB6 : w6.heap[w.heap.size + 1 + 1]? = some (.cells #[.int .u16 0, .int .u16 0] 75 (0, 0)) := (b6.block _ (block_lt HB)).trans HB
      obtain ⟨q0, q1⟩ := cells2 (bx_cells (cs := [.int .u16 0, .int .u16 0]) hB6)
      have z0 := frozen_of_row w6 (w.heap.size + 1 + 1) 0 _ _ hB6
      have z1 := frozen_of_row w6 (w.heap.size + 1 + 1) 1 _ _ hB6
      have C6v := CV.drew.later b6
      refine hK.out _ _ (cells2 C6v) (fun hHeld => ?_)
      clear hK K
      try simp only [Act.put, List.setIfInBounds_toArray, List.set_cons_zero, List.set_cons_succ]
      refine wpAnyH_ready (rs := [3]) (by kernel_rfl) (by simp) ?_
      refine AllReadyH.cons rfl (fun K hK => ?_) AllReadyH.nil
      go_simp
      have C7v := C6v.kept ((Below.heap_setCell (w6.setCell ⟨w.heap.size + 1 + 1, 0, none⟩ (.int .u16 (tM vs : Int))) ⟨w.heap.size + 1 + 1, 1, none⟩ (.int .u16 ((fM vs ||| (PP &&& (65535 - c)) : Nat) : Int)) (w.heap.size + 1) (by show _ ≠ w.heap.size + 1 + 1; omega)).trans (Below.heap_setCell w6 ⟨w.heap.size + 1 + 1, 0, none⟩ (.int .u16 (tM vs : Int)) (w.heap.size + 1) (by show _ ≠ w.heap.size + 1 + 1; omega)))
      obtain ⟨e0, e1⟩ := cells2 (bx_cells (cs := [.int .u16 (tM vs : Int), .int .u16 ((fM vs ||| (PP &&& (65535 - c)) : Nat) : Int)]) (bx_set (i := 1) (bx_set (i := 0) (cs := [.int .u16 0, .int .u16 0]) hB6 (.int .u16 (tM vs : Int))) (.int .u16 ((fM vs ||| (PP &&& (65535 - c)) : Nat) : Int))))
      have tE : Below w.heap.size w ((w6.setCell ⟨w.heap.size + 1 + 1, 0, none⟩ (.int .u16 (tM vs : Int))).setCell ⟨w.heap.size + 1 + 1, 1, none⟩ (.int .u16 ((fM vs ||| (PP &&& (65535 - c)) : Nat) : Int))) := ((TW.drew.step b6).setCell (by show _ ≤ w.heap.size + 1 + 1; omega) _).setCell (by show _ ≤ w.heap.size + 1 + 1; omega) _
      refine hK.out _ _ (cells2 C7v) (fun hHeld => ?_)
      clear hK K
      try simp only [Act.put, List.setIfInBounds_toArray, List.set_cons_zero, List.set_cons_succ]
      refine wpAnyH_ready (rs := [4]) (by kernel_rfl) (by simp) ?_
      refine AllReadyH.cons rfl (fun K hK => ?_) AllReadyH.nil
      go_simp
      refine hK.out _ _ (cells2 C7v) (fun hHeld => ?_)
      clear hK K
      try simp only [Act.put, List.setIfInBounds_toArray, List.set_cons_zero, List.set_cons_succ]
      refine wpAnyH_done (by kernel_rfl) ?_ _
      clear C7v C6v q0 q1
      go_wp2
      refine bodyPost_ret (v := .tuple #[.agg #[.int .u16 (tM vs : Int), .int .u16 ((fM vs ||| (PP &&& (65535 - c)) : Nat) : Int)], .bool (exAll q vs).isSome]) (by simp [results, Tryz.results94, go_sem, e0, e1]) rfl ⟨?_, tE⟩
      exact ⟨tM vs, fM vs ||| (PP &&& (65535 - c)), rfl, hm, hFl, HX.out.2⟩
  · skip
    go_simp
    refine (HAT _).out.mono ?_
    rintro e w' ⟨rfl, rfl⟩
    refine hK.out _ _ (cells8 CXp.drew) (fun hHeld => ?_)
    clear hK K
    try simp only [Act.put, List.setIfInBounds_toArray, List.set_cons_zero, List.set_cons_succ]
    refine wpAnyH_ready (rs := [1, 6]) (by kernel_rfl) (by simp) ?_
    refine (AllReadyH.cons rfl (fun K hK => ?_) (AllReadyH.cons rfl (fun K hK => ?_) AllReadyH.nil))
    · skip
      go_simp
      refine hK.out _ _ (cells8 CXp.drew) (fun hHeld => ?_)
      clear hK K
      try simp only [Act.put, List.setIfInBounds_toArray, List.set_cons_zero, List.set_cons_succ]
      refine wpAnyH_ready (rs := [6]) (by kernel_rfl) (by simp) ?_
      refine (AllReadyH.cons rfl (fun K hK => ?_) AllReadyH.nil)
      go_simp
      refine hK.out _ _ (cells8 CXp.drew) (fun hHeld => ?_)
      clear hK K
      try simp only [Act.put, List.setIfInBounds_toArray, List.set_cons_zero, List.set_cons_succ]
      refine wpAnyH_ready (rs := [7]) (by kernel_rfl) (by simp) ?_
      refine (AllReadyH.cons rfl (fun K hK => ?_) AllReadyH.nil)
      go_simp
      refine (mayCome_calls vs (Rd.mono TC.drew hR) hok).mono ?_
      rintro e w5 ⟨c, rfl, ⟨hc, hcm⟩, b5⟩
      have C5p := CXp.drew.later b5
      have HV5 : w5.heap[w.heap.size + 1]? = some (.cells ([.int .u16 (tM vs : Int), .int .u16 (fM vs : Int)] : List Value).toArray 75 (0, 0)) := (b5.block _ (block_lt hVB)).trans hVB
      have HB5 : w5.heap[w.heap.size + 1 + 1]? = some (.cells #[.int .u16 0, .int .u16 0] 75 (0, 0)) := (b5.block _ (block_lt hB2)).trans hB2
      obtain ⟨u0, u1⟩ := cells2 (bx_cells HV5)
      have yz0 := frozen_of_row w5 (w.heap.size + 1) 0 _ _ HV5
      have yz1 := frozen_of_row w5 (w.heap.size + 1) 1 _ _ HV5
      have hlt : PP &&& (65535 - c) < 4096 := Nat.lt_of_le_of_lt Nat.and_le_left hP
      have hFl : fM vs ||| (PP &&& (65535 - c)) < 4096 := Nat.or_lt_two_pow (n := 12) hf hlt
      have HX : Hid (apartB (tM vs) (fM vs ||| (PP &&& (65535 - c))) = (exAll q vs).isSome ∧ ∀ us, exAll q vs = some us → tM vs = tM us ∧ fM vs ||| (PP &&& (65535 - c)) = fM us) := HPE.out ▸ ex_all hn hv hc hcm
      have T5 := TC.drew.step b5
      refine hK.out _ _ (cells8 C5p) (fun hHeld => ?_)
      clear hK K
      try simp only [Act.put, List.setIfInBounds_toArray, List.set_cons_zero, List.set_cons_succ]
      refine wpAnyH_ready (rs := [8]) (by kernel_rfl) (by simp) ?_
      refine (AllReadyH.cons rfl (fun K hK => ?_) AllReadyH.nil)
      go_simp
      refine (lessN_calls _ _ _ hP hc).mono ?_
      rintro e w' ⟨rfl, rfl⟩
      refine hK.out _ _ (cells8 C5p) (fun hHeld => ?_)
      clear hK K
      try simp only [Act.put, List.setIfInBounds_toArray, List.set_cons_zero, List.set_cons_succ]
      refine wpAnyH_ready (rs := [9]) (by kernel_rfl) (by simp) ?_
      refine (AllReadyH.cons rfl (fun K hK => ?_) AllReadyH.nil)
      go_simp
      refine (joinN_calls _ _ _ hf hlt).mono ?_
      rintro e w' ⟨rfl, rfl⟩
      refine hK.out _ _ (cells8 C5p) (fun hHeld => ?_)
      clear hK K
      try simp only [Act.put, List.setIfInBounds_toArray, List.set_cons_zero, List.set_cons_succ]
      refine takeD (i := 10) (v := .pointer (some ⟨w.heap.size + 1, 1, none⟩)) (some 16) rfl rfl (by kernel_rfl) (by kernel_rfl) (by kernel_rfl) (fun _ _ _ h => h) (Or.inl ⟨by rfl, fun w' hw' => ?_⟩) hHeld ?_
      · first | (go_simp; done) | (obtain ⟨⟨s0, s1, s2, s3, s4⟩, s5, s6⟩ := hw'; go_simp; done) | (obtain ⟨s5, s6⟩ := hw'; go_simp; done) | (obtain ⟨s0, s1, s2, s3, s4, s5, s6, s7⟩ := hw'; go_simp)
      try simp only [Act.put, List.setIfInBounds_toArray, List.set_cons_zero, List.set_cons_succ]
      refine wpAnyH_ready (rs := [11]) (by kernel_rfl) (by simp) ?_
      refine AllReadyH.cons rfl (fun K hK => ?_) AllReadyH.nil
      go_simp
      refine hK.out _ _ (cells8 (C5p.kept (Below.heap_setCell _ _ _ _ (by show w.heap.size ≠ w.heap.size + 1; omega)))) (fun hHeld => ?_)
      clear hK K
      try simp only [Act.put, List.setIfInBounds_toArray, List.set_cons_zero, List.set_cons_succ]
      refine wpAnyH_done (by kernel_rfl) ?_ _
      have CV : Cells (w5.setCell ⟨w.heap.size + 1, 1, none⟩ (.int .u16 ((fM vs ||| (PP &&& (65535 - c)) : Nat) : Int))) (w.heap.size + 1) 0 [.int .u16 (tM vs : Int), .int .u16 ((fM vs ||| (PP &&& (65535 - c)) : Nat) : Int)] := bx_cells (bx_set (i := 1) HV5 (.int .u16 ((fM vs ||| (PP &&& (65535 - c)) : Nat) : Int)))
      have HB : (w5.setCell ⟨w.heap.size + 1, 1, none⟩ (.int .u16 ((fM vs ||| (PP &&& (65535 - c)) : Nat) : Int))).heap[w.heap.size + 1 + 1]? = some (.cells #[.int .u16 0, .int .u16 0] 75 (0, 0)) := (Below.heap_setCell _ _ _ _ (by show w.heap.size + 1 + 1 ≠ w.heap.size + 1; omega)).trans HB5
      have TW := T5.setCell (p := ⟨w.heap.size + 1, 1, none⟩) (by show _ ≤ w.heap.size + 1; omega) (.int .u16 ((fM vs ||| (PP &&& (65535 - c)) : Nat) : Int))
      clear u0 u1 v0 v1 y0 y1 y2 y3 y4 y5 y6 y7
      go_wp2
      refine wp_region_held_drew (S := fun w' => w'.cell? ⟨w.heap.size + 1, 0, none⟩ = some (.int .u16 (tM vs : Int)) ∧ w'.cell? ⟨w.heap.size + 1, 1, none⟩ = some (.int .u16 ((fM vs ||| (PP &&& (65535 - c)) : Nat) : Int))) (by kernel_rfl) (cells2 CV.drew) (fun hHeld => ?_)
      refine takeD (i := 0) (v := .agg #[.int .u16 (tM vs : Int), .int .u16 ((fM vs ||| (PP &&& (65535 - c)) : Nat) : Int)]) (some 17) rfl rfl (by kernel_rfl) (by kernel_rfl) (by kernel_rfl) (fun _ _ _ h => h) (Or.inl ⟨by rfl, fun w' hw' => ?_⟩) hHeld ?_
      · first | (go_simp; done) | (obtain ⟨⟨s0, s1, s2, s3, s4⟩, s5, s6⟩ := hw'; go_simp; done) | (obtain ⟨s5, s6⟩ := hw'; go_simp; done) | (obtain ⟨s0, s1, s2, s3, s4, s5, s6, s7⟩ := hw'; go_simp)
      try simp only [Act.put, List.setIfInBounds_toArray, List.set_cons_zero, List.set_cons_succ]
      refine takeD (i := 1) (v := .agg #[.int .u16 (tM vs : Int), .int .u16 ((fM vs ||| (PP &&& (65535 - c)) : Nat) : Int)]) (some 18) rfl rfl (by kernel_rfl) (by kernel_rfl) (by kernel_rfl) (fun _ _ _ h => h) (Or.inl ⟨by rfl, fun w' hw' => ?_⟩) hHeld ?_
      · first | (go_simp; done) | (obtain ⟨⟨s0, s1, s2, s3, s4⟩, s5, s6⟩ := hw'; go_simp; done) | (obtain ⟨s5, s6⟩ := hw'; go_simp; done) | (obtain ⟨s0, s1, s2, s3, s4, s5, s6, s7⟩ := hw'; go_simp)
      try simp only [Act.put, List.setIfInBounds_toArray, List.set_cons_zero, List.set_cons_succ]
      refine wpAnyH_ready (rs := [2]) (by kernel_rfl) (by simp) ?_
      refine AllReadyH.cons rfl (fun K hK => ?_) AllReadyH.nil
      go_simp
      refine (apart_calls _ _ _ hm hFl).mono ?_
      rintro e w6 ⟨he, b6⟩
      rw [HX.out.1] at he
      subst he
      have hB6 : w6.heap[w.heap.size + 1 + 1]? = some (.cells #[.int .u16 0, .int .u16 0] 75 (0, 0)) := (b6.block _ (block_lt HB)).trans HB
      obtain ⟨q0, q1⟩ := cells2 (bx_cells (cs := [.int .u16 0, .int .u16 0]) hB6)
      have z0 := frozen_of_row w6 (w.heap.size + 1 + 1) 0 _ _ hB6
      have z1 := frozen_of_row w6 (w.heap.size + 1 + 1) 1 _ _ hB6
      have C6v := CV.drew.later b6
      refine hK.out _ _ (cells2 C6v) (fun hHeld => ?_)
      clear hK K
      try simp only [Act.put, List.setIfInBounds_toArray, List.set_cons_zero, List.set_cons_succ]
      refine wpAnyH_ready (rs := [3]) (by kernel_rfl) (by simp) ?_
      refine AllReadyH.cons rfl (fun K hK => ?_) AllReadyH.nil
      go_simp
      have C7v := C6v.kept ((Below.heap_setCell (w6.setCell ⟨w.heap.size + 1 + 1, 0, none⟩ (.int .u16 (tM vs : Int))) ⟨w.heap.size + 1 + 1, 1, none⟩ (.int .u16 ((fM vs ||| (PP &&& (65535 - c)) : Nat) : Int)) (w.heap.size + 1) (by show _ ≠ w.heap.size + 1 + 1; omega)).trans (Below.heap_setCell w6 ⟨w.heap.size + 1 + 1, 0, none⟩ (.int .u16 (tM vs : Int)) (w.heap.size + 1) (by show _ ≠ w.heap.size + 1 + 1; omega)))
      obtain ⟨e0, e1⟩ := cells2 (bx_cells (cs := [.int .u16 (tM vs : Int), .int .u16 ((fM vs ||| (PP &&& (65535 - c)) : Nat) : Int)]) (bx_set (i := 1) (bx_set (i := 0) (cs := [.int .u16 0, .int .u16 0]) hB6 (.int .u16 (tM vs : Int))) (.int .u16 ((fM vs ||| (PP &&& (65535 - c)) : Nat) : Int))))
      have tE : Below w.heap.size w ((w6.setCell ⟨w.heap.size + 1 + 1, 0, none⟩ (.int .u16 (tM vs : Int))).setCell ⟨w.heap.size + 1 + 1, 1, none⟩ (.int .u16 ((fM vs ||| (PP &&& (65535 - c)) : Nat) : Int))) := ((TW.drew.step b6).setCell (by show _ ≤ w.heap.size + 1 + 1; omega) _).setCell (by show _ ≤ w.heap.size + 1 + 1; omega) _
      refine hK.out _ _ (cells2 C7v) (fun hHeld => ?_)
      clear hK K
      try simp only [Act.put, List.setIfInBounds_toArray, List.set_cons_zero, List.set_cons_succ]
      refine wpAnyH_ready (rs := [4]) (by kernel_rfl) (by simp) ?_
      refine AllReadyH.cons rfl (fun K hK => ?_) AllReadyH.nil
      go_simp
      refine hK.out _ _ (cells2 C7v) (fun hHeld => ?_)
      clear hK K
      try simp only [Act.put, List.setIfInBounds_toArray, List.set_cons_zero, List.set_cons_succ]
      refine wpAnyH_done (by kernel_rfl) ?_ _
      clear C7v C6v q0 q1
      go_wp2
      refine bodyPost_ret (v := .tuple #[.agg #[.int .u16 (tM vs : Int), .int .u16 ((fM vs ||| (PP &&& (65535 - c)) : Nat) : Int)], .bool (exAll q vs).isSome]) (by simp [results, Tryz.results94, go_sem, e0, e1]) rfl ⟨?_, tE⟩
      exact ⟨tM vs, fM vs ||| (PP &&& (65535 - c)), rfl, hm, hFl, HX.out.2⟩
    · skip
      go_simp
      refine hK.out _ _ (cells8 CXp.drew) (fun hHeld => ?_)
      clear hK K
      try simp only [Act.put, List.setIfInBounds_toArray, List.set_cons_zero, List.set_cons_succ]
      refine wpAnyH_ready (rs := [1, 7]) (by kernel_rfl) (by simp) ?_
      refine (AllReadyH.cons rfl (fun K hK => ?_) (AllReadyH.cons rfl (fun K hK => ?_) AllReadyH.nil))
      · skip
        go_simp
        refine hK.out _ _ (cells8 CXp.drew) (fun hHeld => ?_)
        clear hK K
        try simp only [Act.put, List.setIfInBounds_toArray, List.set_cons_zero, List.set_cons_succ]
        refine wpAnyH_ready (rs := [7]) (by kernel_rfl) (by simp) ?_
        refine (AllReadyH.cons rfl (fun K hK => ?_) AllReadyH.nil)
        go_simp
        refine (mayCome_calls vs (Rd.mono TC.drew hR) hok).mono ?_
        rintro e w5 ⟨c, rfl, ⟨hc, hcm⟩, b5⟩
        have C5p := CXp.drew.later b5
        have HV5 : w5.heap[w.heap.size + 1]? = some (.cells ([.int .u16 (tM vs : Int), .int .u16 (fM vs : Int)] : List Value).toArray 75 (0, 0)) := (b5.block _ (block_lt hVB)).trans hVB
        have HB5 : w5.heap[w.heap.size + 1 + 1]? = some (.cells #[.int .u16 0, .int .u16 0] 75 (0, 0)) := (b5.block _ (block_lt hB2)).trans hB2
        obtain ⟨u0, u1⟩ := cells2 (bx_cells HV5)
        have yz0 := frozen_of_row w5 (w.heap.size + 1) 0 _ _ HV5
        have yz1 := frozen_of_row w5 (w.heap.size + 1) 1 _ _ HV5
        have hlt : PP &&& (65535 - c) < 4096 := Nat.lt_of_le_of_lt Nat.and_le_left hP
        have hFl : fM vs ||| (PP &&& (65535 - c)) < 4096 := Nat.or_lt_two_pow (n := 12) hf hlt
        have HX : Hid (apartB (tM vs) (fM vs ||| (PP &&& (65535 - c))) = (exAll q vs).isSome ∧ ∀ us, exAll q vs = some us → tM vs = tM us ∧ fM vs ||| (PP &&& (65535 - c)) = fM us) := HPE.out ▸ ex_all hn hv hc hcm
        have T5 := TC.drew.step b5
        refine hK.out _ _ (cells8 C5p) (fun hHeld => ?_)
        clear hK K
        try simp only [Act.put, List.setIfInBounds_toArray, List.set_cons_zero, List.set_cons_succ]
        refine wpAnyH_ready (rs := [8]) (by kernel_rfl) (by simp) ?_
        refine (AllReadyH.cons rfl (fun K hK => ?_) AllReadyH.nil)
        go_simp
        refine (lessN_calls _ _ _ hP hc).mono ?_
        rintro e w' ⟨rfl, rfl⟩
        refine hK.out _ _ (cells8 C5p) (fun hHeld => ?_)
        clear hK K
        try simp only [Act.put, List.setIfInBounds_toArray, List.set_cons_zero, List.set_cons_succ]
        refine wpAnyH_ready (rs := [9]) (by kernel_rfl) (by simp) ?_
        refine (AllReadyH.cons rfl (fun K hK => ?_) AllReadyH.nil)
        go_simp
        refine (joinN_calls _ _ _ hf hlt).mono ?_
        rintro e w' ⟨rfl, rfl⟩
        refine hK.out _ _ (cells8 C5p) (fun hHeld => ?_)
        clear hK K
        try simp only [Act.put, List.setIfInBounds_toArray, List.set_cons_zero, List.set_cons_succ]
        refine takeD (i := 10) (v := .pointer (some ⟨w.heap.size + 1, 1, none⟩)) (some 16) rfl rfl (by kernel_rfl) (by kernel_rfl) (by kernel_rfl) (fun _ _ _ h => h) (Or.inl ⟨by rfl, fun w' hw' => ?_⟩) hHeld ?_
        · first | (go_simp; done) | (obtain ⟨⟨s0, s1, s2, s3, s4⟩, s5, s6⟩ := hw'; go_simp; done) | (obtain ⟨s5, s6⟩ := hw'; go_simp; done) | (obtain ⟨s0, s1, s2, s3, s4, s5, s6, s7⟩ := hw'; go_simp)
        try simp only [Act.put, List.setIfInBounds_toArray, List.set_cons_zero, List.set_cons_succ]
        refine wpAnyH_ready (rs := [11]) (by kernel_rfl) (by simp) ?_
        refine AllReadyH.cons rfl (fun K hK => ?_) AllReadyH.nil
        go_simp
        refine hK.out _ _ (cells8 (C5p.kept (Below.heap_setCell _ _ _ _ (by show w.heap.size ≠ w.heap.size + 1; omega)))) (fun hHeld => ?_)
        clear hK K
        try simp only [Act.put, List.setIfInBounds_toArray, List.set_cons_zero, List.set_cons_succ]
        refine wpAnyH_done (by kernel_rfl) ?_ _
        have CV : Cells (w5.setCell ⟨w.heap.size + 1, 1, none⟩ (.int .u16 ((fM vs ||| (PP &&& (65535 - c)) : Nat) : Int))) (w.heap.size + 1) 0 [.int .u16 (tM vs : Int), .int .u16 ((fM vs ||| (PP &&& (65535 - c)) : Nat) : Int)] := bx_cells (bx_set (i := 1) HV5 (.int .u16 ((fM vs ||| (PP &&& (65535 - c)) : Nat) : Int)))
        have HB : (w5.setCell ⟨w.heap.size + 1, 1, none⟩ (.int .u16 ((fM vs ||| (PP &&& (65535 - c)) : Nat) : Int))).heap[w.heap.size + 1 + 1]? = some (.cells #[.int .u16 0, .int .u16 0] 75 (0, 0)) := (Below.heap_setCell _ _ _ _ (by show w.heap.size + 1 + 1 ≠ w.heap.size + 1; omega)).trans HB5
        have TW := T5.setCell (p := ⟨w.heap.size + 1, 1, none⟩) (by show _ ≤ w.heap.size + 1; omega) (.int .u16 ((fM vs ||| (PP &&& (65535 - c)) : Nat) : Int))
        clear u0 u1 v0 v1 y0 y1 y2 y3 y4 y5 y6 y7
        go_wp2
        refine wp_region_held_drew (S := fun w' => w'.cell? ⟨w.heap.size + 1, 0, none⟩ = some (.int .u16 (tM vs : Int)) ∧ w'.cell? ⟨w.heap.size + 1, 1, none⟩ = some (.int .u16 ((fM vs ||| (PP &&& (65535 - c)) : Nat) : Int))) (by kernel_rfl) (cells2 CV.drew) (fun hHeld => ?_)
        refine takeD (i := 0) (v := .agg #[.int .u16 (tM vs : Int), .int .u16 ((fM vs ||| (PP &&& (65535 - c)) : Nat) : Int)]) (some 17) rfl rfl (by kernel_rfl) (by kernel_rfl) (by kernel_rfl) (fun _ _ _ h => h) (Or.inl ⟨by rfl, fun w' hw' => ?_⟩) hHeld ?_
        · first | (go_simp; done) | (obtain ⟨⟨s0, s1, s2, s3, s4⟩, s5, s6⟩ := hw'; go_simp; done) | (obtain ⟨s5, s6⟩ := hw'; go_simp; done) | (obtain ⟨s0, s1, s2, s3, s4, s5, s6, s7⟩ := hw'; go_simp)
        try simp only [Act.put, List.setIfInBounds_toArray, List.set_cons_zero, List.set_cons_succ]
        refine takeD (i := 1) (v := .agg #[.int .u16 (tM vs : Int), .int .u16 ((fM vs ||| (PP &&& (65535 - c)) : Nat) : Int)]) (some 18) rfl rfl (by kernel_rfl) (by kernel_rfl) (by kernel_rfl) (fun _ _ _ h => h) (Or.inl ⟨by rfl, fun w' hw' => ?_⟩) hHeld ?_
        · first | (go_simp; done) | (obtain ⟨⟨s0, s1, s2, s3, s4⟩, s5, s6⟩ := hw'; go_simp; done) | (obtain ⟨s5, s6⟩ := hw'; go_simp; done) | (obtain ⟨s0, s1, s2, s3, s4, s5, s6, s7⟩ := hw'; go_simp)
        try simp only [Act.put, List.setIfInBounds_toArray, List.set_cons_zero, List.set_cons_succ]
        refine wpAnyH_ready (rs := [2]) (by kernel_rfl) (by simp) ?_
        refine AllReadyH.cons rfl (fun K hK => ?_) AllReadyH.nil
        go_simp
        refine (apart_calls _ _ _ hm hFl).mono ?_
        rintro e w6 ⟨he, b6⟩
        rw [HX.out.1] at he
        subst he
        have hB6 : w6.heap[w.heap.size + 1 + 1]? = some (.cells #[.int .u16 0, .int .u16 0] 75 (0, 0)) := (b6.block _ (block_lt HB)).trans HB
        obtain ⟨q0, q1⟩ := cells2 (bx_cells (cs := [.int .u16 0, .int .u16 0]) hB6)
        have z0 := frozen_of_row w6 (w.heap.size + 1 + 1) 0 _ _ hB6
        have z1 := frozen_of_row w6 (w.heap.size + 1 + 1) 1 _ _ hB6
        have C6v := CV.drew.later b6
        refine hK.out _ _ (cells2 C6v) (fun hHeld => ?_)
        clear hK K
        try simp only [Act.put, List.setIfInBounds_toArray, List.set_cons_zero, List.set_cons_succ]
        refine wpAnyH_ready (rs := [3]) (by kernel_rfl) (by simp) ?_
        refine AllReadyH.cons rfl (fun K hK => ?_) AllReadyH.nil
        go_simp
        have C7v := C6v.kept ((Below.heap_setCell (w6.setCell ⟨w.heap.size + 1 + 1, 0, none⟩ (.int .u16 (tM vs : Int))) ⟨w.heap.size + 1 + 1, 1, none⟩ (.int .u16 ((fM vs ||| (PP &&& (65535 - c)) : Nat) : Int)) (w.heap.size + 1) (by show _ ≠ w.heap.size + 1 + 1; omega)).trans (Below.heap_setCell w6 ⟨w.heap.size + 1 + 1, 0, none⟩ (.int .u16 (tM vs : Int)) (w.heap.size + 1) (by show _ ≠ w.heap.size + 1 + 1; omega)))
        obtain ⟨e0, e1⟩ := cells2 (bx_cells (cs := [.int .u16 (tM vs : Int), .int .u16 ((fM vs ||| (PP &&& (65535 - c)) : Nat) : Int)]) (bx_set (i := 1) (bx_set (i := 0) (cs := [.int .u16 0, .int .u16 0]) hB6 (.int .u16 (tM vs : Int))) (.int .u16 ((fM vs ||| (PP &&& (65535 - c)) : Nat) : Int))))
        have tE : Below w.heap.size w ((w6.setCell ⟨w.heap.size + 1 + 1, 0, none⟩ (.int .u16 (tM vs : Int))).setCell ⟨w.heap.size + 1 + 1, 1, none⟩ (.int .u16 ((fM vs ||| (PP &&& (65535 - c)) : Nat) : Int))) := ((TW.drew.step b6).setCell (by show _ ≤ w.heap.size + 1 + 1; omega) _).setCell (by show _ ≤ w.heap.size + 1 + 1; omega) _
        refine hK.out _ _ (cells2 C7v) (fun hHeld => ?_)
        clear hK K
        try simp only [Act.put, List.setIfInBounds_toArray, List.set_cons_zero, List.set_cons_succ]
        refine wpAnyH_ready (rs := [4]) (by kernel_rfl) (by simp) ?_
        refine AllReadyH.cons rfl (fun K hK => ?_) AllReadyH.nil
        go_simp
        refine hK.out _ _ (cells2 C7v) (fun hHeld => ?_)
        clear hK K
        try simp only [Act.put, List.setIfInBounds_toArray, List.set_cons_zero, List.set_cons_succ]
        refine wpAnyH_done (by kernel_rfl) ?_ _
        clear C7v C6v q0 q1
        go_wp2
        refine bodyPost_ret (v := .tuple #[.agg #[.int .u16 (tM vs : Int), .int .u16 ((fM vs ||| (PP &&& (65535 - c)) : Nat) : Int)], .bool (exAll q vs).isSome]) (by simp [results, Tryz.results94, go_sem, e0, e1]) rfl ⟨?_, tE⟩
        exact ⟨tM vs, fM vs ||| (PP &&& (65535 - c)), rfl, hm, hFl, HX.out.2⟩
      · skip
        go_simp
        refine (mayCome_calls vs (Rd.mono TC.drew hR) hok).mono ?_
        rintro e w5 ⟨c, rfl, ⟨hc, hcm⟩, b5⟩
        have C5p := CXp.drew.later b5
        have HV5 : w5.heap[w.heap.size + 1]? = some (.cells ([.int .u16 (tM vs : Int), .int .u16 (fM vs : Int)] : List Value).toArray 75 (0, 0)) := (b5.block _ (block_lt hVB)).trans hVB
        have HB5 : w5.heap[w.heap.size + 1 + 1]? = some (.cells #[.int .u16 0, .int .u16 0] 75 (0, 0)) := (b5.block _ (block_lt hB2)).trans hB2
        obtain ⟨u0, u1⟩ := cells2 (bx_cells HV5)
        have yz0 := frozen_of_row w5 (w.heap.size + 1) 0 _ _ HV5
        have yz1 := frozen_of_row w5 (w.heap.size + 1) 1 _ _ HV5
        have hlt : PP &&& (65535 - c) < 4096 := Nat.lt_of_le_of_lt Nat.and_le_left hP
        have hFl : fM vs ||| (PP &&& (65535 - c)) < 4096 := Nat.or_lt_two_pow (n := 12) hf hlt
        have HX : Hid (apartB (tM vs) (fM vs ||| (PP &&& (65535 - c))) = (exAll q vs).isSome ∧ ∀ us, exAll q vs = some us → tM vs = tM us ∧ fM vs ||| (PP &&& (65535 - c)) = fM us) := HPE.out ▸ ex_all hn hv hc hcm
        have T5 := TC.drew.step b5
        refine hK.out _ _ (cells8 C5p) (fun hHeld => ?_)
        clear hK K
        try simp only [Act.put, List.setIfInBounds_toArray, List.set_cons_zero, List.set_cons_succ]
        refine wpAnyH_ready (rs := [1, 8]) (by kernel_rfl) (by simp) ?_
        refine (AllReadyH.cons rfl (fun K hK => ?_) (AllReadyH.cons rfl (fun K hK => ?_) AllReadyH.nil))
        · skip
          go_simp
          refine hK.out _ _ (cells8 C5p) (fun hHeld => ?_)
          clear hK K
          try simp only [Act.put, List.setIfInBounds_toArray, List.set_cons_zero, List.set_cons_succ]
          refine wpAnyH_ready (rs := [8]) (by kernel_rfl) (by simp) ?_
          refine (AllReadyH.cons rfl (fun K hK => ?_) AllReadyH.nil)
          go_simp
          refine (lessN_calls _ _ _ hP hc).mono ?_
          rintro e w' ⟨rfl, rfl⟩
          refine hK.out _ _ (cells8 C5p) (fun hHeld => ?_)
          clear hK K
          try simp only [Act.put, List.setIfInBounds_toArray, List.set_cons_zero, List.set_cons_succ]
          refine wpAnyH_ready (rs := [9]) (by kernel_rfl) (by simp) ?_
          refine (AllReadyH.cons rfl (fun K hK => ?_) AllReadyH.nil)
          go_simp
          refine (joinN_calls _ _ _ hf hlt).mono ?_
          rintro e w' ⟨rfl, rfl⟩
          refine hK.out _ _ (cells8 C5p) (fun hHeld => ?_)
          clear hK K
          try simp only [Act.put, List.setIfInBounds_toArray, List.set_cons_zero, List.set_cons_succ]
          refine takeD (i := 10) (v := .pointer (some ⟨w.heap.size + 1, 1, none⟩)) (some 16) rfl rfl (by kernel_rfl) (by kernel_rfl) (by kernel_rfl) (fun _ _ _ h => h) (Or.inl ⟨by rfl, fun w' hw' => ?_⟩) hHeld ?_
          · first | (go_simp; done) | (obtain ⟨⟨s0, s1, s2, s3, s4⟩, s5, s6⟩ := hw'; go_simp; done) | (obtain ⟨s5, s6⟩ := hw'; go_simp; done) | (obtain ⟨s0, s1, s2, s3, s4, s5, s6, s7⟩ := hw'; go_simp)
          try simp only [Act.put, List.setIfInBounds_toArray, List.set_cons_zero, List.set_cons_succ]
          refine wpAnyH_ready (rs := [11]) (by kernel_rfl) (by simp) ?_
          refine AllReadyH.cons rfl (fun K hK => ?_) AllReadyH.nil
          go_simp
          refine hK.out _ _ (cells8 (C5p.kept (Below.heap_setCell _ _ _ _ (by show w.heap.size ≠ w.heap.size + 1; omega)))) (fun hHeld => ?_)
          clear hK K
          try simp only [Act.put, List.setIfInBounds_toArray, List.set_cons_zero, List.set_cons_succ]
          refine wpAnyH_done (by kernel_rfl) ?_ _
          have CV : Cells (w5.setCell ⟨w.heap.size + 1, 1, none⟩ (.int .u16 ((fM vs ||| (PP &&& (65535 - c)) : Nat) : Int))) (w.heap.size + 1) 0 [.int .u16 (tM vs : Int), .int .u16 ((fM vs ||| (PP &&& (65535 - c)) : Nat) : Int)] := bx_cells (bx_set (i := 1) HV5 (.int .u16 ((fM vs ||| (PP &&& (65535 - c)) : Nat) : Int)))
          have HB : (w5.setCell ⟨w.heap.size + 1, 1, none⟩ (.int .u16 ((fM vs ||| (PP &&& (65535 - c)) : Nat) : Int))).heap[w.heap.size + 1 + 1]? = some (.cells #[.int .u16 0, .int .u16 0] 75 (0, 0)) := (Below.heap_setCell _ _ _ _ (by show w.heap.size + 1 + 1 ≠ w.heap.size + 1; omega)).trans HB5
          have TW := T5.setCell (p := ⟨w.heap.size + 1, 1, none⟩) (by show _ ≤ w.heap.size + 1; omega) (.int .u16 ((fM vs ||| (PP &&& (65535 - c)) : Nat) : Int))
          clear u0 u1 v0 v1 y0 y1 y2 y3 y4 y5 y6 y7
          go_wp2
          refine wp_region_held_drew (S := fun w' => w'.cell? ⟨w.heap.size + 1, 0, none⟩ = some (.int .u16 (tM vs : Int)) ∧ w'.cell? ⟨w.heap.size + 1, 1, none⟩ = some (.int .u16 ((fM vs ||| (PP &&& (65535 - c)) : Nat) : Int))) (by kernel_rfl) (cells2 CV.drew) (fun hHeld => ?_)
          refine takeD (i := 0) (v := .agg #[.int .u16 (tM vs : Int), .int .u16 ((fM vs ||| (PP &&& (65535 - c)) : Nat) : Int)]) (some 17) rfl rfl (by kernel_rfl) (by kernel_rfl) (by kernel_rfl) (fun _ _ _ h => h) (Or.inl ⟨by rfl, fun w' hw' => ?_⟩) hHeld ?_
          · first | (go_simp; done) | (obtain ⟨⟨s0, s1, s2, s3, s4⟩, s5, s6⟩ := hw'; go_simp; done) | (obtain ⟨s5, s6⟩ := hw'; go_simp; done) | (obtain ⟨s0, s1, s2, s3, s4, s5, s6, s7⟩ := hw'; go_simp)
          try simp only [Act.put, List.setIfInBounds_toArray, List.set_cons_zero, List.set_cons_succ]
          refine takeD (i := 1) (v := .agg #[.int .u16 (tM vs : Int), .int .u16 ((fM vs ||| (PP &&& (65535 - c)) : Nat) : Int)]) (some 18) rfl rfl (by kernel_rfl) (by kernel_rfl) (by kernel_rfl) (fun _ _ _ h => h) (Or.inl ⟨by rfl, fun w' hw' => ?_⟩) hHeld ?_
          · first | (go_simp; done) | (obtain ⟨⟨s0, s1, s2, s3, s4⟩, s5, s6⟩ := hw'; go_simp; done) | (obtain ⟨s5, s6⟩ := hw'; go_simp; done) | (obtain ⟨s0, s1, s2, s3, s4, s5, s6, s7⟩ := hw'; go_simp)
          try simp only [Act.put, List.setIfInBounds_toArray, List.set_cons_zero, List.set_cons_succ]
          refine wpAnyH_ready (rs := [2]) (by kernel_rfl) (by simp) ?_
          refine AllReadyH.cons rfl (fun K hK => ?_) AllReadyH.nil
          go_simp
          refine (apart_calls _ _ _ hm hFl).mono ?_
          rintro e w6 ⟨he, b6⟩
          rw [HX.out.1] at he
          subst he
          have hB6 : w6.heap[w.heap.size + 1 + 1]? = some (.cells #[.int .u16 0, .int .u16 0] 75 (0, 0)) := (b6.block _ (block_lt HB)).trans HB
          obtain ⟨q0, q1⟩ := cells2 (bx_cells (cs := [.int .u16 0, .int .u16 0]) hB6)
          have z0 := frozen_of_row w6 (w.heap.size + 1 + 1) 0 _ _ hB6
          have z1 := frozen_of_row w6 (w.heap.size + 1 + 1) 1 _ _ hB6
          have C6v := CV.drew.later b6
          refine hK.out _ _ (cells2 C6v) (fun hHeld => ?_)
          clear hK K
          try simp only [Act.put, List.setIfInBounds_toArray, List.set_cons_zero, List.set_cons_succ]
          refine wpAnyH_ready (rs := [3]) (by kernel_rfl) (by simp) ?_
          refine AllReadyH.cons rfl (fun K hK => ?_) AllReadyH.nil
          go_simp
          have C7v := C6v.kept ((Below.heap_setCell (w6.setCell ⟨w.heap.size + 1 + 1, 0, none⟩ (.int .u16 (tM vs : Int))) ⟨w.heap.size + 1 + 1, 1, none⟩ (.int .u16 ((fM vs ||| (PP &&& (65535 - c)) : Nat) : Int)) (w.heap.size + 1) (by show _ ≠ w.heap.size + 1 + 1; omega)).trans (Below.heap_setCell w6 ⟨w.heap.size + 1 + 1, 0, none⟩ (.int .u16 (tM vs : Int)) (w.heap.size + 1) (by show _ ≠ w.heap.size + 1 + 1; omega)))
          obtain ⟨e0, e1⟩ := cells2 (bx_cells (cs := [.int .u16 (tM vs : Int), .int .u16 ((fM vs ||| (PP &&& (65535 - c)) : Nat) : Int)]) (bx_set (i := 1) (bx_set (i := 0) (cs := [.int .u16 0, .int .u16 0]) hB6 (.int .u16 (tM vs : Int))) (.int .u16 ((fM vs ||| (PP &&& (65535 - c)) : Nat) : Int))))
          have tE : Below w.heap.size w ((w6.setCell ⟨w.heap.size + 1 + 1, 0, none⟩ (.int .u16 (tM vs : Int))).setCell ⟨w.heap.size + 1 + 1, 1, none⟩ (.int .u16 ((fM vs ||| (PP &&& (65535 - c)) : Nat) : Int))) := ((TW.drew.step b6).setCell (by show _ ≤ w.heap.size + 1 + 1; omega) _).setCell (by show _ ≤ w.heap.size + 1 + 1; omega) _
          refine hK.out _ _ (cells2 C7v) (fun hHeld => ?_)
          clear hK K
          try simp only [Act.put, List.setIfInBounds_toArray, List.set_cons_zero, List.set_cons_succ]
          refine wpAnyH_ready (rs := [4]) (by kernel_rfl) (by simp) ?_
          refine AllReadyH.cons rfl (fun K hK => ?_) AllReadyH.nil
          go_simp
          refine hK.out _ _ (cells2 C7v) (fun hHeld => ?_)
          clear hK K
          try simp only [Act.put, List.setIfInBounds_toArray, List.set_cons_zero, List.set_cons_succ]
          refine wpAnyH_done (by kernel_rfl) ?_ _
          clear C7v C6v q0 q1
          go_wp2
          refine bodyPost_ret (v := .tuple #[.agg #[.int .u16 (tM vs : Int), .int .u16 ((fM vs ||| (PP &&& (65535 - c)) : Nat) : Int)], .bool (exAll q vs).isSome]) (by simp [results, Tryz.results94, go_sem, e0, e1]) rfl ⟨?_, tE⟩
          exact ⟨tM vs, fM vs ||| (PP &&& (65535 - c)), rfl, hm, hFl, HX.out.2⟩
        · skip
          go_simp
          refine (lessN_calls _ _ _ hP hc).mono ?_
          rintro e w' ⟨rfl, rfl⟩
          refine hK.out _ _ (cells8 C5p) (fun hHeld => ?_)
          clear hK K
          try simp only [Act.put, List.setIfInBounds_toArray, List.set_cons_zero, List.set_cons_succ]
          refine wpAnyH_ready (rs := [1]) (by kernel_rfl) (by simp) ?_
          refine (AllReadyH.cons rfl (fun K hK => ?_) AllReadyH.nil)
          go_simp
          refine hK.out _ _ (cells8 C5p) (fun hHeld => ?_)
          clear hK K
          try simp only [Act.put, List.setIfInBounds_toArray, List.set_cons_zero, List.set_cons_succ]
          refine wpAnyH_ready (rs := [9]) (by kernel_rfl) (by simp) ?_
          refine (AllReadyH.cons rfl (fun K hK => ?_) AllReadyH.nil)
          go_simp
          refine (joinN_calls _ _ _ hf hlt).mono ?_
          rintro e w' ⟨rfl, rfl⟩
          refine hK.out _ _ (cells8 C5p) (fun hHeld => ?_)
          clear hK K
          try simp only [Act.put, List.setIfInBounds_toArray, List.set_cons_zero, List.set_cons_succ]
          refine takeD (i := 10) (v := .pointer (some ⟨w.heap.size + 1, 1, none⟩)) (some 16) rfl rfl (by kernel_rfl) (by kernel_rfl) (by kernel_rfl) (fun _ _ _ h => h) (Or.inl ⟨by rfl, fun w' hw' => ?_⟩) hHeld ?_
          · first | (go_simp; done) | (obtain ⟨⟨s0, s1, s2, s3, s4⟩, s5, s6⟩ := hw'; go_simp; done) | (obtain ⟨s5, s6⟩ := hw'; go_simp; done) | (obtain ⟨s0, s1, s2, s3, s4, s5, s6, s7⟩ := hw'; go_simp)
          try simp only [Act.put, List.setIfInBounds_toArray, List.set_cons_zero, List.set_cons_succ]
          refine wpAnyH_ready (rs := [11]) (by kernel_rfl) (by simp) ?_
          refine AllReadyH.cons rfl (fun K hK => ?_) AllReadyH.nil
          go_simp
          refine hK.out _ _ (cells8 (C5p.kept (Below.heap_setCell _ _ _ _ (by show w.heap.size ≠ w.heap.size + 1; omega)))) (fun hHeld => ?_)
          clear hK K
          try simp only [Act.put, List.setIfInBounds_toArray, List.set_cons_zero, List.set_cons_succ]
          refine wpAnyH_done (by kernel_rfl) ?_ _
          have CV : Cells (w5.setCell ⟨w.heap.size + 1, 1, none⟩ (.int .u16 ((fM vs ||| (PP &&& (65535 - c)) : Nat) : Int))) (w.heap.size + 1) 0 [.int .u16 (tM vs : Int), .int .u16 ((fM vs ||| (PP &&& (65535 - c)) : Nat) : Int)] := bx_cells (bx_set (i := 1) HV5 (.int .u16 ((fM vs ||| (PP &&& (65535 - c)) : Nat) : Int)))
          have HB : (w5.setCell ⟨w.heap.size + 1, 1, none⟩ (.int .u16 ((fM vs ||| (PP &&& (65535 - c)) : Nat) : Int))).heap[w.heap.size + 1 + 1]? = some (.cells #[.int .u16 0, .int .u16 0] 75 (0, 0)) := (Below.heap_setCell _ _ _ _ (by show w.heap.size + 1 + 1 ≠ w.heap.size + 1; omega)).trans HB5
          have TW := T5.setCell (p := ⟨w.heap.size + 1, 1, none⟩) (by show _ ≤ w.heap.size + 1; omega) (.int .u16 ((fM vs ||| (PP &&& (65535 - c)) : Nat) : Int))
          clear u0 u1 v0 v1 y0 y1 y2 y3 y4 y5 y6 y7
          go_wp2
          refine wp_region_held_drew (S := fun w' => w'.cell? ⟨w.heap.size + 1, 0, none⟩ = some (.int .u16 (tM vs : Int)) ∧ w'.cell? ⟨w.heap.size + 1, 1, none⟩ = some (.int .u16 ((fM vs ||| (PP &&& (65535 - c)) : Nat) : Int))) (by kernel_rfl) (cells2 CV.drew) (fun hHeld => ?_)
          refine takeD (i := 0) (v := .agg #[.int .u16 (tM vs : Int), .int .u16 ((fM vs ||| (PP &&& (65535 - c)) : Nat) : Int)]) (some 17) rfl rfl (by kernel_rfl) (by kernel_rfl) (by kernel_rfl) (fun _ _ _ h => h) (Or.inl ⟨by rfl, fun w' hw' => ?_⟩) hHeld ?_
          · first | (go_simp; done) | (obtain ⟨⟨s0, s1, s2, s3, s4⟩, s5, s6⟩ := hw'; go_simp; done) | (obtain ⟨s5, s6⟩ := hw'; go_simp; done) | (obtain ⟨s0, s1, s2, s3, s4, s5, s6, s7⟩ := hw'; go_simp)
          try simp only [Act.put, List.setIfInBounds_toArray, List.set_cons_zero, List.set_cons_succ]
          refine takeD (i := 1) (v := .agg #[.int .u16 (tM vs : Int), .int .u16 ((fM vs ||| (PP &&& (65535 - c)) : Nat) : Int)]) (some 18) rfl rfl (by kernel_rfl) (by kernel_rfl) (by kernel_rfl) (fun _ _ _ h => h) (Or.inl ⟨by rfl, fun w' hw' => ?_⟩) hHeld ?_
          · first | (go_simp; done) | (obtain ⟨⟨s0, s1, s2, s3, s4⟩, s5, s6⟩ := hw'; go_simp; done) | (obtain ⟨s5, s6⟩ := hw'; go_simp; done) | (obtain ⟨s0, s1, s2, s3, s4, s5, s6, s7⟩ := hw'; go_simp)
          try simp only [Act.put, List.setIfInBounds_toArray, List.set_cons_zero, List.set_cons_succ]
          refine wpAnyH_ready (rs := [2]) (by kernel_rfl) (by simp) ?_
          refine AllReadyH.cons rfl (fun K hK => ?_) AllReadyH.nil
          go_simp
          refine (apart_calls _ _ _ hm hFl).mono ?_
          rintro e w6 ⟨he, b6⟩
          rw [HX.out.1] at he
          subst he
          have hB6 : w6.heap[w.heap.size + 1 + 1]? = some (.cells #[.int .u16 0, .int .u16 0] 75 (0, 0)) := (b6.block _ (block_lt HB)).trans HB
          obtain ⟨q0, q1⟩ := cells2 (bx_cells (cs := [.int .u16 0, .int .u16 0]) hB6)
          have z0 := frozen_of_row w6 (w.heap.size + 1 + 1) 0 _ _ hB6
          have z1 := frozen_of_row w6 (w.heap.size + 1 + 1) 1 _ _ hB6
          have C6v := CV.drew.later b6
          refine hK.out _ _ (cells2 C6v) (fun hHeld => ?_)
          clear hK K
          try simp only [Act.put, List.setIfInBounds_toArray, List.set_cons_zero, List.set_cons_succ]
          refine wpAnyH_ready (rs := [3]) (by kernel_rfl) (by simp) ?_
          refine AllReadyH.cons rfl (fun K hK => ?_) AllReadyH.nil
          go_simp
          have C7v := C6v.kept ((Below.heap_setCell (w6.setCell ⟨w.heap.size + 1 + 1, 0, none⟩ (.int .u16 (tM vs : Int))) ⟨w.heap.size + 1 + 1, 1, none⟩ (.int .u16 ((fM vs ||| (PP &&& (65535 - c)) : Nat) : Int)) (w.heap.size + 1) (by show _ ≠ w.heap.size + 1 + 1; omega)).trans (Below.heap_setCell w6 ⟨w.heap.size + 1 + 1, 0, none⟩ (.int .u16 (tM vs : Int)) (w.heap.size + 1) (by show _ ≠ w.heap.size + 1 + 1; omega)))
          obtain ⟨e0, e1⟩ := cells2 (bx_cells (cs := [.int .u16 (tM vs : Int), .int .u16 ((fM vs ||| (PP &&& (65535 - c)) : Nat) : Int)]) (bx_set (i := 1) (bx_set (i := 0) (cs := [.int .u16 0, .int .u16 0]) hB6 (.int .u16 (tM vs : Int))) (.int .u16 ((fM vs ||| (PP &&& (65535 - c)) : Nat) : Int))))
          have tE : Below w.heap.size w ((w6.setCell ⟨w.heap.size + 1 + 1, 0, none⟩ (.int .u16 (tM vs : Int))).setCell ⟨w.heap.size + 1 + 1, 1, none⟩ (.int .u16 ((fM vs ||| (PP &&& (65535 - c)) : Nat) : Int))) := ((TW.drew.step b6).setCell (by show _ ≤ w.heap.size + 1 + 1; omega) _).setCell (by show _ ≤ w.heap.size + 1 + 1; omega) _
          refine hK.out _ _ (cells2 C7v) (fun hHeld => ?_)
          clear hK K
          try simp only [Act.put, List.setIfInBounds_toArray, List.set_cons_zero, List.set_cons_succ]
          refine wpAnyH_ready (rs := [4]) (by kernel_rfl) (by simp) ?_
          refine AllReadyH.cons rfl (fun K hK => ?_) AllReadyH.nil
          go_simp
          refine hK.out _ _ (cells2 C7v) (fun hHeld => ?_)
          clear hK K
          try simp only [Act.put, List.setIfInBounds_toArray, List.set_cons_zero, List.set_cons_succ]
          refine wpAnyH_done (by kernel_rfl) ?_ _
          clear C7v C6v q0 q1
          go_wp2
          refine bodyPost_ret (v := .tuple #[.agg #[.int .u16 (tM vs : Int), .int .u16 ((fM vs ||| (PP &&& (65535 - c)) : Nat) : Int)], .bool (exAll q vs).isSome]) (by simp [results, Tryz.results94, go_sem, e0, e1]) rfl ⟨?_, tE⟩
          exact ⟨tM vs, fM vs ||| (PP &&& (65535 - c)), rfl, hm, hFl, HX.out.2⟩
  · skip
    go_simp
    refine hK.out _ _ (cells8 CXp.drew) (fun hHeld => ?_)
    clear hK K
    try simp only [Act.put, List.setIfInBounds_toArray, List.set_cons_zero, List.set_cons_succ]
    refine wpAnyH_ready (rs := [1, 4]) (by kernel_rfl) (by simp) ?_
    refine (AllReadyH.cons rfl (fun K hK => ?_) (AllReadyH.cons rfl (fun K hK => ?_) AllReadyH.nil))
    · skip
      go_simp
      refine hK.out _ _ (cells8 CXp.drew) (fun hHeld => ?_)
      clear hK K
      try simp only [Act.put, List.setIfInBounds_toArray, List.set_cons_zero, List.set_cons_succ]
      refine wpAnyH_ready (rs := [4]) (by kernel_rfl) (by simp) ?_
      refine (AllReadyH.cons rfl (fun K hK => ?_) AllReadyH.nil)
      go_simp
      refine (HAT _).out.mono ?_
      rintro e w' ⟨rfl, rfl⟩
      refine hK.out _ _ (cells8 CXp.drew) (fun hHeld => ?_)
      clear hK K
      try simp only [Act.put, List.setIfInBounds_toArray, List.set_cons_zero, List.set_cons_succ]
      refine wpAnyH_ready (rs := [7]) (by kernel_rfl) (by simp) ?_
      refine (AllReadyH.cons rfl (fun K hK => ?_) AllReadyH.nil)
      go_simp
      refine (mayCome_calls vs (Rd.mono TC.drew hR) hok).mono ?_
      rintro e w5 ⟨c, rfl, ⟨hc, hcm⟩, b5⟩
      have C5p := CXp.drew.later b5
      have HV5 : w5.heap[w.heap.size + 1]? = some (.cells ([.int .u16 (tM vs : Int), .int .u16 (fM vs : Int)] : List Value).toArray 75 (0, 0)) := (b5.block _ (block_lt hVB)).trans hVB
      have HB5 : w5.heap[w.heap.size + 1 + 1]? = some (.cells #[.int .u16 0, .int .u16 0] 75 (0, 0)) := (b5.block _ (block_lt hB2)).trans hB2
      obtain ⟨u0, u1⟩ := cells2 (bx_cells HV5)
      have yz0 := frozen_of_row w5 (w.heap.size + 1) 0 _ _ HV5
      have yz1 := frozen_of_row w5 (w.heap.size + 1) 1 _ _ HV5
      have hlt : PP &&& (65535 - c) < 4096 := Nat.lt_of_le_of_lt Nat.and_le_left hP
      have hFl : fM vs ||| (PP &&& (65535 - c)) < 4096 := Nat.or_lt_two_pow (n := 12) hf hlt
      have HX : Hid (apartB (tM vs) (fM vs ||| (PP &&& (65535 - c))) = (exAll q vs).isSome ∧ ∀ us, exAll q vs = some us → tM vs = tM us ∧ fM vs ||| (PP &&& (65535 - c)) = fM us) := HPE.out ▸ ex_all hn hv hc hcm
      have T5 := TC.drew.step b5
      refine hK.out _ _ (cells8 C5p) (fun hHeld => ?_)
      clear hK K
      try simp only [Act.put, List.setIfInBounds_toArray, List.set_cons_zero, List.set_cons_succ]
      refine wpAnyH_ready (rs := [8]) (by kernel_rfl) (by simp) ?_
      refine (AllReadyH.cons rfl (fun K hK => ?_) AllReadyH.nil)
      go_simp
      refine (lessN_calls _ _ _ hP hc).mono ?_
      rintro e w' ⟨rfl, rfl⟩
      refine hK.out _ _ (cells8 C5p) (fun hHeld => ?_)
      clear hK K
      try simp only [Act.put, List.setIfInBounds_toArray, List.set_cons_zero, List.set_cons_succ]
      refine wpAnyH_ready (rs := [9]) (by kernel_rfl) (by simp) ?_
      refine (AllReadyH.cons rfl (fun K hK => ?_) AllReadyH.nil)
      go_simp
      refine (joinN_calls _ _ _ hf hlt).mono ?_
      rintro e w' ⟨rfl, rfl⟩
      refine hK.out _ _ (cells8 C5p) (fun hHeld => ?_)
      clear hK K
      try simp only [Act.put, List.setIfInBounds_toArray, List.set_cons_zero, List.set_cons_succ]
      refine takeD (i := 10) (v := .pointer (some ⟨w.heap.size + 1, 1, none⟩)) (some 16) rfl rfl (by kernel_rfl) (by kernel_rfl) (by kernel_rfl) (fun _ _ _ h => h) (Or.inl ⟨by rfl, fun w' hw' => ?_⟩) hHeld ?_
      · first | (go_simp; done) | (obtain ⟨⟨s0, s1, s2, s3, s4⟩, s5, s6⟩ := hw'; go_simp; done) | (obtain ⟨s5, s6⟩ := hw'; go_simp; done) | (obtain ⟨s0, s1, s2, s3, s4, s5, s6, s7⟩ := hw'; go_simp)
      try simp only [Act.put, List.setIfInBounds_toArray, List.set_cons_zero, List.set_cons_succ]
      refine wpAnyH_ready (rs := [11]) (by kernel_rfl) (by simp) ?_
      refine AllReadyH.cons rfl (fun K hK => ?_) AllReadyH.nil
      go_simp
      refine hK.out _ _ (cells8 (C5p.kept (Below.heap_setCell _ _ _ _ (by show w.heap.size ≠ w.heap.size + 1; omega)))) (fun hHeld => ?_)
      clear hK K
      try simp only [Act.put, List.setIfInBounds_toArray, List.set_cons_zero, List.set_cons_succ]
      refine wpAnyH_done (by kernel_rfl) ?_ _
      have CV : Cells (w5.setCell ⟨w.heap.size + 1, 1, none⟩ (.int .u16 ((fM vs ||| (PP &&& (65535 - c)) : Nat) : Int))) (w.heap.size + 1) 0 [.int .u16 (tM vs : Int), .int .u16 ((fM vs ||| (PP &&& (65535 - c)) : Nat) : Int)] := bx_cells (bx_set (i := 1) HV5 (.int .u16 ((fM vs ||| (PP &&& (65535 - c)) : Nat) : Int)))
      have HB : (w5.setCell ⟨w.heap.size + 1, 1, none⟩ (.int .u16 ((fM vs ||| (PP &&& (65535 - c)) : Nat) : Int))).heap[w.heap.size + 1 + 1]? = some (.cells #[.int .u16 0, .int .u16 0] 75 (0, 0)) := (Below.heap_setCell _ _ _ _ (by show w.heap.size + 1 + 1 ≠ w.heap.size + 1; omega)).trans HB5
      have TW := T5.setCell (p := ⟨w.heap.size + 1, 1, none⟩) (by show _ ≤ w.heap.size + 1; omega) (.int .u16 ((fM vs ||| (PP &&& (65535 - c)) : Nat) : Int))
      clear u0 u1 v0 v1 y0 y1 y2 y3 y4 y5 y6 y7
      go_wp2
      refine wp_region_held_drew (S := fun w' => w'.cell? ⟨w.heap.size + 1, 0, none⟩ = some (.int .u16 (tM vs : Int)) ∧ w'.cell? ⟨w.heap.size + 1, 1, none⟩ = some (.int .u16 ((fM vs ||| (PP &&& (65535 - c)) : Nat) : Int))) (by kernel_rfl) (cells2 CV.drew) (fun hHeld => ?_)
      refine takeD (i := 0) (v := .agg #[.int .u16 (tM vs : Int), .int .u16 ((fM vs ||| (PP &&& (65535 - c)) : Nat) : Int)]) (some 17) rfl rfl (by kernel_rfl) (by kernel_rfl) (by kernel_rfl) (fun _ _ _ h => h) (Or.inl ⟨by rfl, fun w' hw' => ?_⟩) hHeld ?_
      · first | (go_simp; done) | (obtain ⟨⟨s0, s1, s2, s3, s4⟩, s5, s6⟩ := hw'; go_simp; done) | (obtain ⟨s5, s6⟩ := hw'; go_simp; done) | (obtain ⟨s0, s1, s2, s3, s4, s5, s6, s7⟩ := hw'; go_simp)
      try simp only [Act.put, List.setIfInBounds_toArray, List.set_cons_zero, List.set_cons_succ]
      refine takeD (i := 1) (v := .agg #[.int .u16 (tM vs : Int), .int .u16 ((fM vs ||| (PP &&& (65535 - c)) : Nat) : Int)]) (some 18) rfl rfl (by kernel_rfl) (by kernel_rfl) (by kernel_rfl) (fun _ _ _ h => h) (Or.inl ⟨by rfl, fun w' hw' => ?_⟩) hHeld ?_
      · first | (go_simp; done) | (obtain ⟨⟨s0, s1, s2, s3, s4⟩, s5, s6⟩ := hw'; go_simp; done) | (obtain ⟨s5, s6⟩ := hw'; go_simp; done) | (obtain ⟨s0, s1, s2, s3, s4, s5, s6, s7⟩ := hw'; go_simp)
      try simp only [Act.put, List.setIfInBounds_toArray, List.set_cons_zero, List.set_cons_succ]
      refine wpAnyH_ready (rs := [2]) (by kernel_rfl) (by simp) ?_
      refine AllReadyH.cons rfl (fun K hK => ?_) AllReadyH.nil
      go_simp
      refine (apart_calls _ _ _ hm hFl).mono ?_
      rintro e w6 ⟨he, b6⟩
      rw [HX.out.1] at he
      subst he
      have hB6 : w6.heap[w.heap.size + 1 + 1]? = some (.cells #[.int .u16 0, .int .u16 0] 75 (0, 0)) := (b6.block _ (block_lt HB)).trans HB
      obtain ⟨q0, q1⟩ := cells2 (bx_cells (cs := [.int .u16 0, .int .u16 0]) hB6)
      have z0 := frozen_of_row w6 (w.heap.size + 1 + 1) 0 _ _ hB6
      have z1 := frozen_of_row w6 (w.heap.size + 1 + 1) 1 _ _ hB6
      have C6v := CV.drew.later b6
      refine hK.out _ _ (cells2 C6v) (fun hHeld => ?_)
      clear hK K
      try simp only [Act.put, List.setIfInBounds_toArray, List.set_cons_zero, List.set_cons_succ]
      refine wpAnyH_ready (rs := [3]) (by kernel_rfl) (by simp) ?_
      refine AllReadyH.cons rfl (fun K hK => ?_) AllReadyH.nil
      go_simp
      have C7v := C6v.kept ((Below.heap_setCell (w6.setCell ⟨w.heap.size + 1 + 1, 0, none⟩ (.int .u16 (tM vs : Int))) ⟨w.heap.size + 1 + 1, 1, none⟩ (.int .u16 ((fM vs ||| (PP &&& (65535 - c)) : Nat) : Int)) (w.heap.size + 1) (by show _ ≠ w.heap.size + 1 + 1; omega)).trans (Below.heap_setCell w6 ⟨w.heap.size + 1 + 1, 0, none⟩ (.int .u16 (tM vs : Int)) (w.heap.size + 1) (by show _ ≠ w.heap.size + 1 + 1; omega)))
      obtain ⟨e0, e1⟩ := cells2 (bx_cells (cs := [.int .u16 (tM vs : Int), .int .u16 ((fM vs ||| (PP &&& (65535 - c)) : Nat) : Int)]) (bx_set (i := 1) (bx_set (i := 0) (cs := [.int .u16 0, .int .u16 0]) hB6 (.int .u16 (tM vs : Int))) (.int .u16 ((fM vs ||| (PP &&& (65535 - c)) : Nat) : Int))))
      have tE : Below w.heap.size w ((w6.setCell ⟨w.heap.size + 1 + 1, 0, none⟩ (.int .u16 (tM vs : Int))).setCell ⟨w.heap.size + 1 + 1, 1, none⟩ (.int .u16 ((fM vs ||| (PP &&& (65535 - c)) : Nat) : Int))) := ((TW.drew.step b6).setCell (by show _ ≤ w.heap.size + 1 + 1; omega) _).setCell (by show _ ≤ w.heap.size + 1 + 1; omega) _
      refine hK.out _ _ (cells2 C7v) (fun hHeld => ?_)
      clear hK K
      try simp only [Act.put, List.setIfInBounds_toArray, List.set_cons_zero, List.set_cons_succ]
      refine wpAnyH_ready (rs := [4]) (by kernel_rfl) (by simp) ?_
      refine AllReadyH.cons rfl (fun K hK => ?_) AllReadyH.nil
      go_simp
      refine hK.out _ _ (cells2 C7v) (fun hHeld => ?_)
      clear hK K
      try simp only [Act.put, List.setIfInBounds_toArray, List.set_cons_zero, List.set_cons_succ]
      refine wpAnyH_done (by kernel_rfl) ?_ _
      clear C7v C6v q0 q1
      go_wp2
      refine bodyPost_ret (v := .tuple #[.agg #[.int .u16 (tM vs : Int), .int .u16 ((fM vs ||| (PP &&& (65535 - c)) : Nat) : Int)], .bool (exAll q vs).isSome]) (by simp [results, Tryz.results94, go_sem, e0, e1]) rfl ⟨?_, tE⟩
      exact ⟨tM vs, fM vs ||| (PP &&& (65535 - c)), rfl, hm, hFl, HX.out.2⟩
    · skip
      go_simp
      refine (HAT _).out.mono ?_
      rintro e w' ⟨rfl, rfl⟩
      refine hK.out _ _ (cells8 CXp.drew) (fun hHeld => ?_)
      clear hK K
      try simp only [Act.put, List.setIfInBounds_toArray, List.set_cons_zero, List.set_cons_succ]
      refine wpAnyH_ready (rs := [1, 7]) (by kernel_rfl) (by simp) ?_
      refine (AllReadyH.cons rfl (fun K hK => ?_) (AllReadyH.cons rfl (fun K hK => ?_) AllReadyH.nil))
      · skip
        go_simp
        refine hK.out _ _ (cells8 CXp.drew) (fun hHeld => ?_)
        clear hK K
        try simp only [Act.put, List.setIfInBounds_toArray, List.set_cons_zero, List.set_cons_succ]
        refine wpAnyH_ready (rs := [7]) (by kernel_rfl) (by simp) ?_
        refine (AllReadyH.cons rfl (fun K hK => ?_) AllReadyH.nil)
        go_simp
        refine (mayCome_calls vs (Rd.mono TC.drew hR) hok).mono ?_
        rintro e w5 ⟨c, rfl, ⟨hc, hcm⟩, b5⟩
        have C5p := CXp.drew.later b5
        have HV5 : w5.heap[w.heap.size + 1]? = some (.cells ([.int .u16 (tM vs : Int), .int .u16 (fM vs : Int)] : List Value).toArray 75 (0, 0)) := (b5.block _ (block_lt hVB)).trans hVB
        have HB5 : w5.heap[w.heap.size + 1 + 1]? = some (.cells #[.int .u16 0, .int .u16 0] 75 (0, 0)) := (b5.block _ (block_lt hB2)).trans hB2
        obtain ⟨u0, u1⟩ := cells2 (bx_cells HV5)
        have yz0 := frozen_of_row w5 (w.heap.size + 1) 0 _ _ HV5
        have yz1 := frozen_of_row w5 (w.heap.size + 1) 1 _ _ HV5
        have hlt : PP &&& (65535 - c) < 4096 := Nat.lt_of_le_of_lt Nat.and_le_left hP
        have hFl : fM vs ||| (PP &&& (65535 - c)) < 4096 := Nat.or_lt_two_pow (n := 12) hf hlt
        have HX : Hid (apartB (tM vs) (fM vs ||| (PP &&& (65535 - c))) = (exAll q vs).isSome ∧ ∀ us, exAll q vs = some us → tM vs = tM us ∧ fM vs ||| (PP &&& (65535 - c)) = fM us) := HPE.out ▸ ex_all hn hv hc hcm
        have T5 := TC.drew.step b5
        refine hK.out _ _ (cells8 C5p) (fun hHeld => ?_)
        clear hK K
        try simp only [Act.put, List.setIfInBounds_toArray, List.set_cons_zero, List.set_cons_succ]
        refine wpAnyH_ready (rs := [8]) (by kernel_rfl) (by simp) ?_
        refine (AllReadyH.cons rfl (fun K hK => ?_) AllReadyH.nil)
        go_simp
        refine (lessN_calls _ _ _ hP hc).mono ?_
        rintro e w' ⟨rfl, rfl⟩
        refine hK.out _ _ (cells8 C5p) (fun hHeld => ?_)
        clear hK K
        try simp only [Act.put, List.setIfInBounds_toArray, List.set_cons_zero, List.set_cons_succ]
        refine wpAnyH_ready (rs := [9]) (by kernel_rfl) (by simp) ?_
        refine (AllReadyH.cons rfl (fun K hK => ?_) AllReadyH.nil)
        go_simp
        refine (joinN_calls _ _ _ hf hlt).mono ?_
        rintro e w' ⟨rfl, rfl⟩
        refine hK.out _ _ (cells8 C5p) (fun hHeld => ?_)
        clear hK K
        try simp only [Act.put, List.setIfInBounds_toArray, List.set_cons_zero, List.set_cons_succ]
        refine takeD (i := 10) (v := .pointer (some ⟨w.heap.size + 1, 1, none⟩)) (some 16) rfl rfl (by kernel_rfl) (by kernel_rfl) (by kernel_rfl) (fun _ _ _ h => h) (Or.inl ⟨by rfl, fun w' hw' => ?_⟩) hHeld ?_
        · first | (go_simp; done) | (obtain ⟨⟨s0, s1, s2, s3, s4⟩, s5, s6⟩ := hw'; go_simp; done) | (obtain ⟨s5, s6⟩ := hw'; go_simp; done) | (obtain ⟨s0, s1, s2, s3, s4, s5, s6, s7⟩ := hw'; go_simp)
        try simp only [Act.put, List.setIfInBounds_toArray, List.set_cons_zero, List.set_cons_succ]
        refine wpAnyH_ready (rs := [11]) (by kernel_rfl) (by simp) ?_
        refine AllReadyH.cons rfl (fun K hK => ?_) AllReadyH.nil
        go_simp
        refine hK.out _ _ (cells8 (C5p.kept (Below.heap_setCell _ _ _ _ (by show w.heap.size ≠ w.heap.size + 1; omega)))) (fun hHeld => ?_)
        clear hK K
        try simp only [Act.put, List.setIfInBounds_toArray, List.set_cons_zero, List.set_cons_succ]
        refine wpAnyH_done (by kernel_rfl) ?_ _
        have CV : Cells (w5.setCell ⟨w.heap.size + 1, 1, none⟩ (.int .u16 ((fM vs ||| (PP &&& (65535 - c)) : Nat) : Int))) (w.heap.size + 1) 0 [.int .u16 (tM vs : Int), .int .u16 ((fM vs ||| (PP &&& (65535 - c)) : Nat) : Int)] := bx_cells (bx_set (i := 1) HV5 (.int .u16 ((fM vs ||| (PP &&& (65535 - c)) : Nat) : Int)))
        have HB : (w5.setCell ⟨w.heap.size + 1, 1, none⟩ (.int .u16 ((fM vs ||| (PP &&& (65535 - c)) : Nat) : Int))).heap[w.heap.size + 1 + 1]? = some (.cells #[.int .u16 0, .int .u16 0] 75 (0, 0)) := (Below.heap_setCell _ _ _ _ (by show w.heap.size + 1 + 1 ≠ w.heap.size + 1; omega)).trans HB5
        have TW := T5.setCell (p := ⟨w.heap.size + 1, 1, none⟩) (by show _ ≤ w.heap.size + 1; omega) (.int .u16 ((fM vs ||| (PP &&& (65535 - c)) : Nat) : Int))
        clear u0 u1 v0 v1 y0 y1 y2 y3 y4 y5 y6 y7
        go_wp2
        refine wp_region_held_drew (S := fun w' => w'.cell? ⟨w.heap.size + 1, 0, none⟩ = some (.int .u16 (tM vs : Int)) ∧ w'.cell? ⟨w.heap.size + 1, 1, none⟩ = some (.int .u16 ((fM vs ||| (PP &&& (65535 - c)) : Nat) : Int))) (by kernel_rfl) (cells2 CV.drew) (fun hHeld => ?_)
        refine takeD (i := 0) (v := .agg #[.int .u16 (tM vs : Int), .int .u16 ((fM vs ||| (PP &&& (65535 - c)) : Nat) : Int)]) (some 17) rfl rfl (by kernel_rfl) (by kernel_rfl) (by kernel_rfl) (fun _ _ _ h => h) (Or.inl ⟨by rfl, fun w' hw' => ?_⟩) hHeld ?_
        · first | (go_simp; done) | (obtain ⟨⟨s0, s1, s2, s3, s4⟩, s5, s6⟩ := hw'; go_simp; done) | (obtain ⟨s5, s6⟩ := hw'; go_simp; done) | (obtain ⟨s0, s1, s2, s3, s4, s5, s6, s7⟩ := hw'; go_simp)
        try simp only [Act.put, List.setIfInBounds_toArray, List.set_cons_zero, List.set_cons_succ]
        refine takeD (i := 1) (v := .agg #[.int .u16 (tM vs : Int), .int .u16 ((fM vs ||| (PP &&& (65535 - c)) : Nat) : Int)]) (some 18) rfl rfl (by kernel_rfl) (by kernel_rfl) (by kernel_rfl) (fun _ _ _ h => h) (Or.inl ⟨by rfl, fun w' hw' => ?_⟩) hHeld ?_
        · first | (go_simp; done) | (obtain ⟨⟨s0, s1, s2, s3, s4⟩, s5, s6⟩ := hw'; go_simp; done) | (obtain ⟨s5, s6⟩ := hw'; go_simp; done) | (obtain ⟨s0, s1, s2, s3, s4, s5, s6, s7⟩ := hw'; go_simp)
        try simp only [Act.put, List.setIfInBounds_toArray, List.set_cons_zero, List.set_cons_succ]
        refine wpAnyH_ready (rs := [2]) (by kernel_rfl) (by simp) ?_
        refine AllReadyH.cons rfl (fun K hK => ?_) AllReadyH.nil
        go_simp
        refine (apart_calls _ _ _ hm hFl).mono ?_
        rintro e w6 ⟨he, b6⟩
        rw [HX.out.1] at he
        subst he
        have hB6 : w6.heap[w.heap.size + 1 + 1]? = some (.cells #[.int .u16 0, .int .u16 0] 75 (0, 0)) := (b6.block _ (block_lt HB)).trans HB
        obtain ⟨q0, q1⟩ := cells2 (bx_cells (cs := [.int .u16 0, .int .u16 0]) hB6)
        have z0 := frozen_of_row w6 (w.heap.size + 1 + 1) 0 _ _ hB6
        have z1 := frozen_of_row w6 (w.heap.size + 1 + 1) 1 _ _ hB6
        have C6v := CV.drew.later b6
        refine hK.out _ _ (cells2 C6v) (fun hHeld => ?_)
        clear hK K
        try simp only [Act.put, List.setIfInBounds_toArray, List.set_cons_zero, List.set_cons_succ]
        refine wpAnyH_ready (rs := [3]) (by kernel_rfl) (by simp) ?_
        refine AllReadyH.cons rfl (fun K hK => ?_) AllReadyH.nil
        go_simp
        have C7v := C6v.kept ((Below.heap_setCell (w6.setCell ⟨w.heap.size + 1 + 1, 0, none⟩ (.int .u16 (tM vs : Int))) ⟨w.heap.size + 1 + 1, 1, none⟩ (.int .u16 ((fM vs ||| (PP &&& (65535 - c)) : Nat) : Int)) (w.heap.size + 1) (by show _ ≠ w.heap.size + 1 + 1; omega)).trans (Below.heap_setCell w6 ⟨w.heap.size + 1 + 1, 0, none⟩ (.int .u16 (tM vs : Int)) (w.heap.size + 1) (by show _ ≠ w.heap.size + 1 + 1; omega)))
        obtain ⟨e0, e1⟩ := cells2 (bx_cells (cs := [.int .u16 (tM vs : Int), .int .u16 ((fM vs ||| (PP &&& (65535 - c)) : Nat) : Int)]) (bx_set (i := 1) (bx_set (i := 0) (cs := [.int .u16 0, .int .u16 0]) hB6 (.int .u16 (tM vs : Int))) (.int .u16 ((fM vs ||| (PP &&& (65535 - c)) : Nat) : Int))))
        have tE : Below w.heap.size w ((w6.setCell ⟨w.heap.size + 1 + 1, 0, none⟩ (.int .u16 (tM vs : Int))).setCell ⟨w.heap.size + 1 + 1, 1, none⟩ (.int .u16 ((fM vs ||| (PP &&& (65535 - c)) : Nat) : Int))) := ((TW.drew.step b6).setCell (by show _ ≤ w.heap.size + 1 + 1; omega) _).setCell (by show _ ≤ w.heap.size + 1 + 1; omega) _
        refine hK.out _ _ (cells2 C7v) (fun hHeld => ?_)
        clear hK K
        try simp only [Act.put, List.setIfInBounds_toArray, List.set_cons_zero, List.set_cons_succ]
        refine wpAnyH_ready (rs := [4]) (by kernel_rfl) (by simp) ?_
        refine AllReadyH.cons rfl (fun K hK => ?_) AllReadyH.nil
        go_simp
        refine hK.out _ _ (cells2 C7v) (fun hHeld => ?_)
        clear hK K
        try simp only [Act.put, List.setIfInBounds_toArray, List.set_cons_zero, List.set_cons_succ]
        refine wpAnyH_done (by kernel_rfl) ?_ _
        clear C7v C6v q0 q1
        go_wp2
        refine bodyPost_ret (v := .tuple #[.agg #[.int .u16 (tM vs : Int), .int .u16 ((fM vs ||| (PP &&& (65535 - c)) : Nat) : Int)], .bool (exAll q vs).isSome]) (by simp [results, Tryz.results94, go_sem, e0, e1]) rfl ⟨?_, tE⟩
        exact ⟨tM vs, fM vs ||| (PP &&& (65535 - c)), rfl, hm, hFl, HX.out.2⟩
      · skip
        go_simp
        refine (mayCome_calls vs (Rd.mono TC.drew hR) hok).mono ?_
        rintro e w5 ⟨c, rfl, ⟨hc, hcm⟩, b5⟩
        have C5p := CXp.drew.later b5
        have HV5 : w5.heap[w.heap.size + 1]? = some (.cells ([.int .u16 (tM vs : Int), .int .u16 (fM vs : Int)] : List Value).toArray 75 (0, 0)) := (b5.block _ (block_lt hVB)).trans hVB
        have HB5 : w5.heap[w.heap.size + 1 + 1]? = some (.cells #[.int .u16 0, .int .u16 0] 75 (0, 0)) := (b5.block _ (block_lt hB2)).trans hB2
        obtain ⟨u0, u1⟩ := cells2 (bx_cells HV5)
        have yz0 := frozen_of_row w5 (w.heap.size + 1) 0 _ _ HV5
        have yz1 := frozen_of_row w5 (w.heap.size + 1) 1 _ _ HV5
        have hlt : PP &&& (65535 - c) < 4096 := Nat.lt_of_le_of_lt Nat.and_le_left hP
        have hFl : fM vs ||| (PP &&& (65535 - c)) < 4096 := Nat.or_lt_two_pow (n := 12) hf hlt
        have HX : Hid (apartB (tM vs) (fM vs ||| (PP &&& (65535 - c))) = (exAll q vs).isSome ∧ ∀ us, exAll q vs = some us → tM vs = tM us ∧ fM vs ||| (PP &&& (65535 - c)) = fM us) := HPE.out ▸ ex_all hn hv hc hcm
        have T5 := TC.drew.step b5
        refine hK.out _ _ (cells8 C5p) (fun hHeld => ?_)
        clear hK K
        try simp only [Act.put, List.setIfInBounds_toArray, List.set_cons_zero, List.set_cons_succ]
        refine wpAnyH_ready (rs := [1, 8]) (by kernel_rfl) (by simp) ?_
        refine (AllReadyH.cons rfl (fun K hK => ?_) (AllReadyH.cons rfl (fun K hK => ?_) AllReadyH.nil))
        · skip
          go_simp
          refine hK.out _ _ (cells8 C5p) (fun hHeld => ?_)
          clear hK K
          try simp only [Act.put, List.setIfInBounds_toArray, List.set_cons_zero, List.set_cons_succ]
          refine wpAnyH_ready (rs := [8]) (by kernel_rfl) (by simp) ?_
          refine (AllReadyH.cons rfl (fun K hK => ?_) AllReadyH.nil)
          go_simp
          refine (lessN_calls _ _ _ hP hc).mono ?_
          rintro e w' ⟨rfl, rfl⟩
          refine hK.out _ _ (cells8 C5p) (fun hHeld => ?_)
          clear hK K
          try simp only [Act.put, List.setIfInBounds_toArray, List.set_cons_zero, List.set_cons_succ]
          refine wpAnyH_ready (rs := [9]) (by kernel_rfl) (by simp) ?_
          refine (AllReadyH.cons rfl (fun K hK => ?_) AllReadyH.nil)
          go_simp
          refine (joinN_calls _ _ _ hf hlt).mono ?_
          rintro e w' ⟨rfl, rfl⟩
          refine hK.out _ _ (cells8 C5p) (fun hHeld => ?_)
          clear hK K
          try simp only [Act.put, List.setIfInBounds_toArray, List.set_cons_zero, List.set_cons_succ]
          refine takeD (i := 10) (v := .pointer (some ⟨w.heap.size + 1, 1, none⟩)) (some 16) rfl rfl (by kernel_rfl) (by kernel_rfl) (by kernel_rfl) (fun _ _ _ h => h) (Or.inl ⟨by rfl, fun w' hw' => ?_⟩) hHeld ?_
          · first | (go_simp; done) | (obtain ⟨⟨s0, s1, s2, s3, s4⟩, s5, s6⟩ := hw'; go_simp; done) | (obtain ⟨s5, s6⟩ := hw'; go_simp; done) | (obtain ⟨s0, s1, s2, s3, s4, s5, s6, s7⟩ := hw'; go_simp)
          try simp only [Act.put, List.setIfInBounds_toArray, List.set_cons_zero, List.set_cons_succ]
          refine wpAnyH_ready (rs := [11]) (by kernel_rfl) (by simp) ?_
          refine AllReadyH.cons rfl (fun K hK => ?_) AllReadyH.nil
          go_simp
          refine hK.out _ _ (cells8 (C5p.kept (Below.heap_setCell _ _ _ _ (by show w.heap.size ≠ w.heap.size + 1; omega)))) (fun hHeld => ?_)
          clear hK K
          try simp only [Act.put, List.setIfInBounds_toArray, List.set_cons_zero, List.set_cons_succ]
          refine wpAnyH_done (by kernel_rfl) ?_ _
          have CV : Cells (w5.setCell ⟨w.heap.size + 1, 1, none⟩ (.int .u16 ((fM vs ||| (PP &&& (65535 - c)) : Nat) : Int))) (w.heap.size + 1) 0 [.int .u16 (tM vs : Int), .int .u16 ((fM vs ||| (PP &&& (65535 - c)) : Nat) : Int)] := bx_cells (bx_set (i := 1) HV5 (.int .u16 ((fM vs ||| (PP &&& (65535 - c)) : Nat) : Int)))
          have HB : (w5.setCell ⟨w.heap.size + 1, 1, none⟩ (.int .u16 ((fM vs ||| (PP &&& (65535 - c)) : Nat) : Int))).heap[w.heap.size + 1 + 1]? = some (.cells #[.int .u16 0, .int .u16 0] 75 (0, 0)) := (Below.heap_setCell _ _ _ _ (by show w.heap.size + 1 + 1 ≠ w.heap.size + 1; omega)).trans HB5
          have TW := T5.setCell (p := ⟨w.heap.size + 1, 1, none⟩) (by show _ ≤ w.heap.size + 1; omega) (.int .u16 ((fM vs ||| (PP &&& (65535 - c)) : Nat) : Int))
          clear u0 u1 v0 v1 y0 y1 y2 y3 y4 y5 y6 y7
          go_wp2
          refine wp_region_held_drew (S := fun w' => w'.cell? ⟨w.heap.size + 1, 0, none⟩ = some (.int .u16 (tM vs : Int)) ∧ w'.cell? ⟨w.heap.size + 1, 1, none⟩ = some (.int .u16 ((fM vs ||| (PP &&& (65535 - c)) : Nat) : Int))) (by kernel_rfl) (cells2 CV.drew) (fun hHeld => ?_)
          refine takeD (i := 0) (v := .agg #[.int .u16 (tM vs : Int), .int .u16 ((fM vs ||| (PP &&& (65535 - c)) : Nat) : Int)]) (some 17) rfl rfl (by kernel_rfl) (by kernel_rfl) (by kernel_rfl) (fun _ _ _ h => h) (Or.inl ⟨by rfl, fun w' hw' => ?_⟩) hHeld ?_
          · first | (go_simp; done) | (obtain ⟨⟨s0, s1, s2, s3, s4⟩, s5, s6⟩ := hw'; go_simp; done) | (obtain ⟨s5, s6⟩ := hw'; go_simp; done) | (obtain ⟨s0, s1, s2, s3, s4, s5, s6, s7⟩ := hw'; go_simp)
          try simp only [Act.put, List.setIfInBounds_toArray, List.set_cons_zero, List.set_cons_succ]
          refine takeD (i := 1) (v := .agg #[.int .u16 (tM vs : Int), .int .u16 ((fM vs ||| (PP &&& (65535 - c)) : Nat) : Int)]) (some 18) rfl rfl (by kernel_rfl) (by kernel_rfl) (by kernel_rfl) (fun _ _ _ h => h) (Or.inl ⟨by rfl, fun w' hw' => ?_⟩) hHeld ?_
          · first | (go_simp; done) | (obtain ⟨⟨s0, s1, s2, s3, s4⟩, s5, s6⟩ := hw'; go_simp; done) | (obtain ⟨s5, s6⟩ := hw'; go_simp; done) | (obtain ⟨s0, s1, s2, s3, s4, s5, s6, s7⟩ := hw'; go_simp)
          try simp only [Act.put, List.setIfInBounds_toArray, List.set_cons_zero, List.set_cons_succ]
          refine wpAnyH_ready (rs := [2]) (by kernel_rfl) (by simp) ?_
          refine AllReadyH.cons rfl (fun K hK => ?_) AllReadyH.nil
          go_simp
          refine (apart_calls _ _ _ hm hFl).mono ?_
          rintro e w6 ⟨he, b6⟩
          rw [HX.out.1] at he
          subst he
          have hB6 : w6.heap[w.heap.size + 1 + 1]? = some (.cells #[.int .u16 0, .int .u16 0] 75 (0, 0)) := (b6.block _ (block_lt HB)).trans HB
          obtain ⟨q0, q1⟩ := cells2 (bx_cells (cs := [.int .u16 0, .int .u16 0]) hB6)
          have z0 := frozen_of_row w6 (w.heap.size + 1 + 1) 0 _ _ hB6
          have z1 := frozen_of_row w6 (w.heap.size + 1 + 1) 1 _ _ hB6
          have C6v := CV.drew.later b6
          refine hK.out _ _ (cells2 C6v) (fun hHeld => ?_)
          clear hK K
          try simp only [Act.put, List.setIfInBounds_toArray, List.set_cons_zero, List.set_cons_succ]
          refine wpAnyH_ready (rs := [3]) (by kernel_rfl) (by simp) ?_
          refine AllReadyH.cons rfl (fun K hK => ?_) AllReadyH.nil
          go_simp
          have C7v := C6v.kept ((Below.heap_setCell (w6.setCell ⟨w.heap.size + 1 + 1, 0, none⟩ (.int .u16 (tM vs : Int))) ⟨w.heap.size + 1 + 1, 1, none⟩ (.int .u16 ((fM vs ||| (PP &&& (65535 - c)) : Nat) : Int)) (w.heap.size + 1) (by show _ ≠ w.heap.size + 1 + 1; omega)).trans (Below.heap_setCell w6 ⟨w.heap.size + 1 + 1, 0, none⟩ (.int .u16 (tM vs : Int)) (w.heap.size + 1) (by show _ ≠ w.heap.size + 1 + 1; omega)))
          obtain ⟨e0, e1⟩ := cells2 (bx_cells (cs := [.int .u16 (tM vs : Int), .int .u16 ((fM vs ||| (PP &&& (65535 - c)) : Nat) : Int)]) (bx_set (i := 1) (bx_set (i := 0) (cs := [.int .u16 0, .int .u16 0]) hB6 (.int .u16 (tM vs : Int))) (.int .u16 ((fM vs ||| (PP &&& (65535 - c)) : Nat) : Int))))
          have tE : Below w.heap.size w ((w6.setCell ⟨w.heap.size + 1 + 1, 0, none⟩ (.int .u16 (tM vs : Int))).setCell ⟨w.heap.size + 1 + 1, 1, none⟩ (.int .u16 ((fM vs ||| (PP &&& (65535 - c)) : Nat) : Int))) := ((TW.drew.step b6).setCell (by show _ ≤ w.heap.size + 1 + 1; omega) _).setCell (by show _ ≤ w.heap.size + 1 + 1; omega) _
          refine hK.out _ _ (cells2 C7v) (fun hHeld => ?_)
          clear hK K
          try simp only [Act.put, List.setIfInBounds_toArray, List.set_cons_zero, List.set_cons_succ]
          refine wpAnyH_ready (rs := [4]) (by kernel_rfl) (by simp) ?_
          refine AllReadyH.cons rfl (fun K hK => ?_) AllReadyH.nil
          go_simp
          refine hK.out _ _ (cells2 C7v) (fun hHeld => ?_)
          clear hK K
          try simp only [Act.put, List.setIfInBounds_toArray, List.set_cons_zero, List.set_cons_succ]
          refine wpAnyH_done (by kernel_rfl) ?_ _
          clear C7v C6v q0 q1
          go_wp2
          refine bodyPost_ret (v := .tuple #[.agg #[.int .u16 (tM vs : Int), .int .u16 ((fM vs ||| (PP &&& (65535 - c)) : Nat) : Int)], .bool (exAll q vs).isSome]) (by simp [results, Tryz.results94, go_sem, e0, e1]) rfl ⟨?_, tE⟩
          exact ⟨tM vs, fM vs ||| (PP &&& (65535 - c)), rfl, hm, hFl, HX.out.2⟩
        · skip
          go_simp
          refine (lessN_calls _ _ _ hP hc).mono ?_
          rintro e w' ⟨rfl, rfl⟩
          refine hK.out _ _ (cells8 C5p) (fun hHeld => ?_)
          clear hK K
          try simp only [Act.put, List.setIfInBounds_toArray, List.set_cons_zero, List.set_cons_succ]
          refine wpAnyH_ready (rs := [1]) (by kernel_rfl) (by simp) ?_
          refine (AllReadyH.cons rfl (fun K hK => ?_) AllReadyH.nil)
          go_simp
          refine hK.out _ _ (cells8 C5p) (fun hHeld => ?_)
          clear hK K
          try simp only [Act.put, List.setIfInBounds_toArray, List.set_cons_zero, List.set_cons_succ]
          refine wpAnyH_ready (rs := [9]) (by kernel_rfl) (by simp) ?_
          refine (AllReadyH.cons rfl (fun K hK => ?_) AllReadyH.nil)
          go_simp
          refine (joinN_calls _ _ _ hf hlt).mono ?_
          rintro e w' ⟨rfl, rfl⟩
          refine hK.out _ _ (cells8 C5p) (fun hHeld => ?_)
          clear hK K
          try simp only [Act.put, List.setIfInBounds_toArray, List.set_cons_zero, List.set_cons_succ]
          refine takeD (i := 10) (v := .pointer (some ⟨w.heap.size + 1, 1, none⟩)) (some 16) rfl rfl (by kernel_rfl) (by kernel_rfl) (by kernel_rfl) (fun _ _ _ h => h) (Or.inl ⟨by rfl, fun w' hw' => ?_⟩) hHeld ?_
          · first | (go_simp; done) | (obtain ⟨⟨s0, s1, s2, s3, s4⟩, s5, s6⟩ := hw'; go_simp; done) | (obtain ⟨s5, s6⟩ := hw'; go_simp; done) | (obtain ⟨s0, s1, s2, s3, s4, s5, s6, s7⟩ := hw'; go_simp)
          try simp only [Act.put, List.setIfInBounds_toArray, List.set_cons_zero, List.set_cons_succ]
          refine wpAnyH_ready (rs := [11]) (by kernel_rfl) (by simp) ?_
          refine AllReadyH.cons rfl (fun K hK => ?_) AllReadyH.nil
          go_simp
          refine hK.out _ _ (cells8 (C5p.kept (Below.heap_setCell _ _ _ _ (by show w.heap.size ≠ w.heap.size + 1; omega)))) (fun hHeld => ?_)
          clear hK K
          try simp only [Act.put, List.setIfInBounds_toArray, List.set_cons_zero, List.set_cons_succ]
          refine wpAnyH_done (by kernel_rfl) ?_ _
          have CV : Cells (w5.setCell ⟨w.heap.size + 1, 1, none⟩ (.int .u16 ((fM vs ||| (PP &&& (65535 - c)) : Nat) : Int))) (w.heap.size + 1) 0 [.int .u16 (tM vs : Int), .int .u16 ((fM vs ||| (PP &&& (65535 - c)) : Nat) : Int)] := bx_cells (bx_set (i := 1) HV5 (.int .u16 ((fM vs ||| (PP &&& (65535 - c)) : Nat) : Int)))
          have HB : (w5.setCell ⟨w.heap.size + 1, 1, none⟩ (.int .u16 ((fM vs ||| (PP &&& (65535 - c)) : Nat) : Int))).heap[w.heap.size + 1 + 1]? = some (.cells #[.int .u16 0, .int .u16 0] 75 (0, 0)) := (Below.heap_setCell _ _ _ _ (by show w.heap.size + 1 + 1 ≠ w.heap.size + 1; omega)).trans HB5
          have TW := T5.setCell (p := ⟨w.heap.size + 1, 1, none⟩) (by show _ ≤ w.heap.size + 1; omega) (.int .u16 ((fM vs ||| (PP &&& (65535 - c)) : Nat) : Int))
          clear u0 u1 v0 v1 y0 y1 y2 y3 y4 y5 y6 y7
          go_wp2
          refine wp_region_held_drew (S := fun w' => w'.cell? ⟨w.heap.size + 1, 0, none⟩ = some (.int .u16 (tM vs : Int)) ∧ w'.cell? ⟨w.heap.size + 1, 1, none⟩ = some (.int .u16 ((fM vs ||| (PP &&& (65535 - c)) : Nat) : Int))) (by kernel_rfl) (cells2 CV.drew) (fun hHeld => ?_)
          refine takeD (i := 0) (v := .agg #[.int .u16 (tM vs : Int), .int .u16 ((fM vs ||| (PP &&& (65535 - c)) : Nat) : Int)]) (some 17) rfl rfl (by kernel_rfl) (by kernel_rfl) (by kernel_rfl) (fun _ _ _ h => h) (Or.inl ⟨by rfl, fun w' hw' => ?_⟩) hHeld ?_
          · first | (go_simp; done) | (obtain ⟨⟨s0, s1, s2, s3, s4⟩, s5, s6⟩ := hw'; go_simp; done) | (obtain ⟨s5, s6⟩ := hw'; go_simp; done) | (obtain ⟨s0, s1, s2, s3, s4, s5, s6, s7⟩ := hw'; go_simp)
          try simp only [Act.put, List.setIfInBounds_toArray, List.set_cons_zero, List.set_cons_succ]
          refine takeD (i := 1) (v := .agg #[.int .u16 (tM vs : Int), .int .u16 ((fM vs ||| (PP &&& (65535 - c)) : Nat) : Int)]) (some 18) rfl rfl (by kernel_rfl) (by kernel_rfl) (by kernel_rfl) (fun _ _ _ h => h) (Or.inl ⟨by rfl, fun w' hw' => ?_⟩) hHeld ?_
          · first | (go_simp; done) | (obtain ⟨⟨s0, s1, s2, s3, s4⟩, s5, s6⟩ := hw'; go_simp; done) | (obtain ⟨s5, s6⟩ := hw'; go_simp; done) | (obtain ⟨s0, s1, s2, s3, s4, s5, s6, s7⟩ := hw'; go_simp)
          try simp only [Act.put, List.setIfInBounds_toArray, List.set_cons_zero, List.set_cons_succ]
          refine wpAnyH_ready (rs := [2]) (by kernel_rfl) (by simp) ?_
          refine AllReadyH.cons rfl (fun K hK => ?_) AllReadyH.nil
          go_simp
          refine (apart_calls _ _ _ hm hFl).mono ?_
          rintro e w6 ⟨he, b6⟩
          rw [HX.out.1] at he
          subst he
          have hB6 : w6.heap[w.heap.size + 1 + 1]? = some (.cells #[.int .u16 0, .int .u16 0] 75 (0, 0)) := (b6.block _ (block_lt HB)).trans HB
          obtain ⟨q0, q1⟩ := cells2 (bx_cells (cs := [.int .u16 0, .int .u16 0]) hB6)
          have z0 := frozen_of_row w6 (w.heap.size + 1 + 1) 0 _ _ hB6
          have z1 := frozen_of_row w6 (w.heap.size + 1 + 1) 1 _ _ hB6
          have C6v := CV.drew.later b6
          refine hK.out _ _ (cells2 C6v) (fun hHeld => ?_)
          clear hK K
          try simp only [Act.put, List.setIfInBounds_toArray, List.set_cons_zero, List.set_cons_succ]
          refine wpAnyH_ready (rs := [3]) (by kernel_rfl) (by simp) ?_
          refine AllReadyH.cons rfl (fun K hK => ?_) AllReadyH.nil
          go_simp
          have C7v := C6v.kept ((Below.heap_setCell (w6.setCell ⟨w.heap.size + 1 + 1, 0, none⟩ (.int .u16 (tM vs : Int))) ⟨w.heap.size + 1 + 1, 1, none⟩ (.int .u16 ((fM vs ||| (PP &&& (65535 - c)) : Nat) : Int)) (w.heap.size + 1) (by show _ ≠ w.heap.size + 1 + 1; omega)).trans (Below.heap_setCell w6 ⟨w.heap.size + 1 + 1, 0, none⟩ (.int .u16 (tM vs : Int)) (w.heap.size + 1) (by show _ ≠ w.heap.size + 1 + 1; omega)))
          obtain ⟨e0, e1⟩ := cells2 (bx_cells (cs := [.int .u16 (tM vs : Int), .int .u16 ((fM vs ||| (PP &&& (65535 - c)) : Nat) : Int)]) (bx_set (i := 1) (bx_set (i := 0) (cs := [.int .u16 0, .int .u16 0]) hB6 (.int .u16 (tM vs : Int))) (.int .u16 ((fM vs ||| (PP &&& (65535 - c)) : Nat) : Int))))
          have tE : Below w.heap.size w ((w6.setCell ⟨w.heap.size + 1 + 1, 0, none⟩ (.int .u16 (tM vs : Int))).setCell ⟨w.heap.size + 1 + 1, 1, none⟩ (.int .u16 ((fM vs ||| (PP &&& (65535 - c)) : Nat) : Int))) := ((TW.drew.step b6).setCell (by show _ ≤ w.heap.size + 1 + 1; omega) _).setCell (by show _ ≤ w.heap.size + 1 + 1; omega) _
          refine hK.out _ _ (cells2 C7v) (fun hHeld => ?_)
          clear hK K
          try simp only [Act.put, List.setIfInBounds_toArray, List.set_cons_zero, List.set_cons_succ]
          refine wpAnyH_ready (rs := [4]) (by kernel_rfl) (by simp) ?_
          refine AllReadyH.cons rfl (fun K hK => ?_) AllReadyH.nil
          go_simp
          refine hK.out _ _ (cells2 C7v) (fun hHeld => ?_)
          clear hK K
          try simp only [Act.put, List.setIfInBounds_toArray, List.set_cons_zero, List.set_cons_succ]
          refine wpAnyH_done (by kernel_rfl) ?_ _
          clear C7v C6v q0 q1
          go_wp2
          refine bodyPost_ret (v := .tuple #[.agg #[.int .u16 (tM vs : Int), .int .u16 ((fM vs ||| (PP &&& (65535 - c)) : Nat) : Int)], .bool (exAll q vs).isSome]) (by simp [results, Tryz.results94, go_sem, e0, e1]) rfl ⟨?_, tE⟩
          exact ⟨tM vs, fM vs ||| (PP &&& (65535 - c)), rfl, hm, hFl, HX.out.2⟩



end Go.Proofs.YtingnpnnacafbaaGreat
