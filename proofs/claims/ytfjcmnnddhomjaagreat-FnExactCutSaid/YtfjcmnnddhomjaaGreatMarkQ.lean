/-
  The laws' own mark of a program. No condition of its own.
-/
import Derived.Test.YtfjcmnnddhomjaaGreatMarkP
namespace Go.Proofs.YtfjcmnnddhomjaaGreat
set_option linter.unusedVariables false
set_option linter.unusedSimpArgs false
open Go.RowKit
set_option maxRecDepth 100000

/-- A program that was handed over by its value: its lists are marked. -/
def mkProgV (k : Int) (p : ProgD) : ProgD :=
  { p with
    rules := Mk.mkd k p.rules
    levels := Mk.mkd (k + (cntTo p.rules p.rules.length : Nat)) p.levels
    project := Mk.mkd (k + (cntTo p.rules p.rules.length : Nat) + (cntTo p.levels p.levels.length : Nat)) p.project
    shows := Mk.mkd (k + (cntTo p.rules p.rules.length : Nat) + (cntTo p.levels p.levels.length : Nat) + (cntTo p.project p.project.length : Nat)) p.shows
    exts := Mk.mkd (k + (cntTo p.rules p.rules.length : Nat) + (cntTo p.levels p.levels.length : Nat) + (cntTo p.project p.project.length : Nat) + (cntTo p.shows p.shows.length : Nat)) p.exts
    assume := Mk.mkd (k + (cntTo p.rules p.rules.length : Nat) + (cntTo p.levels p.levels.length : Nat) + (cntTo p.project p.project.length : Nat) + (cntTo p.shows p.shows.length : Nat) + (cntTo p.exts p.exts.length : Nat)) p.assume }
def cntProgV (p : ProgD) : Nat := cntTo p.rules p.rules.length + cntTo p.levels p.levels.length + cntTo p.project p.project.length + cntTo p.shows p.shows.length + cntTo p.exts p.exts.length + cntTo p.assume p.assume.length

set_option maxHeartbeats 2000000 in
theorem markProg_calls {cs : List Value} {p : ProgD} {fp : List Nat} {w : World} (k : Int) (h : Ow.O w cs p fp) (h0 : 0 ≤ k) (h1 : k + (cntProgV p : Nat) ≤ 1152921504606846976) :
    Calls Tryz.prog 19 #[.agg cs.toArray, .int .i64 k] w fun e w' => e = .returned (.int .i64 (k + (cntProgV p : Nat))) ∧ Ow.O w' cs (mkProgV k p) fp ∧ WrF fp w w' := by
  have hlt := Ow.lt h
  obtain ⟨c1, c2, c4, c5, c6, c7, f1, f2, f4, f5, f6, f7, rfl, hf, o1, o2, o4, o5, o6, o7, rfl, hn⟩ := h
  have HF := Lib.hid hf
  have HN := Lib.hid hn
  obtain ⟨n1, r1, e1⟩ := List.nodup_append.1 hn
  obtain ⟨n2, r2, e2⟩ := List.nodup_append.1 r1
  obtain ⟨n4, r4, e4⟩ := List.nodup_append.1 r2
  obtain ⟨n5, r5, e5⟩ := List.nodup_append.1 r4
  obtain ⟨n6, n7, e6⟩ := List.nodup_append.1 r5
  have d12 : ∀ b, b ∈ f1 → b ∈ f2 → False := fun b h h' => e1 b h b (by simp [h']) rfl
  have d14 : ∀ b, b ∈ f1 → b ∈ f4 → False := fun b h h' => e1 b h b (by simp [h']) rfl
  have d15 : ∀ b, b ∈ f1 → b ∈ f5 → False := fun b h h' => e1 b h b (by simp [h']) rfl
  have d16 : ∀ b, b ∈ f1 → b ∈ f6 → False := fun b h h' => e1 b h b (by simp [h']) rfl
  have d17 : ∀ b, b ∈ f1 → b ∈ f7 → False := fun b h h' => e1 b h b (by simp [h']) rfl
  have d24 : ∀ b, b ∈ f2 → b ∈ f4 → False := fun b h h' => e2 b h b (by simp [h']) rfl
  have d25 : ∀ b, b ∈ f2 → b ∈ f5 → False := fun b h h' => e2 b h b (by simp [h']) rfl
  have d26 : ∀ b, b ∈ f2 → b ∈ f6 → False := fun b h h' => e2 b h b (by simp [h']) rfl
  have d27 : ∀ b, b ∈ f2 → b ∈ f7 → False := fun b h h' => e2 b h b (by simp [h']) rfl
  have d45 : ∀ b, b ∈ f4 → b ∈ f5 → False := fun b h h' => e4 b h b (by simp [h']) rfl
  have d46 : ∀ b, b ∈ f4 → b ∈ f6 → False := fun b h h' => e4 b h b (by simp [h']) rfl
  have d47 : ∀ b, b ∈ f4 → b ∈ f7 → False := fun b h h' => e4 b h b (by simp [h']) rfl
  have d56 : ∀ b, b ∈ f5 → b ∈ f6 → False := fun b h h' => e5 b h b (by simp [h']) rfl
  have d57 : ∀ b, b ∈ f5 → b ∈ f7 → False := fun b h h' => e5 b h b (by simp [h']) rfl
  have d67 : ∀ b, b ∈ f6 → b ∈ f7 → False := fun b h h' => e6 b h b h' rfl
  have HC : Hid (cntProgV p = cntTo p.rules p.rules.length + cntTo p.levels p.levels.length + cntTo p.project p.project.length + cntTo p.shows p.shows.length + cntTo p.exts p.exts.length + cntTo p.assume p.assume.length) := rfl
  have i4 := Lib.hid (cntTo_int p.project p.project.length)
  have i6 := Lib.hid (cntTo_pair p.exts p.exts.length)
  have i7 := Lib.hid (cntTo_int p.assume p.assume.length)
  rw [HC.out] at h1 ⊢
  obtain ⟨k2, hk2⟩ : ∃ k2 : Int, k2 = k + (cntTo p.rules p.rules.length : Nat) := ⟨_, rfl⟩
  obtain ⟨k4, hk4⟩ : ∃ k4 : Int, k4 = k2 + (cntTo p.levels p.levels.length : Nat) := ⟨_, rfl⟩
  obtain ⟨k5, hk5⟩ : ∃ k5 : Int, k5 = k4 + (cntTo p.project p.project.length : Nat) := ⟨_, rfl⟩
  obtain ⟨k6, hk6⟩ : ∃ k6 : Int, k6 = k5 + (cntTo p.shows p.shows.length : Nat) := ⟨_, rfl⟩
  obtain ⟨k7, hk7⟩ : ∃ k7 : Int, k7 = k6 + (cntTo p.exts p.exts.length : Nat) := ⟨_, rfl⟩
  have a1 : 0 ≤ k2 ∧ 0 ≤ k4 ∧ 0 ≤ k5 ∧ 0 ≤ k6 ∧ 0 ≤ k7 := by omega
  obtain ⟨a2, a4, a5, a6, a7⟩ := a1
  have b1 : k + (cntTo p.rules p.rules.length : Nat) ≤ 1152921504606846976 ∧ k2 + (cntTo p.levels p.levels.length : Nat) ≤ 1152921504606846976 ∧ k4 + p.project.length ≤ 1152921504606846976 ∧ k5 + (cntTo p.shows p.shows.length : Nat) ≤ 1152921504606846976 ∧ k6 + 2 * p.exts.length ≤ 1152921504606846976 ∧ k7 + p.assume.length ≤ 1152921504606846976 := by
    have := i4.out
    have := i6.out
    have := i7.out
    omega
  obtain ⟨b1, b2, b4, b5, b6, b7⟩ := b1
  have HE : Hid (k7 + (cntTo p.assume p.assume.length : Nat) = k + ((cntTo p.rules p.rules.length + cntTo p.levels p.levels.length + cntTo p.project p.project.length + cntTo p.shows p.shows.length + cntTo p.exts p.exts.length + cntTo p.assume p.assume.length : Nat) : Int)) := by show _ = _; omega
  have H2 := Lib.hid hk2
  have H4 := Lib.hid hk4
  have H5 := Lib.hid hk5
  have H6 := Lib.hid hk6
  have H7 := Lib.hid hk7
  clear hk2 hk4 hk5 hk6 hk7 h1
  have t0 : WrF (f1 ++ (f2 ++ (f4 ++ (f5 ++ (f6 ++ f7))))) w (w.alloc (.cells #[.int .i64 p.atoms, c1, c2, .bool p.projOn, c4, c5, c6, c7] 37)) := ((Below.refl _ _).alloc (Nat.le_refl _) _).wrF
  have hbx := (Below.refl w.heap.size w).alloc (Nat.le_refl _) (.cells #[.int .i64 p.atoms, c1, c2, .bool p.projOn, c4, c5, c6, c7] 37)
  have X := Cells.new w [.int .i64 p.atoms, c1, c2, .bool p.projOn, c4, c5, c6, c7] 37
  have o1 := Ow.kept (α := List RuleD) o1 fun b hb => hbx.block b (Ow.lt (α := List RuleD) o1 b hb)
  have o2 := Ow.kept (α := List LevelD) o2 fun b hb => hbx.block b (Ow.lt (α := List LevelD) o2 b hb)
  have o4 := Ow.kept (α := List Int) o4 fun b hb => hbx.block b (Ow.lt (α := List Int) o4 b hb)
  have o5 := Ow.kept (α := List ShowD) o5 fun b hb => hbx.block b (Ow.lt (α := List ShowD) o5 b hb)
  have o6 := Ow.kept (α := List (Int × Int)) o6 fun b hb => hbx.block b (Ow.lt (α := List (Int × Int)) o6 b hb)
  have o7 := Ow.kept (α := List Int) o7 fun b hb => hbx.block b (Ow.lt (α := List Int) o7 b hb)
  clear hf hn n1 r1 n2 r2 n4 r4 n5 r5 n6 n7 e1 e2 e4 e5 e6
  go_enter Tryz.func19, Tryz.ntmps19
  go_wp2_with fail
  refine (markRuleS_calls k o1 h0 b1).mono ?_
  rintro e w1 ⟨he, m1, g1⟩
  rw [← H2.out] at he
  subst he
  have o2 := Ow.wrF (α := List LevelD) o2 g1 fun b hb h => d12 b h hb
  have o4 := Ow.wrF (α := List Int) o4 g1 fun b hb h => d14 b h hb
  have o5 := Ow.wrF (α := List ShowD) o5 g1 fun b hb h => d15 b h hb
  have o6 := Ow.wrF (α := List (Int × Int)) o6 g1 fun b hb h => d16 b h hb
  have o7 := Ow.wrF (α := List Int) o7 g1 fun b hb h => d17 b h hb
  have X := X.kept (g1.block w.heap.size (by have := X.lt; omega) (fun h => by have := hlt w.heap.size (by simp [h]); omega))
  obtain ⟨x0, x1, x2, x3, x4, x5, x6, x7⟩ := cells8 X
  go_wp2_with fail
  refine (markLevelS_calls k2 o2 a2 b2).mono ?_
  rintro e w2 ⟨he, m2, g2⟩
  rw [← H4.out] at he
  subst he
  have m1 := Ow.wrF (α := List RuleD) m1 g2 fun b hb h => d12 b hb h
  have o4 := Ow.wrF (α := List Int) o4 g2 fun b hb h => d24 b h hb
  have o5 := Ow.wrF (α := List ShowD) o5 g2 fun b hb h => d25 b h hb
  have o6 := Ow.wrF (α := List (Int × Int)) o6 g2 fun b hb h => d26 b h hb
  have o7 := Ow.wrF (α := List Int) o7 g2 fun b hb h => d27 b h hb
  have X := X.kept (g2.block w.heap.size (by have := X.lt; omega) (fun h => by have := hlt w.heap.size (by simp [h]); omega))
  clear x0 x1 x2 x3 x4 x5 x6 x7
  obtain ⟨x0, x1, x2, x3, x4, x5, x6, x7⟩ := cells8 X
  go_wp2_with fail
  refine (markIntSO_calls k4 o4 a4 b4).mono ?_
  rintro e w3 ⟨he, m4, g3⟩
  have g3 := ChgF.wrF g3
  rw [← H5.out] at he
  subst he
  have m1 := Ow.wrF (α := List RuleD) m1 g3 fun b hb h => d14 b hb h
  have m2 := Ow.wrF (α := List LevelD) m2 g3 fun b hb h => d24 b hb h
  have o5 := Ow.wrF (α := List ShowD) o5 g3 fun b hb h => d45 b h hb
  have o6 := Ow.wrF (α := List (Int × Int)) o6 g3 fun b hb h => d46 b h hb
  have o7 := Ow.wrF (α := List Int) o7 g3 fun b hb h => d47 b h hb
  have X := X.kept (g3.block w.heap.size (by have := X.lt; omega) (fun h => by have := hlt w.heap.size (by simp [h]); omega))
  clear x0 x1 x2 x3 x4 x5 x6 x7
  obtain ⟨x0, x1, x2, x3, x4, x5, x6, x7⟩ := cells8 X
  go_wp2_with fail
  refine (markShowS_calls k5 o5 a5 b5).mono ?_
  rintro e w4 ⟨he, m5, g4⟩
  rw [← H6.out] at he
  subst he
  have m1 := Ow.wrF (α := List RuleD) m1 g4 fun b hb h => d15 b hb h
  have m2 := Ow.wrF (α := List LevelD) m2 g4 fun b hb h => d25 b hb h
  have m4 := Ow.wrF (α := List Int) m4 g4 fun b hb h => d45 b hb h
  have o6 := Ow.wrF (α := List (Int × Int)) o6 g4 fun b hb h => d56 b h hb
  have o7 := Ow.wrF (α := List Int) o7 g4 fun b hb h => d57 b h hb
  have X := X.kept (g4.block w.heap.size (by have := X.lt; omega) (fun h => by have := hlt w.heap.size (by simp [h]); omega))
  clear x0 x1 x2 x3 x4 x5 x6 x7
  obtain ⟨x0, x1, x2, x3, x4, x5, x6, x7⟩ := cells8 X
  go_wp2_with fail
  refine (markExtS_calls k6 o6 a6 b6).mono ?_
  rintro e w5 ⟨he, m6, g5⟩
  have g5 := ChgF.wrF g5
  rw [← H7.out] at he
  subst he
  have m1 := Ow.wrF (α := List RuleD) m1 g5 fun b hb h => d16 b hb h
  have m2 := Ow.wrF (α := List LevelD) m2 g5 fun b hb h => d26 b hb h
  have m4 := Ow.wrF (α := List Int) m4 g5 fun b hb h => d46 b hb h
  have m5 := Ow.wrF (α := List ShowD) m5 g5 fun b hb h => d56 b hb h
  have o7 := Ow.wrF (α := List Int) o7 g5 fun b hb h => d67 b h hb
  have X := X.kept (g5.block w.heap.size (by have := X.lt; omega) (fun h => by have := hlt w.heap.size (by simp [h]); omega))
  clear x0 x1 x2 x3 x4 x5 x6 x7
  obtain ⟨x0, x1, x2, x3, x4, x5, x6, x7⟩ := cells8 X
  go_wp2_with fail
  refine (markIntSO_calls k7 o7 a7 b7).mono ?_
  rintro e w6 ⟨he, m7, g6⟩
  have g6 := ChgF.wrF g6
  rw [HE.out] at he
  subst he
  have m1 := Ow.wrF (α := List RuleD) m1 g6 fun b hb h => d17 b hb h
  have m2 := Ow.wrF (α := List LevelD) m2 g6 fun b hb h => d27 b hb h
  have m4 := Ow.wrF (α := List Int) m4 g6 fun b hb h => d47 b hb h
  have m5 := Ow.wrF (α := List ShowD) m5 g6 fun b hb h => d57 b hb h
  have m6 := Ow.wrF (α := List (Int × Int)) m6 g6 fun b hb h => d67 b hb h
  have G := Lib.hid ((((((t0.trans (g1.more fun b hb => by simp [hb])).trans (g2.more fun b hb => by simp [hb])).trans (g3.more fun b hb => by simp [hb])).trans (g4.more fun b hb => by simp [hb])).trans (g5.more fun b hb => by simp [hb])).trans (g6.more fun b hb => by simp [hb]))
  have M : Hid (Ow.O w6 [.int .i64 p.atoms, c1, c2, .bool p.projOn, c4, c5, c6, c7] (mkProgV k p) (f1 ++ (f2 ++ (f4 ++ (f5 ++ (f6 ++ f7)))))) := by
    have q2 := H2.out
    have q4 := H4.out
    have q5 := H5.out
    have q6 := H6.out
    have q7 := H7.out
    rw [q2] at q4
    rw [q4] at q5
    rw [q5] at q6
    rw [q6] at q7
    rw [q2] at m2
    rw [q4] at m4
    rw [q5] at m5
    rw [q6] at m6
    rw [q7] at m7
    exact ⟨c1, c2, c4, c5, c6, c7, f1, f2, f4, f5, f6, f7, rfl, HF.out, m1, m2, m4, m5, m6, m7, rfl, HN.out⟩
  clear x0 x1 x2 x3 x4 x5 x6 x7 m1 m2 m4 m5 m6 m7 g1 g2 g3 g4 g5 g6
  go_wp2
  go_ret
  exact ⟨rfl, M.out, G.out⟩

end Go.Proofs.YtfjcmnnddhomjaaGreat
