/-
  A drawn program: its states. No condition of its own.
-/
import Derived.Test.YthikhkeofcjdfaaGreatDrawR
namespace Go.Proofs.YthikhkeofcjdfaaGreat
set_option linter.unusedVariables false
set_option linter.unusedSimpArgs false
open Go.RowKit
set_option maxRecDepth 100000

set_option maxHeartbeats 1000000 in
theorem size_calls' (c N : Nat) (n : Int) (w : World) (h : Cur w c N) (hN : N ≤ 100000000) (hn1 : 1 ≤ n) (hn2 : n ≤ 100) :
    Calls Tryz.prog 222 #[.pointer (some ⟨c, 0, none⟩), .int .i64 n] w fun e w' => ∃ r : Nat, e = .returned (.int .i64 (r : Int)) ∧ (r : Int) ≤ n ∧ Cur w' c (N + 1) ∧ Wrote c w w' := by
  have h0 := h
  obtain ⟨p, bs, cap, a, s, hr, ha⟩ := h0
  obtain ⟨hc0, hc1, hc2, hf⟩ := hr.cells
  have hBl := hr.2.1.1
  have htd : (bs.length : Int).tdiv 8 = (bs.length : Int) / 8 := Int.tdiv_eq_ediv_of_nonneg (by omega)
  obtain ⟨d, hd⟩ : ∃ d : Int, d = (bs.length : Int) / 8 := ⟨_, rfl⟩
  rw [← hd] at htd
  have hd0 : 0 ≤ d := by omega
  have hd1 : d ≤ 1000000 := by omega
  clear hd hr hf hc1 hc2
  by_cases hk : n < 1 + d
  · go_enter Tryz.func222, Tryz.ntmps222
    go_wp2_with fail
    refine (pick_calls c N (n + 1) w h (by omega) ⟨by omega, by omega⟩).mono ?_
    rintro e w1 ⟨r, ⟨hr0, hr1, _⟩, rfl, hc, hw⟩
    have hr1 := hr1 (by omega)
    obtain ⟨r, rfl⟩ := Int.eq_ofNat_of_zero_le hr0
    go_wp2
    go_ret
    exact ⟨r, rfl, by omega, hc, hw⟩
  · have hk' : 1 + d ≤ n := by omega
    clear hk
    go_enter Tryz.func222, Tryz.ntmps222
    go_wp2_with fail
    refine (pick_calls c N (1 + d + 1) w h (by omega) ⟨by omega, by omega⟩).mono ?_
    rintro e w1 ⟨r, ⟨hr0, hr1, _⟩, rfl, hc, hw⟩
    have hr1 := hr1 (by omega)
    obtain ⟨r, rfl⟩ := Int.eq_ofNat_of_zero_le hr0
    go_wp2
    go_ret
    exact ⟨r, rfl, by omega, hc, hw⟩

/-- One list more among the blocks. -/
theorem ins_nodup {L L' fv : List Nat} {lo M H : Nat} (hn : L.Nodup) (hl : ∀ g ∈ L, lo ≤ g ∧ g < M) (hv : fv.Nodup) (hvl : ∀ g ∈ fv, M ≤ g ∧ g < H) (hp : ∀ a, L'.count a = fv.count a + L.count a) (hlo : lo ≤ M) (hMH : M ≤ H) :
    L'.Nodup ∧ ∀ g ∈ L', lo ≤ g ∧ g < H := by
  have hP : L'.Perm (fv ++ L) := List.perm_iff_count.2 fun a => by rw [hp, List.count_append]
  refine ⟨(hP.nodup_iff).2 (List.nodup_append.2 ⟨hv, hn, fun a h1 b h2 e => by have := hvl a h1; have := hl b h2; omega⟩), fun g hg => ?_⟩
  rcases List.mem_append.1 (hP.mem_iff.1 hg) with h | h
  · have := hvl g h; omega
  · have := hl g h; omega
theorem own_nil_fp {α : Type} [Ow α] {w : World} {fp : List Nat} {xs : List α} (h : OwL w [.slice none 0 0] xs fp) : fp = [] := by
  obtain ⟨a, cap, e, _, _, h3⟩ := h
  simp at e
  rcases h3 with h3 | ⟨g, _, _, _, ha, _⟩
  · exact h3.2.1
  · rw [← e.1] at ha; cases ha
theorem ins_rules {w : World} {lo M H : Nat} {c1 c2 c4 c5 c6 c7 v : Value} {p : ProgD} {xs : List RuleD} (h : OwnIn lo M w [.int .i64 p.atoms, .slice none 0 0, c2, .bool p.projOn, c4, c5, c6, c7] p) (k : OwnIn M H w [v] xs) (hlo : lo ≤ M) (hMH : M ≤ H) :
    OwnIn lo H w [.int .i64 p.atoms, v, c2, .bool p.projOn, c4, c5, c6, c7] { p with rules := xs } := by
  obtain ⟨fp, ⟨d1, d2, d4, d5, d6, d7, f1, f2, f4, f5, f6, f7, e, hf, o1, o2, o4, o5, o6, o7, rfl, hn⟩, hl⟩ := h
  simp only [List.cons.injEq, and_true, true_and] at e
  obtain ⟨rfl, rfl, rfl, rfl, rfl, rfl⟩ := e
  obtain ⟨fv, ov, lv⟩ := k
  have hv := Ow.nodup (α := List RuleD) ov
  obtain rfl := own_nil_fp o1
  first
    | (obtain ⟨a, b⟩ := ins_nodup (L' := fv ++ (f2 ++ (f4 ++ (f5 ++ (f6 ++ f7))))) hn hl hv lv (fun a => by simp only [List.count_append, List.count_nil]; omega) hlo hMH
       exact ⟨_, ⟨v, _, _, _, _, _, fv, f2, f4, f5, f6, f7, rfl, hf, ov, o2, o4, o5, o6, o7, rfl, a⟩, b⟩)
    | (obtain ⟨a, b⟩ := ins_nodup (L' := f1 ++ (fv ++ (f4 ++ (f5 ++ (f6 ++ f7))))) hn hl hv lv (fun a => by simp only [List.count_append, List.count_nil]; omega) hlo hMH
       exact ⟨_, ⟨_, v, _, _, _, _, f1, fv, f4, f5, f6, f7, rfl, hf, o1, ov, o4, o5, o6, o7, rfl, a⟩, b⟩)
    | (obtain ⟨a, b⟩ := ins_nodup (L' := f1 ++ (f2 ++ (fv ++ (f5 ++ (f6 ++ f7))))) hn hl hv lv (fun a => by simp only [List.count_append, List.count_nil]; omega) hlo hMH
       exact ⟨_, ⟨_, _, v, _, _, _, f1, f2, fv, f5, f6, f7, rfl, hf, o1, o2, ov, o5, o6, o7, rfl, a⟩, b⟩)
    | (obtain ⟨a, b⟩ := ins_nodup (L' := f1 ++ (f2 ++ (f4 ++ (fv ++ (f6 ++ f7))))) hn hl hv lv (fun a => by simp only [List.count_append, List.count_nil]; omega) hlo hMH
       exact ⟨_, ⟨_, _, _, v, _, _, f1, f2, f4, fv, f6, f7, rfl, hf, o1, o2, o4, ov, o6, o7, rfl, a⟩, b⟩)
    | (obtain ⟨a, b⟩ := ins_nodup (L' := f1 ++ (f2 ++ (f4 ++ (f5 ++ (fv ++ f7))))) hn hl hv lv (fun a => by simp only [List.count_append, List.count_nil]; omega) hlo hMH
       exact ⟨_, ⟨_, _, _, _, v, _, f1, f2, f4, f5, fv, f7, rfl, hf, o1, o2, o4, o5, ov, o7, rfl, a⟩, b⟩)
    | (obtain ⟨a, b⟩ := ins_nodup (L' := f1 ++ (f2 ++ (f4 ++ (f5 ++ (f6 ++ fv))))) hn hl hv lv (fun a => by simp only [List.count_append, List.count_nil]; omega) hlo hMH
       exact ⟨_, ⟨_, _, _, _, _, v, f1, f2, f4, f5, f6, fv, rfl, hf, o1, o2, o4, o5, o6, ov, rfl, a⟩, b⟩)

theorem ins_levels {w : World} {lo M H : Nat} {c1 c2 c4 c5 c6 c7 v : Value} {p : ProgD} {xs : List LevelD} (h : OwnIn lo M w [.int .i64 p.atoms, c1, .slice none 0 0, .bool p.projOn, c4, c5, c6, c7] p) (k : OwnIn M H w [v] xs) (hlo : lo ≤ M) (hMH : M ≤ H) :
    OwnIn lo H w [.int .i64 p.atoms, c1, v, .bool p.projOn, c4, c5, c6, c7] { p with levels := xs } := by
  obtain ⟨fp, ⟨d1, d2, d4, d5, d6, d7, f1, f2, f4, f5, f6, f7, e, hf, o1, o2, o4, o5, o6, o7, rfl, hn⟩, hl⟩ := h
  simp only [List.cons.injEq, and_true, true_and] at e
  obtain ⟨rfl, rfl, rfl, rfl, rfl, rfl⟩ := e
  obtain ⟨fv, ov, lv⟩ := k
  have hv := Ow.nodup (α := List LevelD) ov
  obtain rfl := own_nil_fp o2
  first
    | (obtain ⟨a, b⟩ := ins_nodup (L' := fv ++ (f2 ++ (f4 ++ (f5 ++ (f6 ++ f7))))) hn hl hv lv (fun a => by simp only [List.count_append, List.count_nil]; omega) hlo hMH
       exact ⟨_, ⟨v, _, _, _, _, _, fv, f2, f4, f5, f6, f7, rfl, hf, ov, o2, o4, o5, o6, o7, rfl, a⟩, b⟩)
    | (obtain ⟨a, b⟩ := ins_nodup (L' := f1 ++ (fv ++ (f4 ++ (f5 ++ (f6 ++ f7))))) hn hl hv lv (fun a => by simp only [List.count_append, List.count_nil]; omega) hlo hMH
       exact ⟨_, ⟨_, v, _, _, _, _, f1, fv, f4, f5, f6, f7, rfl, hf, o1, ov, o4, o5, o6, o7, rfl, a⟩, b⟩)
    | (obtain ⟨a, b⟩ := ins_nodup (L' := f1 ++ (f2 ++ (fv ++ (f5 ++ (f6 ++ f7))))) hn hl hv lv (fun a => by simp only [List.count_append, List.count_nil]; omega) hlo hMH
       exact ⟨_, ⟨_, _, v, _, _, _, f1, f2, fv, f5, f6, f7, rfl, hf, o1, o2, ov, o5, o6, o7, rfl, a⟩, b⟩)
    | (obtain ⟨a, b⟩ := ins_nodup (L' := f1 ++ (f2 ++ (f4 ++ (fv ++ (f6 ++ f7))))) hn hl hv lv (fun a => by simp only [List.count_append, List.count_nil]; omega) hlo hMH
       exact ⟨_, ⟨_, _, _, v, _, _, f1, f2, f4, fv, f6, f7, rfl, hf, o1, o2, o4, ov, o6, o7, rfl, a⟩, b⟩)
    | (obtain ⟨a, b⟩ := ins_nodup (L' := f1 ++ (f2 ++ (f4 ++ (f5 ++ (fv ++ f7))))) hn hl hv lv (fun a => by simp only [List.count_append, List.count_nil]; omega) hlo hMH
       exact ⟨_, ⟨_, _, _, _, v, _, f1, f2, f4, f5, fv, f7, rfl, hf, o1, o2, o4, o5, ov, o7, rfl, a⟩, b⟩)
    | (obtain ⟨a, b⟩ := ins_nodup (L' := f1 ++ (f2 ++ (f4 ++ (f5 ++ (f6 ++ fv))))) hn hl hv lv (fun a => by simp only [List.count_append, List.count_nil]; omega) hlo hMH
       exact ⟨_, ⟨_, _, _, _, _, v, f1, f2, f4, f5, f6, fv, rfl, hf, o1, o2, o4, o5, o6, ov, rfl, a⟩, b⟩)

theorem ins_project {w : World} {lo M H : Nat} {c1 c2 c4 c5 c6 c7 v : Value} {p : ProgD} {xs : List Int} (h : OwnIn lo M w [.int .i64 p.atoms, c1, c2, .bool p.projOn, .slice none 0 0, c5, c6, c7] p) (k : OwnIn M H w [v] xs) (hlo : lo ≤ M) (hMH : M ≤ H) :
    OwnIn lo H w [.int .i64 p.atoms, c1, c2, .bool p.projOn, v, c5, c6, c7] { p with project := xs } := by
  obtain ⟨fp, ⟨d1, d2, d4, d5, d6, d7, f1, f2, f4, f5, f6, f7, e, hf, o1, o2, o4, o5, o6, o7, rfl, hn⟩, hl⟩ := h
  simp only [List.cons.injEq, and_true, true_and] at e
  obtain ⟨rfl, rfl, rfl, rfl, rfl, rfl⟩ := e
  obtain ⟨fv, ov, lv⟩ := k
  have hv := Ow.nodup (α := List Int) ov
  obtain rfl := own_nil_fp o4
  first
    | (obtain ⟨a, b⟩ := ins_nodup (L' := fv ++ (f2 ++ (f4 ++ (f5 ++ (f6 ++ f7))))) hn hl hv lv (fun a => by simp only [List.count_append, List.count_nil]; omega) hlo hMH
       exact ⟨_, ⟨v, _, _, _, _, _, fv, f2, f4, f5, f6, f7, rfl, hf, ov, o2, o4, o5, o6, o7, rfl, a⟩, b⟩)
    | (obtain ⟨a, b⟩ := ins_nodup (L' := f1 ++ (fv ++ (f4 ++ (f5 ++ (f6 ++ f7))))) hn hl hv lv (fun a => by simp only [List.count_append, List.count_nil]; omega) hlo hMH
       exact ⟨_, ⟨_, v, _, _, _, _, f1, fv, f4, f5, f6, f7, rfl, hf, o1, ov, o4, o5, o6, o7, rfl, a⟩, b⟩)
    | (obtain ⟨a, b⟩ := ins_nodup (L' := f1 ++ (f2 ++ (fv ++ (f5 ++ (f6 ++ f7))))) hn hl hv lv (fun a => by simp only [List.count_append, List.count_nil]; omega) hlo hMH
       exact ⟨_, ⟨_, _, v, _, _, _, f1, f2, fv, f5, f6, f7, rfl, hf, o1, o2, ov, o5, o6, o7, rfl, a⟩, b⟩)
    | (obtain ⟨a, b⟩ := ins_nodup (L' := f1 ++ (f2 ++ (f4 ++ (fv ++ (f6 ++ f7))))) hn hl hv lv (fun a => by simp only [List.count_append, List.count_nil]; omega) hlo hMH
       exact ⟨_, ⟨_, _, _, v, _, _, f1, f2, f4, fv, f6, f7, rfl, hf, o1, o2, o4, ov, o6, o7, rfl, a⟩, b⟩)
    | (obtain ⟨a, b⟩ := ins_nodup (L' := f1 ++ (f2 ++ (f4 ++ (f5 ++ (fv ++ f7))))) hn hl hv lv (fun a => by simp only [List.count_append, List.count_nil]; omega) hlo hMH
       exact ⟨_, ⟨_, _, _, _, v, _, f1, f2, f4, f5, fv, f7, rfl, hf, o1, o2, o4, o5, ov, o7, rfl, a⟩, b⟩)
    | (obtain ⟨a, b⟩ := ins_nodup (L' := f1 ++ (f2 ++ (f4 ++ (f5 ++ (f6 ++ fv))))) hn hl hv lv (fun a => by simp only [List.count_append, List.count_nil]; omega) hlo hMH
       exact ⟨_, ⟨_, _, _, _, _, v, f1, f2, f4, f5, f6, fv, rfl, hf, o1, o2, o4, o5, o6, ov, rfl, a⟩, b⟩)

theorem ins_shows {w : World} {lo M H : Nat} {c1 c2 c4 c5 c6 c7 v : Value} {p : ProgD} {xs : List ShowD} (h : OwnIn lo M w [.int .i64 p.atoms, c1, c2, .bool p.projOn, c4, .slice none 0 0, c6, c7] p) (k : OwnIn M H w [v] xs) (hlo : lo ≤ M) (hMH : M ≤ H) :
    OwnIn lo H w [.int .i64 p.atoms, c1, c2, .bool p.projOn, c4, v, c6, c7] { p with shows := xs } := by
  obtain ⟨fp, ⟨d1, d2, d4, d5, d6, d7, f1, f2, f4, f5, f6, f7, e, hf, o1, o2, o4, o5, o6, o7, rfl, hn⟩, hl⟩ := h
  simp only [List.cons.injEq, and_true, true_and] at e
  obtain ⟨rfl, rfl, rfl, rfl, rfl, rfl⟩ := e
  obtain ⟨fv, ov, lv⟩ := k
  have hv := Ow.nodup (α := List ShowD) ov
  obtain rfl := own_nil_fp o5
  first
    | (obtain ⟨a, b⟩ := ins_nodup (L' := fv ++ (f2 ++ (f4 ++ (f5 ++ (f6 ++ f7))))) hn hl hv lv (fun a => by simp only [List.count_append, List.count_nil]; omega) hlo hMH
       exact ⟨_, ⟨v, _, _, _, _, _, fv, f2, f4, f5, f6, f7, rfl, hf, ov, o2, o4, o5, o6, o7, rfl, a⟩, b⟩)
    | (obtain ⟨a, b⟩ := ins_nodup (L' := f1 ++ (fv ++ (f4 ++ (f5 ++ (f6 ++ f7))))) hn hl hv lv (fun a => by simp only [List.count_append, List.count_nil]; omega) hlo hMH
       exact ⟨_, ⟨_, v, _, _, _, _, f1, fv, f4, f5, f6, f7, rfl, hf, o1, ov, o4, o5, o6, o7, rfl, a⟩, b⟩)
    | (obtain ⟨a, b⟩ := ins_nodup (L' := f1 ++ (f2 ++ (fv ++ (f5 ++ (f6 ++ f7))))) hn hl hv lv (fun a => by simp only [List.count_append, List.count_nil]; omega) hlo hMH
       exact ⟨_, ⟨_, _, v, _, _, _, f1, f2, fv, f5, f6, f7, rfl, hf, o1, o2, ov, o5, o6, o7, rfl, a⟩, b⟩)
    | (obtain ⟨a, b⟩ := ins_nodup (L' := f1 ++ (f2 ++ (f4 ++ (fv ++ (f6 ++ f7))))) hn hl hv lv (fun a => by simp only [List.count_append, List.count_nil]; omega) hlo hMH
       exact ⟨_, ⟨_, _, _, v, _, _, f1, f2, f4, fv, f6, f7, rfl, hf, o1, o2, o4, ov, o6, o7, rfl, a⟩, b⟩)
    | (obtain ⟨a, b⟩ := ins_nodup (L' := f1 ++ (f2 ++ (f4 ++ (f5 ++ (fv ++ f7))))) hn hl hv lv (fun a => by simp only [List.count_append, List.count_nil]; omega) hlo hMH
       exact ⟨_, ⟨_, _, _, _, v, _, f1, f2, f4, f5, fv, f7, rfl, hf, o1, o2, o4, o5, ov, o7, rfl, a⟩, b⟩)
    | (obtain ⟨a, b⟩ := ins_nodup (L' := f1 ++ (f2 ++ (f4 ++ (f5 ++ (f6 ++ fv))))) hn hl hv lv (fun a => by simp only [List.count_append, List.count_nil]; omega) hlo hMH
       exact ⟨_, ⟨_, _, _, _, _, v, f1, f2, f4, f5, f6, fv, rfl, hf, o1, o2, o4, o5, o6, ov, rfl, a⟩, b⟩)

theorem ins_exts {w : World} {lo M H : Nat} {c1 c2 c4 c5 c6 c7 v : Value} {p : ProgD} {xs : List (Int × Int)} (h : OwnIn lo M w [.int .i64 p.atoms, c1, c2, .bool p.projOn, c4, c5, .slice none 0 0, c7] p) (k : OwnIn M H w [v] xs) (hlo : lo ≤ M) (hMH : M ≤ H) :
    OwnIn lo H w [.int .i64 p.atoms, c1, c2, .bool p.projOn, c4, c5, v, c7] { p with exts := xs } := by
  obtain ⟨fp, ⟨d1, d2, d4, d5, d6, d7, f1, f2, f4, f5, f6, f7, e, hf, o1, o2, o4, o5, o6, o7, rfl, hn⟩, hl⟩ := h
  simp only [List.cons.injEq, and_true, true_and] at e
  obtain ⟨rfl, rfl, rfl, rfl, rfl, rfl⟩ := e
  obtain ⟨fv, ov, lv⟩ := k
  have hv := Ow.nodup (α := List (Int × Int)) ov
  obtain rfl := own_nil_fp o6
  first
    | (obtain ⟨a, b⟩ := ins_nodup (L' := fv ++ (f2 ++ (f4 ++ (f5 ++ (f6 ++ f7))))) hn hl hv lv (fun a => by simp only [List.count_append, List.count_nil]; omega) hlo hMH
       exact ⟨_, ⟨v, _, _, _, _, _, fv, f2, f4, f5, f6, f7, rfl, hf, ov, o2, o4, o5, o6, o7, rfl, a⟩, b⟩)
    | (obtain ⟨a, b⟩ := ins_nodup (L' := f1 ++ (fv ++ (f4 ++ (f5 ++ (f6 ++ f7))))) hn hl hv lv (fun a => by simp only [List.count_append, List.count_nil]; omega) hlo hMH
       exact ⟨_, ⟨_, v, _, _, _, _, f1, fv, f4, f5, f6, f7, rfl, hf, o1, ov, o4, o5, o6, o7, rfl, a⟩, b⟩)
    | (obtain ⟨a, b⟩ := ins_nodup (L' := f1 ++ (f2 ++ (fv ++ (f5 ++ (f6 ++ f7))))) hn hl hv lv (fun a => by simp only [List.count_append, List.count_nil]; omega) hlo hMH
       exact ⟨_, ⟨_, _, v, _, _, _, f1, f2, fv, f5, f6, f7, rfl, hf, o1, o2, ov, o5, o6, o7, rfl, a⟩, b⟩)
    | (obtain ⟨a, b⟩ := ins_nodup (L' := f1 ++ (f2 ++ (f4 ++ (fv ++ (f6 ++ f7))))) hn hl hv lv (fun a => by simp only [List.count_append, List.count_nil]; omega) hlo hMH
       exact ⟨_, ⟨_, _, _, v, _, _, f1, f2, f4, fv, f6, f7, rfl, hf, o1, o2, o4, ov, o6, o7, rfl, a⟩, b⟩)
    | (obtain ⟨a, b⟩ := ins_nodup (L' := f1 ++ (f2 ++ (f4 ++ (f5 ++ (fv ++ f7))))) hn hl hv lv (fun a => by simp only [List.count_append, List.count_nil]; omega) hlo hMH
       exact ⟨_, ⟨_, _, _, _, v, _, f1, f2, f4, f5, fv, f7, rfl, hf, o1, o2, o4, o5, ov, o7, rfl, a⟩, b⟩)
    | (obtain ⟨a, b⟩ := ins_nodup (L' := f1 ++ (f2 ++ (f4 ++ (f5 ++ (f6 ++ fv))))) hn hl hv lv (fun a => by simp only [List.count_append, List.count_nil]; omega) hlo hMH
       exact ⟨_, ⟨_, _, _, _, _, v, f1, f2, f4, f5, f6, fv, rfl, hf, o1, o2, o4, o5, o6, ov, rfl, a⟩, b⟩)

theorem ins_assume {w : World} {lo M H : Nat} {c1 c2 c4 c5 c6 c7 v : Value} {p : ProgD} {xs : List Int} (h : OwnIn lo M w [.int .i64 p.atoms, c1, c2, .bool p.projOn, c4, c5, c6, .slice none 0 0] p) (k : OwnIn M H w [v] xs) (hlo : lo ≤ M) (hMH : M ≤ H) :
    OwnIn lo H w [.int .i64 p.atoms, c1, c2, .bool p.projOn, c4, c5, c6, v] { p with assume := xs } := by
  obtain ⟨fp, ⟨d1, d2, d4, d5, d6, d7, f1, f2, f4, f5, f6, f7, e, hf, o1, o2, o4, o5, o6, o7, rfl, hn⟩, hl⟩ := h
  simp only [List.cons.injEq, and_true, true_and] at e
  obtain ⟨rfl, rfl, rfl, rfl, rfl, rfl⟩ := e
  obtain ⟨fv, ov, lv⟩ := k
  have hv := Ow.nodup (α := List Int) ov
  obtain rfl := own_nil_fp o7
  first
    | (obtain ⟨a, b⟩ := ins_nodup (L' := fv ++ (f2 ++ (f4 ++ (f5 ++ (f6 ++ f7))))) hn hl hv lv (fun a => by simp only [List.count_append, List.count_nil]; omega) hlo hMH
       exact ⟨_, ⟨v, _, _, _, _, _, fv, f2, f4, f5, f6, f7, rfl, hf, ov, o2, o4, o5, o6, o7, rfl, a⟩, b⟩)
    | (obtain ⟨a, b⟩ := ins_nodup (L' := f1 ++ (fv ++ (f4 ++ (f5 ++ (f6 ++ f7))))) hn hl hv lv (fun a => by simp only [List.count_append, List.count_nil]; omega) hlo hMH
       exact ⟨_, ⟨_, v, _, _, _, _, f1, fv, f4, f5, f6, f7, rfl, hf, o1, ov, o4, o5, o6, o7, rfl, a⟩, b⟩)
    | (obtain ⟨a, b⟩ := ins_nodup (L' := f1 ++ (f2 ++ (fv ++ (f5 ++ (f6 ++ f7))))) hn hl hv lv (fun a => by simp only [List.count_append, List.count_nil]; omega) hlo hMH
       exact ⟨_, ⟨_, _, v, _, _, _, f1, f2, fv, f5, f6, f7, rfl, hf, o1, o2, ov, o5, o6, o7, rfl, a⟩, b⟩)
    | (obtain ⟨a, b⟩ := ins_nodup (L' := f1 ++ (f2 ++ (f4 ++ (fv ++ (f6 ++ f7))))) hn hl hv lv (fun a => by simp only [List.count_append, List.count_nil]; omega) hlo hMH
       exact ⟨_, ⟨_, _, _, v, _, _, f1, f2, f4, fv, f6, f7, rfl, hf, o1, o2, o4, ov, o6, o7, rfl, a⟩, b⟩)
    | (obtain ⟨a, b⟩ := ins_nodup (L' := f1 ++ (f2 ++ (f4 ++ (f5 ++ (fv ++ f7))))) hn hl hv lv (fun a => by simp only [List.count_append, List.count_nil]; omega) hlo hMH
       exact ⟨_, ⟨_, _, _, _, v, _, f1, f2, f4, f5, fv, f7, rfl, hf, o1, o2, o4, o5, ov, o7, rfl, a⟩, b⟩)
    | (obtain ⟨a, b⟩ := ins_nodup (L' := f1 ++ (f2 ++ (f4 ++ (f5 ++ (f6 ++ fv))))) hn hl hv lv (fun a => by simp only [List.count_append, List.count_nil]; omega) hlo hMH
       exact ⟨_, ⟨_, _, _, _, _, v, f1, f2, f4, f5, f6, fv, rfl, hf, o1, o2, o4, o5, o6, ov, rfl, a⟩, b⟩)

/-- The zero of a program. -/
abbrev zP : List Value := [.int .i64 0, .slice none 0 0, .slice none 0 0, .bool false, .slice none 0 0, .slice none 0 0, .slice none 0 0, .slice none 0 0]
/-- A program that is small. -/
def SmL (x : LevelD) : Prop := x.lits.length ≤ 30
def SmW (x : ShowD) : Prop := x.cond.length ≤ 30
def SmP (p : ProgD) : Prop := (p.rules.length ≤ 30 ∧ ∀ x ∈ p.rules, SmR x) ∧ (p.levels.length ≤ 30 ∧ ∀ x ∈ p.levels, SmL x) ∧ p.project.length ≤ 30 ∧ (p.shows.length ≤ 30 ∧ ∀ x ∈ p.shows, SmW x) ∧ p.exts.length ≤ 30 ∧ p.assume.length ≤ 30
theorem sm_snoc {α : Type} {P : α → Prop} {xs : List α} {y : α} (h : ∀ x ∈ xs, P x) (hy : P y) : ∀ x ∈ xs ++ [y], P x := fun x hx => by
  rcases List.mem_append.1 hx with hx | hx
  · exact h x hx
  · rw [List.mem_singleton.1 hx]; exact hy
theorem sm_pA (a : Int) : SmP (⟨a, [], [], false, [], [], [], []⟩ : ProgD) := ⟨⟨by simp, by simp⟩, ⟨by simp, by simp⟩, by simp, ⟨by simp, by simp⟩, by simp, by simp⟩
section
variable {p : ProgD}
theorem sm_rules {xs : List RuleD} (h : SmP p) (h1 : xs.length ≤ 30) (h2 : ∀ x ∈ xs, SmR x) : SmP { p with rules := xs } := ⟨⟨h1, h2⟩, h.2⟩
theorem sm_levels {xs : List LevelD} (h : SmP p) (h1 : xs.length ≤ 30) (h2 : ∀ x ∈ xs, SmL x) : SmP { p with levels := xs } := ⟨h.1, ⟨h1, h2⟩, h.2.2⟩
theorem sm_project {xs : List Int} (h : SmP p) (h1 : xs.length ≤ 30) : SmP { p with project := xs } := ⟨h.1, h.2.1, h1, h.2.2.2⟩
theorem sm_shows {xs : List ShowD} (h : SmP p) (h1 : xs.length ≤ 30) (h2 : ∀ x ∈ xs, SmW x) : SmP { p with shows := xs } := ⟨h.1, h.2.1, h.2.2.1, ⟨h1, h2⟩, h.2.2.2.2⟩
theorem sm_exts {xs : List (Int × Int)} (h : SmP p) (h1 : xs.length ≤ 30) : SmP { p with exts := xs } := ⟨h.1, h.2.1, h.2.2.1, h.2.2.2.1, h1, h.2.2.2.2.2⟩
theorem sm_assume {xs : List Int} (h : SmP p) (h1 : xs.length ≤ 30) : SmP { p with assume := xs } := ⟨h.1, h.2.1, h.2.2.1, h.2.2.2.1, h.2.2.2.2.1, h1⟩
end
/-- A program that is being drawn: its box (at G) holds bx; what is finished of it is p, with the blocks from G on to M. -/
structure PS (w : World) (c N G M : Nat) (wz : World) (bx cs : List Value) (p : ProgD) : Prop where
  res : wz.heap[w.heap.size]? = some (.cells zP.toArray 30 (0, 0))
  box : wz.heap[G]? = some (.cells bx.toArray 30 (0, 0))
  fin : OwnIn (G + 1) M wz cs p
  lt : w.heap.size < G
  le : G + 1 ≤ M ∧ M ≤ wz.heap.size
  cur : Cur wz c N
  cg : Cg (New c w) w wz
  sm : SmP p
section
variable {w wz w2 : World} {c N N' G M : Nat} {bx cs : List Value} {p : ProgD}
theorem PS.mono (h : PS w c N G M wz bx cs p) (hN : N ≤ N') : PS w c N' G M wz bx cs p := ⟨h.res, h.box, h.fin, h.lt, h.le, h.cur.mono hN, h.cg, h.sm⟩
/-- What touches none of what is finished, and keeps the box. -/
theorem PS.keep (h : PS w c N G M wz bx cs p) (hc : c < w.heap.size) (hg : Cg (fun g => g = c ∨ M ≤ g) wz w2) (hcur : Cur w2 c N') : PS w c N' G M w2 bx cs p := by
  have h1 := h.lt
  have h2 := h.le
  exact ⟨hg.at h.res (by omega), hg.at h.box (by omega), h.fin.cg hg (fun g a b e => by omega), h.lt, ⟨h2.1, Nat.le_trans h2.2 hg.size⟩, hcur, h.cg.trans (hg.more fun g _ e => by rcases e with e | e; exact .inl e; exact .inr (by omega)), h.sm⟩
theorem PS.pick (h : PS w c N G M wz bx cs p) (hc : c < w.heap.size) (hw : Wrote c wz w2) (hcur : Cur w2 c N') : PS w c N' G M w2 bx cs p := h.keep hc (Cg.wrote hw (.inl rfl)) hcur
theorem PS.put (h : PS w c N G M wz bx cs p) (hc : c < w.heap.size) (hb : Below M wz w2) (i : Nat) (v : Value) : PS w c N G M (w2.setCell ⟨G, i, none⟩ v) (bx.set i v) cs p := by
  have h1 := h.lt
  have h2 := h.le
  have b : Cg (fun g => M ≤ g) wz w2 := Cg.lo hb fun g _ hg => hg
  have k : Cg (fun g => g = G) w2 (w2.setCell ⟨G, i, none⟩ v) := (Cg.refl (fun g => g = G) w2).set i v (show G = G from rfl)
  exact ⟨k.at (b.at h.res (by omega)) (by omega), box_set (b.at h.box (by omega)) v, (h.fin.cg b (fun g a b e => by have e : M ≤ g := e; omega)).cg k (fun g a b e => by omega), h.lt, ⟨h2.1, by have := b.size; have := k.size; omega⟩,
    (h.cur.cg (b.more fun g _ hg => by omega)).cg (k.more fun g _ hg => by omega), (h.cg.trans (b.more fun g _ hg => .inr (by omega))).trans (k.more fun g _ hg => .inr (by omega)), h.sm⟩
theorem PS.next (h : PS w c N G M wz bx cs p) {cs' : List Value} {p' : ProgD} (hf : OwnIn (G + 1) wz.heap.size wz cs' p') (hs : SmP p') : PS w c N G wz.heap.size wz bx cs' p' :=
  ⟨h.res, h.box, hf, h.lt, ⟨by have := h.le; omega, Nat.le_refl _⟩, h.cur, h.cg, hs⟩
theorem PS.blt (h : PS w c N G M wz bx cs p) : G < wz.heap.size := block_lt h.box
end
theorem ownD_in {α : Type} [Ow α] {M : Nat} {e : TypeId} {w : World} {v : Value} {xs : List α} (h : OwnD M (fun g => M ≤ g) e w v xs) : OwnIn M w.heap.size w [v] xs := by
  obtain ⟨fp, o, l⟩ := h.own
  exact ⟨fp, o, fun g hg => ⟨l g hg, Ow.lt (α := List α) o g hg⟩⟩
theorem ownD_nil {α : Type} [Ow α] {M : Nat} {e : TypeId} {w : World} : OwnD (α := α) M (fun g => M ≤ g) e w (.slice none 0 0) [] := OwnD.start (World.ownsRow_nil _ _ _ _) (fun g hg => by simp [Value.ownBlock] at hg)
/-- A program of which nothing is finished but its atoms. -/
def pA (a : Int) : ProgD := ⟨a, [], [], false, [], [], [], []⟩
theorem own_pA {lo hi : Nat} {w : World} {a : Int} (h : Fits a) : OwnIn lo hi w [.int .i64 a, .slice none 0 0, .slice none 0 0, .bool false, .slice none 0 0, .slice none 0 0, .slice none 0 0, .slice none 0 0] (pA a) := by
  have n1 : OwL (α := RuleD) w [.slice none 0 0] [] [] := ⟨none, 0, rfl, by simp, by simp, .inl ⟨rfl, rfl, rfl⟩⟩
  have n2 : OwL (α := LevelD) w [.slice none 0 0] [] [] := ⟨none, 0, rfl, by simp, by simp, .inl ⟨rfl, rfl, rfl⟩⟩
  have n4 : OwL (α := Int) w [.slice none 0 0] [] [] := ⟨none, 0, rfl, by simp, by simp, .inl ⟨rfl, rfl, rfl⟩⟩
  have n5 : OwL (α := ShowD) w [.slice none 0 0] [] [] := ⟨none, 0, rfl, by simp, by simp, .inl ⟨rfl, rfl, rfl⟩⟩
  have n6 : OwL (α := Int × Int) w [.slice none 0 0] [] [] := ⟨none, 0, rfl, by simp, by simp, .inl ⟨rfl, rfl, rfl⟩⟩
  exact ⟨[], ⟨_, _, _, _, _, _, [], [], [], [], [], [], rfl, h, n1, n2, n4, n5, n6, n4, rfl, List.nodup_nil⟩, by simp⟩
theorem PS.start {w w1 : World} {c N : Nat} {a : Int} (hc : c < w.heap.size) (hF : Fits a) (hw : Wrote c (w.alloc (.cells zP.toArray 30)) w1) (hcur : Cur w1 c N) :
    PS w c N w1.heap.size (w1.heap.size + 1) (w1.alloc (.cells #[.int .i64 a, .slice none 0 0, .slice none 0 0, .bool false, .slice none 0 0, .slice none 0 0, .slice none 0 0, .slice none 0 0] 30)) [.int .i64 a, .slice none 0 0, .slice none 0 0, .bool false, .slice none 0 0, .slice none 0 0, .slice none 0 0, .slice none 0 0]
      [.int .i64 a, .slice none 0 0, .slice none 0 0, .bool false, .slice none 0 0, .slice none 0 0, .slice none 0 0, .slice none 0 0] (pA a) := by
  have hz := hw.size
  rw [World.size_alloc] at hz
  have k := Cg.wrote (S := fun g => g = c) hw rfl
  have b0 := k.at (alloc_block w zP.toArray 30) (by omega)
  refine ⟨(Cg.alloc (Cg.refl (fun _ => False) w1) _).at b0 (fun h => h), alloc_block w1 _ _, own_pA hF, by omega, ⟨Nat.le_refl _, by rw [World.size_alloc]; exact Nat.le_refl _⟩, hcur.cg (Cg.alloc (Cg.refl _ w1) _), ?_, sm_pA a⟩
  exact (((Cg.refl (New c w) w).alloc _).trans (k.more fun g _ hg => .inl hg)).alloc _

theorem info_rule : (Tryz.prog.info? 34).map (fun i => (i.zero, i.size, i.bytes)) = some (some (.agg #[.bool false, .slice none 0 0, .bool false, .int .i64 0, .slice none 0 0]), 5, 72) := by kernel_rfl
/-- One more of a row that is kept in a field of the box: the row lies below B0, what is new from B0 on. -/
theorem app_run {α : Type} [Ow α] {w : World} {M B0 g c : Nat} {t e : TypeId} {v : Value} {xs : List α} {y : α} {ecs : List Value} (i : TypeInfo) (z : Value) (bytes : Nat) (ht : Tryz.prog.underlying t = some (.slice e)) (hi : Tryz.prog.info? e = some i) (hz : i.zero = some z) (hsize : i.size = Rd.k α) (hby : i.bytes = bytes) (hzs : z.cells.size = Rd.k α) (hK : 0 < Rd.k α)
    (h : OwnD (α := α) M (fun f => M ≤ f ∧ f < B0) e w v xs) (hc : Cells w g 0 ecs) (ho : Own B0 w ecs y) (hM : M ≤ B0) (hB : B0 ≤ w.heap.size) (hl : (xs.length + 1) * bytes ≤ 140737488355328) (hl2 : xs.length + 1 ≤ 140737488355328) :
    ∃ a q w7, (Builtin.append_ #[t, t] t #[v, .slice (some ⟨g, 0, none⟩) 1 c]).run Tryz.prog w = .ok (.slice a (xs.length + 1) q) w7 ∧ OwnD (α := α) M (fun f => M ≤ f) e w7 (.slice a (xs.length + 1) q) (xs ++ [y]) ∧ Below M w w7 ∧ w.heap.size ≤ w7.heap.size := by
  obtain ⟨fp, ho, hfp⟩ := ho
  obtain ⟨v', w', r1, r2, r3, r4⟩ := run_append_D (α := α) (P := Tryz.prog) (w := w) (zs := [y]) (fps2 := [fp]) (ad := ⟨g, 0, none⟩) (c := c) (ty := t) (D2 := fun f => B0 ≤ f) i z bytes ht hi hz hsize hby hzs hK h
    ⟨g, 0, rfl, rfl, by simpa using Ow.nodup ho, fun j hj => by
      have : j = 0 := by simp at hj; omega
      subst this
      exact ⟨ecs, by rw [Nat.zero_mul]; exact hc, ho⟩⟩ (fun f hf => hfp f (by simpa using hf)) (fun f h1 h2 => by have := h1.2; omega) hl hl2 (Nat.le_trans hM hB)
  have r5 := r2.weak (B' := M) (D' := fun f => M ≤ f) (Nat.le_refl _) fun f hf => hf.elim (fun h => h.1) fun h => h.elim (fun h => Nat.le_trans hM h) fun h => Nat.le_trans (Nat.le_trans hM hB) h
  obtain ⟨a, q, rfl⟩ := r5.form
  rw [List.length_append] at r1 r5
  exact ⟨a, q, w', r1, r5, r3, r4.size⟩
theorem ownD_below {α : Type} [Ow α] {M : Nat} {e : TypeId} {w : World} {v : Value} {xs : List α} (h : OwnD M (fun g => M ≤ g) e w v xs) : OwnD M (fun f => M ≤ f ∧ f < w.heap.size) e w v xs := h.ltD

end Go.Proofs.YthikhkeofcjdfaaGreat
