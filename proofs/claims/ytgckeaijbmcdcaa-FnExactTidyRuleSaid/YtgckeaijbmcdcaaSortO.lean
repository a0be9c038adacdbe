/-
  A row of literals in the order of a body. No condition of its own.
-/
import Derived.Test.YtgckeaijbmcdcaaSortL
import Derived.Test.YtgckeaijbmcdcaaTidyS
namespace Go.Proofs.Ytgckeaijbmcdcaa
open Go.RowKit
set_option maxRecDepth 100000

theorem kp_sortW (w : World) (g m : Nat) (ys : List Pq) (os : Array Obj) : Kp w.heap.size (fun _ => False) g w (sortW w g m ys os) :=
  ⟨rfl, rfl, rfl, by rw [sortW_size]; omega, fun _ h1 _ h3 => sortW_block w g m ys os h1 h3⟩
theorem Kp.tr {B : Nat} {D0 : Nat → Prop} {g : Nat} {w w' w'' : World} (h : Kp B D0 g w w') (k : Kp w'.heap.size D0 g w' w'') (hB : B ≤ w'.heap.size) : Kp B D0 g w w'' :=
  ⟨k.os.trans h.os, k.tape.trans h.tape, k.output.trans h.output, Nat.le_trans h.size k.size, fun j h1 h2 h3 => (k.block j (by omega) h2 h3).trans (h.block j h1 h2 h3)⟩

set_option maxHeartbeats 2000000 in
theorem stable_calls {B D b g cap} {w : World} {xs : List Pr} (h : PRow B D w (.slice (some ⟨g, 0, none⟩) xs.length cap) xs) (hr : ∀ p ∈ xs, inR p) (hl : xs.length ≤ 20) (hb : b < w.heap.size) (hg : b ≠ g) (hc : w.cell? ⟨b, 0, none⟩ = some rankF) :
    Calls Try.prog 119 #[.slice (some ⟨g, 0, none⟩) xs.length cap, .int .i64 xs.length, byRank b] w fun e w' =>
      e = .returned (.tuple #[]) ∧ PRow B D w' (.slice (some ⟨g, 0, none⟩) xs.length cap) (ordL xs) ∧ Kp w.heap.size (fun _ => False) g w w' := by
  have hA := insAll_calls h hr hl hb hg hc
  have hlo := (insSort_list hr).2
  have H1 := fun m os => h.sorted hlo (ordL_in hr) (ordL_fits h.fits) m os
  have hgl := (h.lt (g := g) rfl).2
  by_cases hn : xs.length = 20
  · have hN := fun m os => insNone_calls (b := b) (w := sortW w g m (ordL xs) os) (by rw [hlo]; exact H1 m os) (ordL_in hr) (by omega) (by rw [sortW_size]; omega) hg ((World.cell?_of_block (a := ⟨b, 0, none⟩) (sortW_block w g m (ordL xs) os hb hg)).trans hc)
    have H2 := fun m os m' os' => (H1 m os).sorted rfl (ordL_in hr) (ordL_fits h.fits) m' os'
    have K2 := fun m os m' os' => (kp_sortW w g m (ordL xs) os).tr (kp_sortW (sortW w g m (ordL xs) os) g m' (ordL xs) os') (by rw [sortW_size]; omega)
    rw [hlo] at hN
    rw [hn] at hA hN H2 ⊢
    have H2 := Lib.hid H2
    have K2 := Lib.hid K2
    clear h hr hl hc hb H1 hgl hn hlo
    obtain ⟨ys, hys⟩ : ∃ ys, ys = ordL xs := ⟨_, rfl⟩
    rw [← hys] at hA hN H2 K2 ⊢
    clear hys
    go_enter Try.func119, Try.ntmps119
    go_wp2
    refine wp_loop_rounds 2 ?_
    rw [rounds_succ]
    go_wp2_with (go_at_call 122; refine hA.mono ?_; rintro e w' ⟨rfl, m1, os1, rfl⟩)
    rw [rounds_succ]
    go_wp2_with (go_at_call 122; refine (hN m1 os1).mono ?_; rintro e w' ⟨rfl, m2, os2, rfl⟩)
    refine wp_loop_rounds 1 ?_
    rw [rounds_succ]
    go_wp2
    go_end0
    exact ⟨rfl, H2.out m1 os1 m2 os2, K2.out m1 os1 m2 os2⟩
  · have hlt : (xs.length : Int) < 20 := by omega
    have H1 := Lib.hid H1
    clear h hr hl hc hb hgl hn hlo
    go_enter Try.func119, Try.ntmps119
    go_wp2
    refine wp_loop_rounds 1 ?_
    rw [rounds_succ]
    go_wp2_with (go_at_call 122; refine hA.mono ?_; rintro e w' ⟨rfl, m1, os1, rfl⟩)
    refine wp_loop_rounds 1 ?_
    rw [rounds_succ]
    go_wp2
    go_end0
    exact ⟨rfl, H1.out m1 os1, kp_sortW w g m1 (ordL xs) os1⟩
set_option maxHeartbeats 1000000 in
theorem stableNil_calls (fv : Value) (w : World) :
    Calls Try.prog 119 #[.slice none 0 0, .int .i64 0, fv] w fun e w' => e = .returned (.tuple #[]) ∧ w = w' := by
  go_enter Try.func119, Try.ntmps119
  go_wp2
  refine wp_loop_rounds 1 ?_
  rw [rounds_succ]
  go_wp2_with (go_at_call 122; refine (insNil_calls _ _).mono ?_; rintro e w' ⟨rfl, rfl⟩)
  refine wp_loop_rounds 1 ?_
  rw [rounds_succ]
  go_wp2
  go_end0
  exact ⟨rfl, rfl⟩
set_option maxHeartbeats 1000000 in
theorem sortStable_calls {B D b g cap} {w : World} {xs : List Pr} (h : PRow B D w (.slice (some ⟨g, 0, none⟩) xs.length cap) xs) (hr : ∀ p ∈ xs, inR p) (hl : xs.length ≤ 20) (hb : b < w.heap.size) (hg : b ≠ g) (hc : w.cell? ⟨b, 0, none⟩ = some rankF) :
    Calls Try.prog 112 #[.slice (some ⟨g, 0, none⟩) xs.length cap, byRank b] w fun e w' =>
      e = .returned (.tuple #[]) ∧ PRow B D w' (.slice (some ⟨g, 0, none⟩) xs.length cap) (ordL xs) ∧ Kp w.heap.size (fun _ => False) g w w' := by
  have hS := stable_calls h hr hl hb hg hc
  clear h hr hc hb hg
  go_enter Try.func112, Try.ntmps112
  go_wp2_with (go_at_call 119; refine hS.mono ?_; rintro e w2 ⟨rfl, o2, k2⟩)
  go_end0
  exact ⟨rfl, o2, k2⟩
set_option maxHeartbeats 1000000 in
theorem sortStableNil_calls (fv : Value) (w : World) :
    Calls Try.prog 112 #[.slice none 0 0, fv] w fun e w' => e = .returned (.tuple #[]) ∧ w = w' := by
  go_enter Try.func112, Try.ntmps112
  go_wp2_with (go_at_call 119; refine (stableNil_calls _ _).mono ?_; rintro e w' ⟨rfl, rfl⟩)
  go_end0
  exact ⟨rfl, rfl⟩
/-- A row of literals of atoms, with sums of W. -/
def WBg (xs : List Pq) : Prop := xs.length ≤ 20 ∧ ∀ p ∈ xs, inR p ∧ 1 ≤ p.2 ∧ p.2 ≤ 20000
theorem WOk.big {xs : List Pq} (h : WOk xs) : WBg xs := ⟨h.1, fun p hp => ⟨(h.2 p hp).1, (h.2 p hp).2.1, by have := (h.2 p hp).2.2; omega⟩⟩
theorem WBg.inR {xs : List Pq} (h : WBg xs) : ∀ p ∈ xs, inR p := fun p hp => (h.2 p hp).1
set_option maxHeartbeats 1000000 in
theorem cloneP_calls {v : Value} {xs : List Pr} {w : World} (h : RdL w [v] xs) (hl : xs.length ≤ 1048576) :
    Calls Try.prog 86 #[v] w fun e w' => ∃ v', e = .returned v' ∧ PRow w.heap.size (fun f => w.heap.size ≤ f) w' v' xs ∧ Below w.heap.size w w' := by
  have g := h
  have en := eql_nil Try.underlying46
  have es := eql_some Try.underlying46
  obtain ⟨a, cap, rfl, _, hr⟩ := h.sl
  obtain ⟨i0, hi, hz0, hz1, hz2⟩ := info_parts info_cloneWLit
  cases a with
  | none =>
    have hn := row_none hr
    subst hn
    go_enter Try.func86, Try.ntmps86
    go_wp2
    go_ret
    exact ⟨_, rfl, PRow.nil _ _ _, Below.refl _ _⟩
  | some p =>
    have tA := (Below.refl w.heap.size w).alloc (Nat.le_refl _) (.cells #[] 84)
    have hoA : OwnF (α := Int × Int) w.heap.size 84 (w.alloc (.cells #[] 84)) (.slice (some ⟨w.heap.size, 0, none⟩) 0 0) [] := OwnF.new w (Nat.le_refl _)
    clear hr
    go_enter Try.func86, Try.ntmps86
    go_wp2_with (at_builtin; refine wpList_append_flat (α := Int × Int) rfl _ _ 46 rfl i0 (.agg #[.int .i64 0, .int .i64 0]) 16 Try.underlying46 hi hz0 hz1 hz2 rfl rfl hoA rfl (Rd.mono (α := List (Int × Int)) tA g) (by simp; omega) (by simp; omega) (by simp) ?_; intro v1 w1 ho1 hb1 _)
    rw [List.nil_append] at ho1
    go_ret
    have hO : PRow w.heap.size (fun _ => True) w1 v1 xs := ⟨ho1, fun _ _ => trivial⟩
    exact ⟨_, rfl, ⟨ho1, fun g hg => (hO.lt hg).1⟩, tA.trans hb1⟩
set_option maxHeartbeats 1000000 in
theorem inOrder_calls {v : Value} {xs : List Pr} {w : World} (h : RdL w [v] xs) (hw : WBg xs) :
    Calls Try.prog 98 #[v, rankF] w fun e w' => ∃ v', e = .returned v' ∧ PRow w.heap.size (fun f => w.heap.size ≤ f) w' v' (ordL xs) ∧ Below w.heap.size w w' := by
  have HR := Lib.hid hw.inR
  have hl := hw.1
  have tA := (Below.refl w.heap.size w).alloc (Nat.le_refl _) (.cells #[rankF] 127)
  have hA : (w.alloc (.cells #[rankF] 127)).cell? ⟨w.heap.size, 0, none⟩ = some rankF := (Cells.new w [rankF] 127).c0
  have hsA := World.size_alloc w (.cells #[rankF] 127)
  have hC := cloneP_calls (Rd.mono (α := List (Int × Int)) tA h) (by omega)
  clear hw
  obtain ⟨a, cap, rfl, _, _⟩ := h.sl
  clear h
  go_enter Try.func98, Try.ntmps98
  go_wp2_with fail
  refine hC.mono ?_
  rintro e w1 ⟨v1, rfl, o1, b1⟩
  rw [hsA] at o1 b1
  have z1 := b1.size
  rw [hsA] at z1
  have c1 := (World.cell?_of_block (a := ⟨w.heap.size, 0, none⟩) (b1.block w.heap.size (by omega))).trans hA
  have t1 := tA.trans (b1.mono (by omega))
  rcases o1.form with ⟨rfl, rfl⟩ | ⟨g, c, rfl, _, _, hgD, hgB, hgl⟩
  · have T1 := Lib.hid t1
    clear o1 t1 b1 tA c1 hA hC hsA
    go_wp2_with (go_at_call 112; refine (sortStableNil_calls _ _).mono ?_; rintro e w' ⟨rfl, rfl⟩)
    go_ret
    exact ⟨_, rfl, PRow.nil _ _ _, T1.out⟩
  · have hS := sortStable_calls o1 HR.out hl (by omega) (by omega) c1
    have T1 := Lib.hid t1
    clear o1 t1 b1 tA c1 hA hC hsA hgD
    go_wp2_with (go_at_call 112; refine hS.mono ?_; rintro e w2 ⟨rfl, o2, k2⟩)
    go_ret
    exact ⟨_, rfl, o2.weak (by omega) (fun f hf => by omega), T1.out.trans (k2.below (lo := w.heap.size) (by omega) (by omega) fun _ h => h.elim)⟩
end Go.Proofs.Ytgckeaijbmcdcaa
