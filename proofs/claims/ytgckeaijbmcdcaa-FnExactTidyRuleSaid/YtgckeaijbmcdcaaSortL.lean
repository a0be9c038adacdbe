/-
  The library's stable sort of literals by rank: at most 20 of them. No condition of its own.
-/
import Derived.Test.YtgckeaijbmcdcaaSortI
import Derived.Shelf.SlSortCmp.InsertionK
import Derived.Shelf.SlGeneric
import Derived.Ground.SlsfProg
namespace Go.Proofs.Ytgckeaijbmcdcaa
open Go.RowKit
set_option maxRecDepth 100000

shelf_lay_g SlLaysF0.n20 Slsf 20 at Try 122 as insL0

def rankF : Value := .func (.func 99) #[] #[]
def byRank (b : Nat) : Value := .func (.func 113) #[] #[.pointer (some ⟨b, 0, none⟩)]
theorem encR_get (p : Pq) : ∃ l c, encR p = [.int .i64 l, .int .i64 c] ∧ rkR p = rankI l ∧ -12 ≤ l ∧ l ≤ 12 := by
  unfold encR rkR
  by_cases h : inR p
  · rw [if_pos h, if_pos h]
    exact ⟨_, _, rfl, rfl, by unfold inR at h; omega, by unfold inR at h; omega⟩
  · rw [if_neg h, if_neg h]
    exact ⟨0, 0, rfl, rfl, by omega, by omega⟩
theorem cmpLays {b g n : Nat} {w : World} (hb : b < w.heap.size) (hg : b ≠ g) (hc : w.cell? ⟨b, 0, none⟩ = some rankF) :
    CmpLays Try.prog 113 #[.pointer (some ⟨b, 0, none⟩)] encR 2 cfR g 0 n w := by
  intro m os dk _ x y
  obtain ⟨l, c, e1, k1, h1⟩ := encR_get x
  obtain ⟨l', c', e2, k2, h2⟩ := encR_get y
  have hk : cfR x y = cmpI (rankI l) (rankI l') := by unfold cfR cmpI; rw [k1, k2]
  have hs : (sortWorldK encR 2 w g 0 m dk os).heap.size = w.heap.size + os.size := by
    unfold sortWorldK
    rw [Sort.size_grow]
    congr 1
    exact Sort.size_putRow id (Sort.ahead w m) g 0 _
  have hcell : (sortWorldK encR 2 w g 0 m dk os).cell? ⟨b, 0, none⟩ = some rankF := by
    unfold sortWorldK
    rw [Sort.cell?_grow _ _ _ (by show b < (Sort.putRow id _ _ _ _).heap.size; rw [Sort.size_putRow]; exact hb), Sort.cell?_putRowK_other encR 2 _ g 0 dk _ hg]
    exact hc
  rw [e1, e2, hk]
  exact byRank_calls (by rw [hs]; omega) hcell h1 h2
theorem ins_calls {B D b g cap} {w : World} {xs : List Pr} (h : PRow B D w (.slice (some ⟨g, 0, none⟩) xs.length cap) xs) (hr : ∀ p ∈ xs, inR p) (hl : xs.length ≤ 20) (hb : b < w.heap.size) (hg : b ≠ g) (hc : w.cell? ⟨b, 0, none⟩ = some rankF) (i j : Nat) (hij : i ≤ j) (hj : j ≤ xs.length) :
    Calls Try.prog 122 #[.slice (some ⟨g, 0, none⟩) xs.length cap, .int .i64 i, .int .i64 j, byRank b] w fun e w' =>
      e = .returned (.tuple #[]) ∧ ∃ m os, w' = sortWorldK encR 2 w g 0 m (Sort.insertionSort (ltOf cfR) xs.toArray i j) os :=
  AnyQ.insertionSortCmpFunc insL0 2 Try.isAgg84 Try.sizeOf84 encR encR_len encR_one cfR 113 #[.pointer (some ⟨b, 0, none⟩)] g 0 cap i j xs.toArray w (enters_of Try.func113 (by kernel_rfl) rfl) (cmpLays hb hg hc) (h.holds hr) (h.lt (g := g) rfl).2 hij (by simpa using hj) (by simp; omega)
/-- All of a row; none of it. -/
theorem insAll_calls {B D b g cap} {w : World} {xs : List Pr} (h : PRow B D w (.slice (some ⟨g, 0, none⟩) xs.length cap) xs) (hr : ∀ p ∈ xs, inR p) (hl : xs.length ≤ 20) (hb : b < w.heap.size) (hg : b ≠ g) (hc : w.cell? ⟨b, 0, none⟩ = some rankF) :
    Calls Try.prog 122 #[.slice (some ⟨g, 0, none⟩) xs.length cap, .int .i64 0, .int .i64 xs.length, byRank b] w fun e w' =>
      e = .returned (.tuple #[]) ∧ ∃ m os, w' = sortW w g m (ordL xs) os :=
  (ins_calls h hr hl hb hg hc 0 xs.length (Nat.zero_le _) (Nat.le_refl _)).mono fun e w' ⟨h1, m, os, h2⟩ => ⟨h1, m, os, by rw [h2, show ltOf cfR = ltR from rfl, (insSort_list hr).1]; rfl⟩
theorem insNone_calls {B D b g cap} {w : World} {xs : List Pr} (h : PRow B D w (.slice (some ⟨g, 0, none⟩) xs.length cap) xs) (hr : ∀ p ∈ xs, inR p) (hl : xs.length ≤ 20) (hb : b < w.heap.size) (hg : b ≠ g) (hc : w.cell? ⟨b, 0, none⟩ = some rankF) :
    Calls Try.prog 122 #[.slice (some ⟨g, 0, none⟩) xs.length cap, .int .i64 xs.length, .int .i64 xs.length, byRank b] w fun e w' =>
      e = .returned (.tuple #[]) ∧ ∃ m os, w' = sortW w g m xs os :=
  (ins_calls h hr hl hb hg hc xs.length xs.length (Nat.le_refl _) (Nat.le_refl _)).mono fun e w' ⟨h1, m, os, h2⟩ => ⟨h1, m, os, by rw [h2, show ltOf cfR = ltR from rfl, insSort_stop]; rfl⟩
set_option maxHeartbeats 1000000 in
theorem insNil_calls (fv : Value) (w : World) :
    Calls Try.prog 122 #[.slice none 0 0, .int .i64 0, .int .i64 0, fv] w fun e w' => e = .returned (.tuple #[]) ∧ w = w' := by
  go_enter Try.func122, Try.ntmps122
  go_wp2
  refine wp_loop_rounds 1 ?_
  rw [rounds_succ]
  go_wp2
  go_end0
  exact ⟨rfl, rfl⟩
end Go.Proofs.Ytgckeaijbmcdcaa
