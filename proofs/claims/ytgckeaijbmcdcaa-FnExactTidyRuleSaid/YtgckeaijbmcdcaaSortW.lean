/-
  A row of pairs that the library has sorted: its world. No condition of its own.
-/
import Derived.Test.YtgckeaijbmcdcaaSortD
import Derived.Test.YtgckeaijbmcdcaaPair
import Derived.Shelf.GgSortFunc.RowK
namespace Go.Proofs.Ytgckeaijbmcdcaa
open Go.RowKit
set_option maxRecDepth 100000

/-- The world behind a sort: the row's cells, draws, new blocks. -/
def sortW (w : World) (g m : Nat) (ys : List Pq) (os : Array Obj) : World := Sort.grow (Sort.putRowK encR 2 (Sort.ahead w m) g 0 ys.toArray) os
theorem encR_in {p : Pq} (h : inR p) : encR p = encP p := if_pos h
theorem nth_arr {ys : List Pq} {i : Nat} (h : i < ys.length) : ys.toArray[i]! = nth ys i := by
  simp [nth, List.getElem!_eq_getElem?_getD]
theorem flat_get {ys : List Pq} (hr : ∀ p ∈ ys, inR p) {j : Nat} (hj : j < ys.length * 2) : some (Sort.flatK encR 2 ys.toArray)[j]! = (ys.flatMap encP)[j]? := by
  rw [Sort.get_flatK _ _ _ _ (by simpa using hj)]
  have hi : j / 2 < ys.length := by omega
  rw [nth_arr hi, encR_in (hr _ (nth_mem hi))]
  rcases Nat.mod_two_eq_zero_or_one j with m | m
  · have e : j = j / 2 * 2 := by omega
    rw [m]
    conv => rhs; rw [e, encP_0 hi]
    rfl
  · have e : j = j / 2 * 2 + 1 := by omega
    rw [m]
    conv => rhs; rw [e, encP_1 hi]
    rfl
theorem PRow.holds {B : Nat} {D : Nat → Prop} {w : World} {g cap n : Nat} {xs : List Pr} (h : PRow B D w (.slice (some ⟨g, 0, none⟩) n cap) xs) (hr : ∀ p ∈ xs, inR p) : Sort.HoldsK encR 2 w g 0 xs.toArray := by
  intro j hj
  rw [Sort.size_flatK] at hj
  have hj : j < xs.length * 2 := by simpa using hj
  refine ⟨?_, h.frozen _⟩
  have e := flat_get hr hj
  have hi : j / 2 < xs.length := by omega
  obtain ⟨c0, c1⟩ := h.cell hi
  rw [Nat.zero_add]
  show _ = some _
  refine Eq.trans ?_ e.symm
  rcases Nat.mod_two_eq_zero_or_one j with m | m
  · have e : j = j / 2 * 2 := by omega
    rw [e, encP_0 hi]
    exact c0
  · have e : j = j / 2 * 2 + 1 := by omega
    rw [e, encP_1 hi]
    exact c1
theorem sortW_size (w : World) (g m : Nat) (ys : List Pq) (os : Array Obj) : (sortW w g m ys os).heap.size = w.heap.size + os.size := by
  unfold sortW
  rw [Sort.size_grow]
  congr 1
  exact Sort.size_putRow id (Sort.ahead w m) g 0 _
theorem sortW_block (w : World) (g m : Nat) (ys : List Pq) (os : Array Obj) {k : Nat} (hk : k < w.heap.size) (hne : k ≠ g) : (sortW w g m ys os).heap[k]? = w.heap[k]? := by
  unfold sortW
  rw [Sort.heap_grow_old _ _ (by show k < (Sort.putRow id _ _ _ _).heap.size; rw [Sort.size_putRow]; exact hk)]
  show (w.heap.modify g _)[k]? = _
  rw [Array.getElem?_modify, if_neg (fun h => hne h.symm)]
theorem sortW_below {w : World} {lo g m : Nat} {ys : List Pq} {os : Array Obj} (h : lo ≤ g) (hg : g < w.heap.size) : Below lo w (sortW w g m ys os) :=
  ⟨rfl, rfl, rfl, by rw [sortW_size]; omega, fun k hk => sortW_block w g m ys os (by omega) (by omega)⟩
theorem PRow.sorted {B : Nat} {D : Nat → Prop} {w : World} {g cap n : Nat} {xs ys : List Pr} (h : PRow B D w (.slice (some ⟨g, 0, none⟩) n cap) xs) (hl : ys.length = xs.length) (hr : ∀ p ∈ ys, inR p) (hf : ∀ p ∈ ys, Fits p.1 ∧ Fits p.2) (m : Nat) (os : Array Obj) :
    PRow B D (sortW w g m ys os) (.slice (some ⟨g, 0, none⟩) n cap) ys := by
  have hgl : g < w.heap.size := (h.lt (g := g) rfl).2
  obtain ⟨⟨⟨h1, h2⟩, h3⟩, h4⟩ := h
  refine ⟨⟨⟨encP_len ys, ?_⟩, hf⟩, h4⟩
  rcases h2 with ⟨h2, _⟩ | ⟨g', cap', cur, he, hg, hh, hnc, hcm, hcs, ht⟩
  · cases h2
  · cases he
    refine .inr ⟨g, cap, Sort.putCells id 0 (Sort.flatK encR 2 ys.toArray) cur, by rw [hl], hg, ?_, by rw [hl]; exact hnc, hcm, by simp [Sort.putCells]; exact hcs, ?_⟩
    · unfold sortW
      rw [Sort.heap_grow_old _ _ (by show g < (Sort.putRow id _ _ _ _).heap.size; rw [Sort.size_putRow]; exact hgl)]
      show (w.heap.modify g _)[g]? = _
      rw [Array.getElem?_modify, if_pos rfl, hh]
      rfl
    · have hcs : cur.size = cap * 2 := hcs
      show (Sort.putCells id 0 (Sort.flatK encR 2 ys.toArray) cur).toList.take (ys.length * 2) = ys.flatMap encP
      apply List.ext_getElem?
      intro j
      rw [List.getElem?_take]
      by_cases hj : j < ys.length * 2
      · rw [if_pos hj, ← flat_get hr hj]
        have hjc : j < cur.size := by rw [hcs]; omega
        rw [Array.getElem?_toList]
        unfold Sort.putCells
        rw [Array.getElem?_mapIdx, Array.getElem?_eq_getElem hjc, Option.map_some, if_pos ⟨Nat.zero_le _, by rw [Sort.size_flatK]; simpa using hj⟩]
        rfl
      · rw [if_neg hj, List.getElem?_eq_none (by rw [encP_len]; omega)]
theorem ordL_in {xs : List Pq} (h : ∀ p ∈ xs, inR p) : ∀ p ∈ ordL xs, inR p := fun p hp => h p (ordTo_mem' hp)
theorem ordL_fits {xs : List Pq} (h : ∀ p ∈ xs, Fits p.1 ∧ Fits p.2) : ∀ p ∈ ordL xs, Fits p.1 ∧ Fits p.2 := fun p hp => h p (ordTo_mem' hp)
end Go.Proofs.Ytgckeaijbmcdcaa
