/-
  The library's insertion sort, by rank: the order of a body. No condition of its own.
-/
import Derived.Test.YtgckeaijbmcdcaaTidyD
import Derived.Sort.WalkA
namespace Go.Proofs.Ytgckeaijbmcdcaa
open Go.RowKit
set_option maxRecDepth 100000

abbrev Pq := Int × Int
def inR (p : Pq) : Prop := (1 ≤ p.1 ∧ p.1 ≤ 12) ∨ (-12 ≤ p.1 ∧ p.1 ≤ -1)
instance (p : Pq) : Decidable (inR p) := by unfold inR; infer_instance
/-- An element as it lies in memory; one that is no rule's as a thing of its own. -/
def encR (p : Pq) : List Value := if inR p then [.int .i64 p.1, .int .i64 p.2] else [.int .i64 0, .int .i64 0]
def rkR (p : Pq) : Int := if inR p then rankI p.1 else 0
def cfR (a b : Pq) : Int := if rkR a < rkR b then -1 else if rkR b < rkR a then 1 else 0
def ltR (a b : Pq) : Bool := decide (cfR a b < 0)
theorem encR_len (p : Pq) : (encR p).length = 2 := by unfold encR; split <;> rfl
theorem encR_one (p : Pq) : ∀ v ∈ encR p, v.oneCell' = true := by
  unfold encR; split <;> · intro v hv; simp at hv; rcases hv with rfl | rfl <;> rfl
theorem ltR_eq {a b : Pq} (ha : inR a) (hb : inR b) : ltR a b = decide (rankI a.1 < rankI b.1) := by
  unfold ltR cfR rkR
  rw [if_pos ha, if_pos hb]
  by_cases h : rankI a.1 < rankI b.1
  · rw [if_pos h]; simp [h]
  · rw [if_neg h]; split <;> simp [h]

theorem swp_mid (L R : List Pq) (y x : Pq) : Sort.swp (L ++ [y] ++ [x] ++ R).toArray (L.length + 1) L.length = (L ++ [x] ++ ([y] ++ R)).toArray := by
  have h1 : (L ++ [y] ++ [x] ++ R).toArray[L.length]! = y := by
    simp [List.getElem!_eq_getElem?_getD, List.getElem?_append_right]
  have h2 : (L ++ [y] ++ [x] ++ R).toArray[L.length + 1]! = x := by
    simp [List.getElem!_eq_getElem?_getD, List.getElem?_append_right]
  unfold Sort.swp
  rw [h1, h2]
  simp [List.set_append_right]
theorem insInner_list : ∀ (n : Nat) (L R : List Pq) (x : Pq), L.length = n → Srt L → (∀ p ∈ L, inR p) → inR x →
    ∃ m ≤ L.length, Sort.insInner ltR 0 n (L ++ [x] ++ R).toArray = (L.take m ++ [x] ++ L.drop m ++ R).toArray ∧ (∀ p ∈ L.drop m, rankI x.1 < rankI p.1) ∧ (∀ p ∈ L.take m, rankI p.1 ≤ rankI x.1)
  | 0, L, R, x, hn, _, _, _ => by
    obtain rfl := List.eq_nil_of_length_eq_zero hn
    exact ⟨0, by simp, by simp [Sort.insInner], by simp, by simp⟩
  | n + 1, L, R, x, hn, hs, hL, hx => by
    rcases List.eq_nil_or_concat L with rfl | ⟨L', y, rfl⟩
    · simp at hn
    · rw [List.concat_eq_append] at *
      have hn' : L'.length = n := by simpa using hn
      have hy : inR y := hL y (by simp)
      have h1 : (L' ++ [y] ++ [x] ++ R).toArray[n]! = y := by
        subst hn'; simp [List.getElem!_eq_getElem?_getD, List.getElem?_append_right]
      have h2 : (L' ++ [y] ++ [x] ++ R).toArray[n + 1]! = x := by
        subst hn'; simp [List.getElem!_eq_getElem?_getD, List.getElem?_append_right]
      have hs' := List.pairwise_append.1 hs
      unfold Sort.insInner
      rw [h1, h2, ltR_eq hx hy]
      by_cases hlt : rankI x.1 < rankI y.1
      · rw [if_pos (by simp [hlt])]
        have e := swp_mid L' R y x
        rw [hn'] at e
        rw [e]
        obtain ⟨m, hm, h3, h4, h5⟩ := insInner_list n L' ([y] ++ R) x hn' hs'.1 (fun p hp => hL p (List.mem_append_left _ hp)) hx
        refine ⟨m, by simp; omega, ?_, ?_, ?_⟩
        · rw [h3, List.take_append_of_le_length hm, List.drop_append_of_le_length hm]
          simp
        · rw [List.drop_append_of_le_length hm]
          intro p hp
          rcases List.mem_append.1 hp with hp | hp
          · exact h4 p hp
          · rw [List.mem_singleton.1 hp]; exact hlt
        · rw [List.take_append_of_le_length hm]; exact h5
      · rw [if_neg (by simp [hlt])]
        refine ⟨(L' ++ [y]).length, Nat.le_refl _, by rw [List.take_length, List.drop_length]; simp, by rw [List.drop_length]; simp, ?_⟩
        rw [List.take_length]
        intro p hp
        rcases List.mem_append.1 hp with hp | hp
        · have := hs'.2.2 p hp y (by simp); omega
        · rw [List.mem_singleton.1 hp]; omega
theorem ordTo_mem' {xs : List Pq} {p : Pq} : ∀ {k : Nat}, p ∈ ordTo xs k → p ∈ xs
  | 0, h => by simp [ordTo] at h
  | k + 1, h => by
    rcases List.mem_append.1 h with h | h
    · exact ordTo_mem' h
    · rcases List.mem_append.1 h with h | h
      · exact (List.mem_filter.1 h).1
      · exact (List.mem_filter.1 h).1
theorem ordL_nil : ordL [] = [] := rfl
theorem insOuter_list {xs : List Pq} (hx : ∀ p ∈ xs, inR p) : ∀ (n i : Nat), i + n = xs.length → (ordL (xs.take i)).length = i →
    Sort.insOuter ltR 0 xs.length i (ordL (xs.take i) ++ xs.drop i).toArray = (ordL xs).toArray ∧ (ordL xs).length = xs.length
  | 0, i, hi, hl => by
    have : xs.take i = xs := List.take_of_length_le (by omega)
    rw [this] at hl ⊢
    rw [List.drop_of_length_le (by omega), List.append_nil, insOuter_stop _ _ _ _ _ (by omega)]
    exact ⟨rfl, by omega⟩
  | n + 1, i, hi, hl => by
    have hlt : i < xs.length := by omega
    have hd : xs.drop i = [nth xs i] ++ xs.drop (i + 1) := by
      rw [List.drop_eq_getElem_cons hlt]
      show _ :: _ = _ :: _
      rw [show nth xs i = xs[i] from by unfold nth; rw [List.getD_eq_getElem?_getD, List.getElem?_eq_getElem hlt]; rfl]
      rfl
    have hxi := hx _ (nth_mem hlt)
    obtain ⟨m, hm, h1, h2, h3⟩ := insInner_list i (ordL (xs.take i)) (xs.drop (i + 1)) (nth xs i) hl (ordL_srt _) (fun p hp => hx p (List.mem_of_mem_take (ordTo_mem' hp))) hxi
    have hp := ordL_put (xs := xs.take i) (x := nth xs i) hxi hm h2 h3
    rw [← take_nth hlt] at hp
    have hl2 : (ordL (xs.take (i + 1))).length = i + 1 := by
      rw [hp]; simp; omega
    rw [insOuter_go _ _ _ _ _ hlt, hd, ← List.append_assoc, h1, ← hp]
    exact insOuter_list hx n (i + 1) (by omega) hl2
theorem insSort_list {xs : List Pq} (hx : ∀ p ∈ xs, inR p) : Sort.insertionSort ltR xs.toArray 0 xs.length = (ordL xs).toArray ∧ (ordL xs).length = xs.length := by
  unfold Sort.insertionSort
  cases xs with
  | nil => rw [insOuter_stop _ _ _ _ _ (by simp)]; exact ⟨rfl, rfl⟩
  | cons x r =>
    have h0 := ordL_put (xs := []) (x := x) (j := 0) (hx x (by simp)) (by simp) (by simp [ordL_nil]) (by simp)
    rw [ordL_nil] at h0
    have h0 : ordL [x] = [x] := by simpa using h0
    have := insOuter_list hx r.length 1 (by simp; omega) (by simp [h0])
    simpa [h0] using this
theorem insSort_stop (d : Array Pq) (n : Nat) : Sort.insertionSort ltR d n n = d := by
  unfold Sort.insertionSort
  rw [insOuter_stop _ _ _ _ _ (by omega)]
end Go.Proofs.Ytgckeaijbmcdcaa
