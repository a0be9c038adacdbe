/-
  A rule without Weight: what its body asks for and refuses, as sets. No condition of its own.
-/
import Derived.Test.YtgckeaijbmcdcaaWeighD
import Derived.Test.YtgckeaijbmcdcaaSetsLaw
namespace Go.Proofs.Ytgckeaijbmcdcaa
open Go.RowKit
set_option maxRecDepth 100000

/-- The atoms that a row asks for, and those that it refuses. -/
def posL (os : List Pq) : List Int := (os.filter (fun p => decide (0 < p.1))).map (fun p => p.1)
def negL (os : List Pq) : List Int := (os.filter (fun p => !decide (0 < p.1))).map (fun p => -p.1)
theorem posL_snoc (os : List Pq) (p : Pq) : posL (os ++ [p]) = if 0 < p.1 then posL os ++ [p.1] else posL os := by
  unfold posL
  rw [List.filter_append, List.map_append]
  by_cases h : 0 < p.1 <;> simp [h]
theorem negL_snoc (os : List Pq) (p : Pq) : negL (os ++ [p]) = if 0 < p.1 then negL os else negL os ++ [-p.1] := by
  unfold negL
  rw [List.filter_append, List.map_append]
  by_cases h : 0 < p.1 <;> simp [h]
theorem askM_yes {os : List Pq} {k : Nat} (hk : k < os.length) (h : 0 < (nth os k).1) : maskOf (posL (os.take (k + 1))) = maskOf (posL (os.take k)) ||| bitN (nth os k).1 := by
  rw [take_nth hk, posL_snoc, if_pos h, maskOf_snoc]
theorem askM_no {os : List Pq} {k : Nat} (hk : k < os.length) (h : ¬ 0 < (nth os k).1) : maskOf (posL (os.take (k + 1))) = maskOf (posL (os.take k)) := by
  rw [take_nth hk, posL_snoc, if_neg h]
theorem refM_yes {os : List Pq} {k : Nat} (hk : k < os.length) (h : 0 < (nth os k).1) : maskOf (negL (os.take (k + 1))) = maskOf (negL (os.take k)) := by
  rw [take_nth hk, negL_snoc, if_pos h]
theorem refM_no {os : List Pq} {k : Nat} (hk : k < os.length) (h : ¬ 0 < (nth os k).1) : maskOf (negL (os.take (k + 1))) = maskOf (negL (os.take k)) ||| bitN (-(nth os k).1) := by
  rw [take_nth hk, negL_snoc, if_neg h, maskOf_snoc]
theorem has_pos {os : List Pq} {x : Int} (hx : 0 < x) : hasB (posL os) x = anyL os x := by
  rw [Bool.eq_iff_iff]
  unfold hasB posL anyL
  rw [decide_eq_true_eq, List.mem_map, List.any_eq_true]
  constructor
  · rintro ⟨p, hp, e⟩
    exact ⟨p, (List.mem_filter.1 hp).1, by simpa using e⟩
  · rintro ⟨p, hp, e⟩
    have e : p.1 = x := by simpa using e
    exact ⟨p, List.mem_filter.2 ⟨hp, by simp; omega⟩, e⟩
theorem has_neg {os : List Pq} {x : Int} (hx : 0 < x) : hasB (negL os) x = anyL os (-x) := by
  rw [Bool.eq_iff_iff]
  unfold hasB negL anyL
  rw [decide_eq_true_eq, List.mem_map, List.any_eq_true]
  constructor
  · rintro ⟨p, hp, e⟩
    exact ⟨p, (List.mem_filter.1 hp).1, by simp; omega⟩
  · rintro ⟨p, hp, e⟩
    have e : p.1 = -x := by simpa using e
    exact ⟨p, List.mem_filter.2 ⟨hp, by simp; omega⟩, by omega⟩
theorem anyL_at {os : List Pq} {x : Int} (h : anyL os x = true) : ∃ i < os.length, (nth os i).1 = x := by
  unfold anyL at h
  rw [List.any_eq_true] at h
  obtain ⟨p, hp, e⟩ := h
  obtain ⟨i, hi, rfl⟩ := mem_nth hp
  exact ⟨i, hi, by simpa using e⟩
theorem at_anyL {os : List Pq} {i : Nat} (hi : i < os.length) : anyL os (nth os i).1 = true := by
  unfold anyL
  rw [List.any_eq_true]
  exact ⟨_, nth_mem hi, by simp⟩
theorem oppTo_at {os : List Pq} : ∀ {m : Nat}, oppTo os m = true → ∃ k < m, (nth os k).1 = -(nth os (k + 1)).1
  | 0, h => by simp [oppTo] at h
  | m + 1, h => by
    unfold oppTo at h
    rw [Bool.or_eq_true] at h
    rcases h with h | h
    · obtain ⟨k, hk, e⟩ := oppTo_at h
      exact ⟨k, by omega, e⟩
    · exact ⟨m, by omega, by simpa using h⟩
theorem srt1 {os : List Pq} (hs : os.Pairwise (fun a b => rankI a.1 < rankI b.1)) {i j : Nat} (hij : i < j) (hj : j < os.length) : rankI (nth os i).1 < rankI (nth os j).1 := by
  have := List.pairwise_iff_getElem.1 hs i j (by omega) hj hij
  rw [nth_eq (show i < os.length by omega), nth_eq hj]
  exact this
/-- It asks for an atom and refuses it: two neighbours are this atom's. -/
theorem clash_same {os : List Pq} (hs : os.Pairwise (fun a b => rankI a.1 < rankI b.1)) (hr : ∀ p ∈ os, inR p) :
    ((((maskOf (posL os) &&& maskOf (negL os) : Nat) : Int) != 0)) = oppB os := by
  have hm : maskOf (posL os) &&& maskOf (negL os) < 4096 := SetMeet_lt _ _
  have bit : ∀ x : Int, 1 ≤ x → x ≤ 12 → hasM (maskOf (posL os) &&& maskOf (negL os)) x = (anyL os x && anyL os (-x)) := fun x h1 h2 => by
    have h : 1 ≤ x ∧ x ≤ 12 := ⟨h1, h2⟩
    rw [hasM_bit _ _ h, Nat.testBit_and, ← hasM_bit _ _ h, ← hasM_bit _ _ h, hasM_maskOf _ _ h, hasM_maskOf _ _ h, has_pos (by omega), has_neg (by omega)]
  rw [Bool.eq_iff_iff]
  constructor
  · intro hne
    have hne : maskOf (posL os) &&& maskOf (negL os) ≠ 0 := by
      intro h; rw [h] at hne; simp at hne
    apply Classical.byContradiction
    intro ho
    apply hne
    refine zero_of_bits hm fun x h1 h2 => ?_
    rw [bit x h1 h2]
    apply Classical.byContradiction
    intro hc
    have hc : (anyL os x && anyL os (-x)) = true := by simpa using hc
    rw [Bool.and_eq_true] at hc
    obtain ⟨i, hi, ei⟩ := anyL_at hc.1
    obtain ⟨j, hj, ej⟩ := anyL_at hc.2
    have ri : rankI (nth os i).1 = 2 * x := by rw [ei]; unfold rankI; split <;> omega
    have rj : rankI (nth os j).1 = 2 * x + 1 := by rw [ej]; unfold rankI; split <;> omega
    have hij : i < j := by
      rcases Nat.lt_trichotomy i j with h | h | h
      · exact h
      · subst h; omega
      · have := srt1 hs h hi; omega
    have hj1 : j = i + 1 := by
      apply Classical.byContradiction
      intro hn
      have a := srt1 hs (show i < i + 1 by omega) (by omega)
      have b := srt1 hs (show i + 1 < j by omega) hj
      omega
    subst hj1
    apply ho
    unfold oppB
    exact oppTo_yes (k := i) (by rw [ei, ej]; simp) (by omega)
  · intro ho
    obtain ⟨k, hk, e⟩ := oppTo_at ho
    have h1 := srt1 hs (show k < k + 1 by omega) (by omega)
    have r1 := hr _ (nth_mem (show k < os.length by omega))
    have r2 := hr _ (nth_mem (show k + 1 < os.length by omega))
    have a1 := at_anyL (show k < os.length by omega)
    have a2 := at_anyL (show k + 1 < os.length by omega)
    have hx : 1 ≤ (nth os k).1 ∧ (nth os k).1 ≤ 12 := by
      unfold inR at r1 r2
      unfold rankI at h1
      split at h1 <;> split at h1 <;> omega
    have b := bit _ hx.1 hx.2
    rw [a1, show -(nth os k).1 = (nth os (k + 1)).1 by omega, a2] at b
    have hne : maskOf (posL os) &&& maskOf (negL os) ≠ 0 := by
      intro h0
      rw [h0] at b
      have : hasM 0 (nth os k).1 = false := by unfold hasM; simp
      rw [this] at b; cases b
    simp only [bne_iff_ne, ne_eq]
    omega
theorem pick_filter (f g : Int → Bool) : ∀ n, (pickTo f n).filter g = pickTo (fun x => f x && g x) n
  | 0 => rfl
  | n + 1 => by
    unfold pickTo
    cases h1 : f ((n : Int) + 1) <;> cases h2 : g ((n : Int) + 1) <;> simp [h2, List.filter_append, pick_filter f g n]
/-- The heads that are left. -/
theorem rest_same {heads : List Int} {os : List Pq} (h : setOkB heads 12 = true) : pickTo (hasM (maskOf heads &&& (65535 - maskOf (posL os)))) 12 = restH heads os := by
  have e := set_pick h
  unfold restH
  conv => rhs; rw [e]
  rw [pick_filter]
  refine pickTo_congr fun x h1 h2 => ?_
  rw [less_bit _ _ _ ⟨h1, by omega⟩, has_pos (by omega)]
theorem mask_zero' {m : Nat} (hm : m < 4096) : ((m : Int) == 0) = decide ((pickTo (hasM m) 12).length = 0) := by
  by_cases h : m = 0
  · subst h
    have : pickTo (hasM 0) 12 = [] := by decide
    rw [this]; rfl
  · have hne : (pickTo (hasM m) 12).length ≠ 0 := by
      intro hl
      have hnil := List.eq_nil_of_length_eq_zero hl
      apply h
      apply zero_of_bits hm
      intro x h1 h2
      cases e : hasM m x
      · rfl
      · have := (mem_pickTo (hasM m) x 12).2 ⟨h1, by omega, e⟩
        rw [hnil] at this; cases this
    rw [Bool.eq_iff_iff, beq_iff_eq, decide_eq_true_eq]
    omega
theorem rest_zero {heads : List Int} {os : List Pq} (h : setOkB heads 12 = true) : ((((maskOf heads &&& (65535 - maskOf (posL os)) : Nat) : Int) == 0)) = decide ((restH heads os).length = 0) := by
  rw [mask_zero' (SetLess_lt heads (posL os)), rest_same h]
theorem heads_zero {heads : List Int} (h : setOkB heads 12 = true) : (((maskOf heads : Nat) : Int) != 0) = decide (0 < heads.length) := by
  have e : pickTo (hasM (maskOf heads)) 12 = heads := by
    conv => rhs; rw [set_pick h]
    exact pickTo_congr fun x h1 h2 => hasM_maskOf _ _ ⟨h1, by omega⟩
  have h2 := mask_zero' (maskOf_lt heads)
  rw [e] at h2
  show (!_) = _
  rw [h2]
  by_cases h0 : heads.length = 0
  · rw [decide_eq_true h0, decide_eq_false (by omega)]; rfl
  · rw [decide_eq_false h0, decide_eq_true (by omega)]; rfl
theorem goes_same {heads : List Int} {xs : List Pq} (h : setOkB heads 12 = true) (hr : ∀ p ∈ xs, inR p) :
    (((((maskOf (posL (onceL xs)) &&& maskOf (negL (onceL xs)) : Nat) : Int) != 0)) || ((((maskOf heads : Nat) : Int) != 0) && ((((maskOf heads &&& (65535 - maskOf (posL (onceL xs))) : Nat) : Int) == 0)))) = goesU heads (onceL xs) := by
  rw [clash_same (onceL_srt xs) (onceL_in hr), heads_zero h, rest_zero h]
  unfold goesU
  congr 1
  exact Bool.and_comm _ _
theorem tidyU_once {ch : Bool} {heads : List Int} {xs : List Pq} (h : ∀ p ∈ xs, inR p) : tidyU ch heads (onceL xs) = tidyU ch heads xs := by
  unfold tidyU; rw [onceL_once h]
theorem ruleOk_set {r : RuleD} (h : ruleOkB r 12 = true) : setOkB r.heads 12 = true := by
  simp only [ruleOkB, headsB, Bool.and_eq_true] at h
  exact h.1.1
end Go.Proofs.Ytgckeaijbmcdcaa
