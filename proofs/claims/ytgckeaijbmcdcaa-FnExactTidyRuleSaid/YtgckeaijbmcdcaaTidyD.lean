/-
  Literals in the order of a body: what spec and impl put there. No condition of its own.
-/
import Derived.Test.YtgckeaijbmcdcaaRuleOk
namespace Go.Proofs.Ytgckeaijbmcdcaa
open Go.RowKit
set_option maxRecDepth 100000

/-- The rank of a literal: by atoms, of one atom that without a '-' first. -/
def rankI (l : Int) : Int := if l < 0 then 2 * (-l) + 1 else 2 * l
theorem rank_inj {a b : Int} (h : rankI a = rankI b) : a = b := by
  unfold rankI at h
  split at h <;> split at h <;> omega
/-- The literals of each rank up to k, one behind the other. -/
def ordTo (xs : List (Int × Int)) : Nat → List (Int × Int)
  | 0 => []
  | k + 1 => ordTo xs k ++ (xs.filter (fun p => p.1 == (k : Int) + 1) ++ xs.filter (fun p => p.1 == -((k : Int) + 1)))
def ordL (xs : List (Int × Int)) : List (Int × Int) := ordTo xs 12
/-- Sorted by rank. -/
def Srt (ys : List (Int × Int)) : Prop := ys.Pairwise (fun a b => rankI a.1 ≤ rankI b.1)
def lits12 (xs : List (Int × Int)) : Prop := ∀ p ∈ xs, (1 ≤ p.1 ∧ p.1 ≤ 12) ∨ (-12 ≤ p.1 ∧ p.1 ≤ -1)

theorem ordTo_rank {xs : List (Int × Int)} : ∀ {k : Nat} {p : Int × Int}, p ∈ ordTo xs k → 2 ≤ rankI p.1 ∧ rankI p.1 ≤ 2 * (k : Int) + 1
  | 0, p, h => by simp [ordTo] at h
  | k + 1, p, h => by
    rcases List.mem_append.1 h with h | h
    · have := ordTo_rank h; omega
    · rcases List.mem_append.1 h with h | h
      · have h2 := (List.mem_filter.1 h).2
        have h2 : p.1 = (k : Int) + 1 := by simpa using h2
        unfold rankI; rw [h2]; split <;> omega
      · have h2 := (List.mem_filter.1 h).2
        have h2 : p.1 = -((k : Int) + 1) := by simpa using h2
        unfold rankI; rw [h2]; split <;> omega
theorem ordTo_srt (xs : List (Int × Int)) : ∀ k, Srt (ordTo xs k)
  | 0 => List.Pairwise.nil
  | k + 1 => by
    have eqF : ∀ l : Int, Srt (xs.filter (fun p => p.1 == l)) := fun l => by
      refine List.Pairwise.imp_of_mem (R := fun _ _ => True) (fun {a b} ha hb _ => ?_) (List.pairwise_of_forall (fun _ _ => trivial))
      have h1 : a.1 = l := by simpa using (List.mem_filter.1 ha).2
      have h2 : b.1 = l := by simpa using (List.mem_filter.1 hb).2
      rw [h1, h2]; exact Int.le_refl _
    refine List.pairwise_append.2 ⟨ordTo_srt xs k, List.pairwise_append.2 ⟨eqF _, eqF _, fun a ha b hb => ?_⟩, fun a ha b hb => ?_⟩
    · have h1 : a.1 = (k : Int) + 1 := by simpa using (List.mem_filter.1 ha).2
      have h2 : b.1 = -((k : Int) + 1) := by simpa using (List.mem_filter.1 hb).2
      rw [h1, h2]; unfold rankI; split <;> split <;> omega
    · have := ordTo_rank ha
      rcases List.mem_append.1 hb with hb | hb
      · have h2 : b.1 = (k : Int) + 1 := by simpa using (List.mem_filter.1 hb).2
        rw [h2]; unfold rankI at this ⊢; split <;> omega
      · have h2 : b.1 = -((k : Int) + 1) := by simpa using (List.mem_filter.1 hb).2
        rw [h2]; unfold rankI at this ⊢; split <;> omega

/-- One more literal goes behind those of no greater rank. -/
def loR (r : Int) (ys : List (Int × Int)) : List (Int × Int) := ys.filter (fun p => decide (rankI p.1 ≤ r))
def hiR (r : Int) (ys : List (Int × Int)) : List (Int × Int) := ys.filter (fun p => !decide (rankI p.1 ≤ r))
theorem loR_app (r : Int) (a b : List (Int × Int)) : loR r (a ++ b) = loR r a ++ loR r b := List.filter_append ..
theorem hiR_app (r : Int) (a b : List (Int × Int)) : hiR r (a ++ b) = hiR r a ++ hiR r b := List.filter_append ..
theorem loR_all {r : Int} {ys : List (Int × Int)} (h : ∀ p ∈ ys, rankI p.1 ≤ r) : loR r ys = ys := List.filter_eq_self.2 fun p hp => by simpa using h p hp
theorem hiR_all {r : Int} {ys : List (Int × Int)} (h : ∀ p ∈ ys, r < rankI p.1) : hiR r ys = ys := List.filter_eq_self.2 fun p hp => by have := h p hp; simpa using this
theorem loR_none {r : Int} {ys : List (Int × Int)} (h : ∀ p ∈ ys, r < rankI p.1) : loR r ys = [] := List.filter_eq_nil_iff.2 fun p hp => by have := h p hp; simpa using this
theorem hiR_none {r : Int} {ys : List (Int × Int)} (h : ∀ p ∈ ys, rankI p.1 ≤ r) : hiR r ys = [] := List.filter_eq_nil_iff.2 fun p hp => by have := h p hp; simpa using this
theorem filt_snoc (xs : List (Int × Int)) (x : Int × Int) (l : Int) : (xs ++ [x]).filter (fun p => p.1 == l) = xs.filter (fun p => p.1 == l) ++ (if x.1 = l then [x] else []) := by
  rw [List.filter_append]
  congr 1
  by_cases h : x.1 = l <;> simp [h]
theorem filt_rank {xs : List (Int × Int)} {l : Int} {p : Int × Int} (h : p ∈ xs.filter (fun p => p.1 == l)) : rankI p.1 = rankI l := by
  have : p.1 = l := by simpa using (List.mem_filter.1 h).2
  rw [this]
theorem rank_pos (k : Nat) : rankI ((k : Int) + 1) = 2 * (k : Int) + 2 := by unfold rankI; split <;> omega
theorem rank_neg (k : Nat) : rankI (-((k : Int) + 1)) = 2 * (k : Int) + 3 := by unfold rankI; split <;> omega
theorem ordTo_high {xs : List (Int × Int)} {x : Int × Int} : ∀ {k : Nat}, 2 * (k : Int) + 1 < rankI x.1 → ordTo (xs ++ [x]) k = ordTo xs k
  | 0, _ => rfl
  | k + 1, h => by
    have h1 : x.1 ≠ (k : Int) + 1 := fun e => by rw [e, rank_pos] at h; omega
    have h2 : x.1 ≠ -((k : Int) + 1) := fun e => by rw [e, rank_neg] at h; omega
    show ordTo (xs ++ [x]) k ++ _ = ordTo xs k ++ _
    rw [ordTo_high (by omega), filt_snoc, filt_snoc, if_neg h1, if_neg h2, List.append_nil, List.append_nil]
theorem ordTo_ins {xs : List (Int × Int)} {x : Int × Int} : ∀ {k : Nat}, 2 ≤ rankI x.1 → rankI x.1 ≤ 2 * (k : Int) + 1 → ordTo (xs ++ [x]) k = loR (rankI x.1) (ordTo xs k) ++ [x] ++ hiR (rankI x.1) (ordTo xs k)
  | 0, h1, h2 => by omega
  | k + 1, h1, h2 => by
    show ordTo (xs ++ [x]) k ++ _ = loR _ (ordTo xs k ++ _) ++ [x] ++ hiR _ (ordTo xs k ++ _)
    rw [filt_snoc, filt_snoc, loR_app, hiR_app, loR_app, hiR_app]
    by_cases hk : rankI x.1 ≤ 2 * (k : Int) + 1
    · have n1 : x.1 ≠ (k : Int) + 1 := fun e => by rw [e, rank_pos] at hk; omega
      have n2 : x.1 ≠ -((k : Int) + 1) := fun e => by rw [e, rank_neg] at hk; omega
      rw [ordTo_ins h1 hk, if_neg n1, if_neg n2, List.append_nil, List.append_nil]
      rw [loR_none (ys := xs.filter (fun p => p.1 == (k : Int) + 1)) (fun p hp => by rw [filt_rank hp, rank_pos]; omega), loR_none (ys := xs.filter (fun p => p.1 == -((k : Int) + 1))) (fun p hp => by rw [filt_rank hp, rank_neg]; omega)]
      rw [hiR_all (ys := xs.filter (fun p => p.1 == (k : Int) + 1)) (fun p hp => by rw [filt_rank hp, rank_pos]; omega), hiR_all (ys := xs.filter (fun p => p.1 == -((k : Int) + 1))) (fun p hp => by rw [filt_rank hp, rank_neg]; omega)]
      simp [List.append_assoc]
    · rw [ordTo_high (by omega), loR_all (ys := ordTo xs k) (fun p hp => by have := ordTo_rank hp; omega), hiR_none (ys := ordTo xs k) (fun p hp => by have := ordTo_rank hp; omega)]
      have hr : rankI x.1 = 2 * (k : Int) + 2 ∨ rankI x.1 = 2 * (k : Int) + 3 := by omega
      rcases hr with hr | hr
      · have e1 : x.1 = (k : Int) + 1 := rank_inj (by rw [hr, rank_pos])
        have e2 : x.1 ≠ -((k : Int) + 1) := by omega
        rw [if_pos e1, if_neg e2, List.append_nil, hr]
        rw [loR_all (ys := xs.filter (fun p => p.1 == (k : Int) + 1)) (fun p hp => by rw [filt_rank hp, rank_pos]; omega), loR_none (ys := xs.filter (fun p => p.1 == -((k : Int) + 1))) (fun p hp => by rw [filt_rank hp, rank_neg]; omega)]
        rw [hiR_none (ys := xs.filter (fun p => p.1 == (k : Int) + 1)) (fun p hp => by rw [filt_rank hp, rank_pos]; omega), hiR_all (ys := xs.filter (fun p => p.1 == -((k : Int) + 1))) (fun p hp => by rw [filt_rank hp, rank_neg]; omega)]
        simp [List.append_assoc]
      · have e2 : x.1 = -((k : Int) + 1) := rank_inj (by rw [hr, rank_neg])
        have e1 : x.1 ≠ (k : Int) + 1 := by omega
        rw [if_neg e1, if_pos e2, List.append_nil, hr]
        rw [loR_all (ys := xs.filter (fun p => p.1 == (k : Int) + 1)) (fun p hp => by rw [filt_rank hp, rank_pos]; omega), loR_all (ys := xs.filter (fun p => p.1 == -((k : Int) + 1))) (fun p hp => by rw [filt_rank hp, rank_neg]; omega)]
        rw [hiR_none (ys := xs.filter (fun p => p.1 == (k : Int) + 1)) (fun p hp => by rw [filt_rank hp, rank_pos]; omega), hiR_none (ys := xs.filter (fun p => p.1 == -((k : Int) + 1))) (fun p hp => by rw [filt_rank hp, rank_neg]; omega)]
        simp [List.append_assoc]
/-- Where a literal that is put in stops: all behind it are of a greater rank, the one ahead of it is not. -/
theorem ordL_put {xs : List (Int × Int)} {x : Int × Int} {j : Nat} (hx : (1 ≤ x.1 ∧ x.1 ≤ 12) ∨ (-12 ≤ x.1 ∧ x.1 ≤ -1)) (hj : j ≤ (ordL xs).length) (hb : ∀ p ∈ (ordL xs).drop j, rankI x.1 < rankI p.1) (ha : ∀ p ∈ (ordL xs).take j, rankI p.1 ≤ rankI x.1) :
    ordL (xs ++ [x]) = (ordL xs).take j ++ [x] ++ (ordL xs).drop j := by
  have hr : 2 ≤ rankI x.1 ∧ rankI x.1 ≤ 25 := by unfold rankI; split <;> omega
  have h := ordTo_ins (xs := xs) (x := x) (k := 12) hr.1 (by have := hr.2; simpa using this)
  unfold ordL
  rw [h]
  have e : ordTo xs 12 = (ordL xs).take j ++ (ordL xs).drop j := (List.take_append_drop j (ordL xs)).symm
  have e1 : loR (rankI x.1) (ordTo xs 12) = (ordL xs).take j := by rw [e, loR_app, loR_all ha, loR_none hb, List.append_nil]
  have e2 : hiR (rankI x.1) (ordTo xs 12) = (ordL xs).drop j := by rw [e, hiR_app, hiR_none ha, hiR_all hb, List.nil_append]
  rw [e1, e2]
  rfl
theorem ordL_srt (xs : List (Int × Int)) : Srt (ordL xs) := ordTo_srt xs 12
end Go.Proofs.Ytgckeaijbmcdcaa
