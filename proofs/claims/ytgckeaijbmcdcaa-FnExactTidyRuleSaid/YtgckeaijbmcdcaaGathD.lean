/-
  Literals gathered: each once, its W together. No condition of its own.
-/
import Derived.Test.YtgckeaijbmcdcaaSortO
namespace Go.Proofs.Ytgckeaijbmcdcaa
open Go.RowKit
set_option maxRecDepth 100000

theorem snocRec {P : List Pq → Prop} (nil : P []) (append_singleton : ∀ l p, P l → P (l ++ [p])) (l : List Pq) : P l := by
  rw [← List.reverse_reverse l]
  generalize l.reverse = r
  induction r with
  | nil => exact nil
  | cons p r ih => rw [List.reverse_cons]; exact append_singleton _ _ ih
theorem ordL_ins {xs : List Pq} {x : Pq} (hxs : ∀ p ∈ xs, inR p) (hx : inR x) : ∃ j ≤ (ordL xs).length, ordL (xs ++ [x]) = (ordL xs).take j ++ [x] ++ (ordL xs).drop j := by
  obtain ⟨m, hm, _, h2, h3⟩ := insInner_list (ordL xs).length (ordL xs) [] x rfl (ordL_srt _) (fun p hp => hxs p (ordTo_mem' hp)) hx
  exact ⟨m, hm, ordL_put hx hm h2 h3⟩
theorem sumH_app (f : Pq → Bool) (a : List Pq) : ∀ b, sumH f (a ++ b) = sumH f a + sumH f b := by
  intro b
  refine snocRec (P := fun b => sumH f (a ++ b) = sumH f a + sumH f b) (by simp [sumH]) (fun b p ih => ?_) b
  rw [← List.append_assoc, sumH_snoc, sumH_snoc, ih]; omega
theorem sumH_ordL (f : Pq → Bool) {xs : List Pq} (h : ∀ p ∈ xs, inR p) : sumH f (ordL xs) = sumH f xs := by
  induction xs using snocRec with
  | nil => rfl
  | append_singleton xs x ih =>
    obtain ⟨j, hj, e⟩ := ordL_ins (fun p hp => h p (List.mem_append_left _ hp)) (h x (by simp))
    have ih := ih fun p hp => h p (List.mem_append_left _ hp)
    have e2 : sumH f (ordL xs) = sumH f ((ordL xs).take j) + sumH f ((ordL xs).drop j) := by rw [← sumH_app, List.take_append_drop]
    rw [e, sumH_app, sumH_snoc, sumH_snoc]
    omega
theorem ordL_len {xs : List Pq} (h : ∀ p ∈ xs, inR p) : (ordL xs).length = xs.length := (insSort_list h).2

def smF (ys : List Pq) (k : Nat) (p : Pq) : Pq := (p.1, sumH (fun q => q.1 == p.1) (ys.take k))
/-- What is gathered of the first k of a row in order. -/
def gTo (ys : List Pq) (k : Nat) : List Pq := (onceTo ys k).map (smF ys k)
theorem gTo_len (ys : List Pq) (k : Nat) : (gTo ys k).length = (onceTo ys k).length := by simp [gTo]
theorem sumH_none {f : Pq → Bool} {l : List Pq} (h : ∀ p ∈ l, f p = false) : sumH f l = 0 := by
  induction l using snocRec with
  | nil => rfl
  | append_singleton l p ih => rw [sumH_snoc, ih (fun q hq => h q (List.mem_append_left _ hq)), h p (by simp)]; rfl
theorem nth_take {ys : List Pq} {k i : Nat} (h : i < k) (hk : k ≤ ys.length) : nth (ys.take k) i = nth ys i := by
  unfold nth
  rw [List.getD_eq_getElem?_getD, List.getD_eq_getElem?_getD, List.getElem?_take, if_pos h]
theorem mem_nth {ys : List Pq} {p : Pq} (h : p ∈ ys) : ∃ i < ys.length, nth ys i = p := by
  obtain ⟨i, hi, e⟩ := List.mem_iff_getElem.1 h
  exact ⟨i, hi, by unfold nth; rw [List.getD_eq_getElem?_getD, List.getElem?_eq_getElem hi]; exact e⟩
theorem srt_nth {ys : List Pq} (h : Srt ys) {i j : Nat} (hij : i < j) (hj : j < ys.length) : rankI (nth ys i).1 ≤ rankI (nth ys j).1 := by
  have := List.pairwise_iff_getElem.1 h i j (by omega) hj hij
  unfold nth
  rw [List.getD_eq_getElem?_getD, List.getD_eq_getElem?_getD, List.getElem?_eq_getElem hj, List.getElem?_eq_getElem (by omega)]
  exact this
/-- A literal that is new stands nowhere ahead. -/
theorem new_ne {ys : List Pq} (hs : Srt ys) {k : Nat} (hk : k < ys.length) (h : newB ys k = true) : ∀ p ∈ ys.take k, p.1 ≠ (nth ys k).1 := by
  intro p hp e
  obtain ⟨i, hi, rfl⟩ := mem_nth hp
  rw [List.length_take] at hi
  rw [nth_take (by omega) (by omega)] at e
  have hk0 : 0 < k := by omega
  have hne : (nth ys k).1 ≠ (nth ys (k - 1)).1 := by
    unfold newB at h
    rw [Bool.or_eq_true] at h
    rcases h with h | h
    · simp at h; omega
    · simpa using h
  have h1 : rankI (nth ys i).1 ≤ rankI (nth ys (k - 1)).1 := by
    rcases Nat.lt_or_ge i (k - 1) with h | h
    · exact srt_nth hs h (by omega)
    · rw [show i = k - 1 by omega]; exact Int.le_refl _
  have h2 := srt_nth hs (show k - 1 < k by omega) hk
  rw [e] at h1
  exact hne (rank_inj (by omega))
theorem once_in {ys : List Pq} {p : Pq} : ∀ {k : Nat}, k ≤ ys.length → p ∈ onceTo ys k → ∃ q ∈ ys.take k, q.1 = p.1
  | 0, _, h => by simp [onceTo] at h
  | k + 1, hk, h => by
    have ht : ys.take (k + 1) = ys.take k ++ [nth ys k] := take_nth (by omega)
    rw [ht]
    unfold onceTo at h
    split at h
    · rcases List.mem_append.1 h with h | h
      · obtain ⟨q, hq, e⟩ := once_in (by omega) h
        exact ⟨q, List.mem_append_left _ hq, e⟩
      · rw [List.mem_singleton.1 h]
        exact ⟨nth ys k, by simp, rfl⟩
    · obtain ⟨q, hq, e⟩ := once_in (by omega) h
      exact ⟨q, List.mem_append_left _ hq, e⟩
/-- The last one that was put there is the last literal that was read; no other one is. -/
theorem once_last {ys : List Pq} (hs : Srt ys) : ∀ {k : Nat}, 0 < k → k ≤ ys.length → ∃ pre, onceTo ys k = pre ++ [((nth ys (k - 1)).1, 1)] ∧ ∀ p ∈ pre, p.1 ≠ (nth ys (k - 1)).1
  | 0, h, _ => by omega
  | k + 1, _, hk => by
    cases hN : newB ys k
    · have hk0 : 0 < k := by
        rcases Nat.eq_zero_or_pos k with h0 | h0
        · subst h0; simp [newB] at hN
        · exact h0
      have hne : (nth ys k).1 = (nth ys (k - 1)).1 := by
        unfold newB at hN; rw [Bool.or_eq_false_iff] at hN; simpa using hN.2
      obtain ⟨pre, e, hp⟩ := once_last hs hk0 (by omega)
      refine ⟨pre, ?_, ?_⟩
      · rw [onceTo_no hN, e, Nat.add_sub_cancel, hne]
      · rw [Nat.add_sub_cancel, hne]; exact hp
    · refine ⟨onceTo ys k, by rw [onceTo_yes hN, Nat.add_sub_cancel], ?_⟩
      rw [Nat.add_sub_cancel]
      intro p hp
      obtain ⟨q, hq, e⟩ := once_in (by omega) hp
      rw [← e]
      exact new_ne hs (by omega) hN q hq
theorem smF_ne {ys : List Pq} {k : Nat} (hk : k < ys.length) {p : Pq} (h : p.1 ≠ (nth ys k).1) : smF ys (k + 1) p = smF ys k p := by
  unfold smF
  rw [sumH_no hk (by simp; exact fun e => h e.symm)]
theorem gTo_new {ys : List Pq} (hs : Srt ys) {k : Nat} (hk : k < ys.length) (h : newB ys k = true) : gTo ys (k + 1) = gTo ys k ++ [nth ys k] := by
  unfold gTo
  rw [onceTo_yes h, List.map_append]
  congr 1
  · refine List.map_congr_left fun p hp => smF_ne hk ?_
    obtain ⟨q, hq, e⟩ := once_in (by omega) hp
    rw [← e]; exact new_ne hs hk h q hq
  · have h0 : sumH (fun q => q.1 == (nth ys k).1) (ys.take k) = 0 := sumH_none fun p hp => by simpa using new_ne hs hk h p hp
    show [smF ys (k + 1) ((nth ys k).1, 1)] = _
    unfold smF
    rw [sumH_yes hk (by simp), h0, Int.zero_add]
theorem gTo_old {ys : List Pq} (hs : Srt ys) {k : Nat} (hk : k < ys.length) (h : newB ys k = false) :
    ∃ m S, (gTo ys k).length = m + 1 ∧ nth (gTo ys k) m = ((nth ys k).1, S) ∧ S = sumH (fun q => q.1 == (nth ys k).1) (ys.take k) ∧ gTo ys (k + 1) = (gTo ys k).set m ((nth ys k).1, S + (nth ys k).2) := by
  have hk0 : 0 < k := by
    rcases Nat.eq_zero_or_pos k with h0 | h0
    · subst h0; simp [newB] at h
    · exact h0
  have hne : (nth ys k).1 = (nth ys (k - 1)).1 := by
    unfold newB at h; rw [Bool.or_eq_false_iff] at h; simpa using h.2
  obtain ⟨pre, e, hp⟩ := once_last hs hk0 (by omega)
  rw [← hne] at e hp
  have e1 : gTo ys k = pre.map (smF ys k) ++ [((nth ys k).1, sumH (fun q => q.1 == (nth ys k).1) (ys.take k))] := by
    unfold gTo; rw [e, List.map_append]; rfl
  have hlen : (pre.map (smF ys k)).length = pre.length := List.length_map ..
  refine ⟨pre.length, _, by rw [e1]; simp, ?_, rfl, ?_⟩
  · rw [e1]; unfold nth; rw [List.getD_eq_getElem?_getD, List.getElem?_append_right (by rw [hlen]; omega), hlen]; simp
  · rw [e1, List.set_append_right _ _ (by rw [hlen]; omega), hlen]
    unfold gTo
    rw [onceTo_no h, e, List.map_append]
    congr 1
    · exact List.map_congr_left fun p hp' => smF_ne hk (hp p hp')
    · show [smF ys (k + 1) ((nth ys k).1, 1)] = _
      unfold smF
      rw [sumH_yes hk (by simp)]
      simp
theorem gTo_lastNew {ys : List Pq} (hs : Srt ys) {k : Nat} (hk0 : 0 < k) (hk : k < ys.length) (h : newB ys k = true) :
    ∃ m S, (gTo ys k).length = m + 1 ∧ nth (gTo ys k) m = ((nth ys (k - 1)).1, S) ∧ ((nth ys (k - 1)).1 == (nth ys k).1) = false := by
  have hne : ((nth ys (k - 1)).1 == (nth ys k).1) = false := by
    have := new_ne hs hk h (nth ys (k - 1)) (by
      have e := nth_take (ys := ys) (show k - 1 < k by omega) (by omega)
      rw [← e]; exact nth_mem (by rw [List.length_take]; omega))
    simpa using this
  obtain ⟨pre, e, _⟩ := once_last hs hk0 (by omega)
  have e1 : gTo ys k = pre.map (smF ys k) ++ [((nth ys (k - 1)).1, sumH (fun q => q.1 == (nth ys (k - 1)).1) (ys.take k))] := by
    unfold gTo; rw [e, List.map_append]; rfl
  have hlen : (pre.map (smF ys k)).length = pre.length := List.length_map ..
  refine ⟨pre.length, sumH (fun q => q.1 == (nth ys (k - 1)).1) (ys.take k), by rw [e1]; simp, ?_, hne⟩
  rw [e1]; unfold nth; rw [List.getD_eq_getElem?_getD, List.getElem?_append_right (by rw [hlen]; omega), hlen]; simp
/-- All of it. -/
def gathL (xs : List Pq) : List Pq := (onceL xs).map (fun p => (p.1, sumH (fun q => q.1 == p.1) xs))
theorem gTo_end {xs : List Pq} (h : ∀ p ∈ xs, inR p) : gTo (ordL xs) (ordL xs).length = gathL xs := by
  unfold gTo gathL smF onceL
  refine List.map_congr_left fun p _ => ?_
  rw [List.take_length, sumH_ordL _ h]
theorem once_w {ys : List Pq} : ∀ {k : Nat}, ∀ p ∈ onceTo ys k, p.2 = 1
  | 0, p, h => by simp [onceTo] at h
  | k + 1, p, h => by
    unfold onceTo at h
    split at h
    · rcases List.mem_append.1 h with h | h
      · exact once_w p h
      · rw [List.mem_singleton.1 h]
    · exact once_w p h
theorem gath_one (xs : List Pq) : (gathL xs).map (fun p => (p.1, 1)) = onceL xs := by
  unfold gathL
  rw [List.map_map]
  conv => rhs; rw [← List.map_id (onceL xs)]
  refine List.map_congr_left fun p hp => ?_
  have := once_w (ys := ordL xs) p hp
  show (p.1, 1) = p
  rw [← this]
theorem gath_min (xs : List Pq) (b : Int) : (gathL xs).map (fun p => (p.1, minI p.2 b)) = mergedL xs b := by
  unfold gathL mergedL
  rw [List.map_map]
  rfl
end Go.Proofs.Ytgckeaijbmcdcaa
