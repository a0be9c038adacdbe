/-
  Weights gathered, and a bound. No condition of its own.
-/
import Derived.Test.YtgckeaijbmcdcaaGathD
import Derived.Test.YtgckeaijbmcdcaaTidyR
namespace Go.Proofs.Ytgckeaijbmcdcaa
open Go.RowKit
set_option maxRecDepth 100000

theorem onceTo_srt {ys : List Pq} (hs : Srt ys) : ∀ {k : Nat}, k ≤ ys.length → (onceTo ys k).Pairwise (fun a b => rankI a.1 < rankI b.1)
  | 0, _ => List.Pairwise.nil
  | k + 1, hk => by
    cases hN : newB ys k
    · rw [onceTo_no hN]; exact onceTo_srt hs (by omega)
    · rw [onceTo_yes hN]
      refine List.pairwise_append.2 ⟨onceTo_srt hs (by omega), by simp, fun a ha b hb => ?_⟩
      rw [List.mem_singleton.1 hb]
      obtain ⟨q, hq, e⟩ := once_in (by omega) ha
      have hne := new_ne hs (by omega) hN q hq
      obtain ⟨i, hi, rfl⟩ := mem_nth hq
      rw [List.length_take] at hi
      rw [nth_take (by omega) (by omega)] at hne e
      have h1 := srt_nth hs (show i < k by omega) (by omega)
      rw [← e]
      have : rankI (nth ys i).1 ≠ rankI (nth ys k).1 := fun h => hne (rank_inj h)
      show rankI (nth ys i).1 < rankI (nth ys k).1
      omega
theorem onceL_srt (xs : List Pq) : (onceL xs).Pairwise (fun a b => rankI a.1 < rankI b.1) := onceTo_srt (ordL_srt xs) (Nat.le_refl _)
theorem onceL_in {xs : List Pq} (h : ∀ p ∈ xs, inR p) : ∀ p ∈ onceL xs, inR p := fun p hp => by
  obtain ⟨q, hq, e⟩ := once_in (Nat.le_refl _) hp
  have := h q (ordTo_mem' (List.mem_of_mem_take hq))
  unfold inR at this ⊢
  rw [← e]; exact this
theorem ordL_id {zs : List Pq} : (∀ p ∈ zs, inR p) → Srt zs → ordL zs = zs := by
  refine snocRec (P := fun zs => (∀ p ∈ zs, inR p) → Srt zs → ordL zs = zs) (fun _ _ => rfl) (fun zs z ih h hs => ?_) zs
  have hs2 := List.pairwise_append.1 hs
  have e := ih (fun p hp => h p (List.mem_append_left _ hp)) hs2.1
  have := ordL_put (xs := zs) (x := z) (j := zs.length) (h z (by simp)) (by rw [e]; exact Nat.le_refl _) (by rw [e, List.drop_length]; simp) (by rw [e, List.take_length]; exact fun p hp => hs2.2.2 p hp z (by simp))
  rw [this, e, List.take_length, List.drop_length, List.append_nil]
theorem onceTo_all {zs : List Pq} (hs : zs.Pairwise (fun a b => rankI a.1 < rankI b.1)) (hw : ∀ p ∈ zs, p.2 = 1) : ∀ {k : Nat}, k ≤ zs.length → onceTo zs k = zs.take k
  | 0, _ => by simp [onceTo]
  | k + 1, hk => by
    have hN : newB zs k = true := by
      unfold newB
      rcases Nat.eq_zero_or_pos k with h | h
      · simp [h]
      · have := List.pairwise_iff_getElem.1 hs (k - 1) k (by omega) (by omega) (by omega)
        have e1 : zs[k - 1] = nth zs (k - 1) := by unfold nth; rw [List.getD_eq_getElem?_getD, List.getElem?_eq_getElem (by omega)]; rfl
        have e2 : zs[k] = nth zs k := by unfold nth; rw [List.getD_eq_getElem?_getD, List.getElem?_eq_getElem (by omega)]; rfl
        rw [e1, e2] at this
        have hne : (nth zs k).1 ≠ (nth zs (k - 1)).1 := fun h => by rw [h] at this; omega
        simp [hne]
    have h1 := hw _ (nth_mem (show k < zs.length by omega))
    rw [onceTo_yes hN, onceTo_all hs hw (by omega), take_nth (by omega)]
    congr 2
    exact Prod.ext rfl h1.symm
theorem onceL_once {xs : List Pq} (h : ∀ p ∈ xs, inR p) : onceL (onceL xs) = onceL xs := by
  have hs := onceL_srt xs
  have e : ordL (onceL xs) = onceL xs := ordL_id (onceL_in h) (hs.imp fun h => Int.le_of_lt h)
  have : onceL (onceL xs) = onceTo (ordL (onceL xs)) (ordL (onceL xs)).length := rfl
  rw [this, e, onceTo_all hs (fun p hp => once_w p hp) (Nat.le_refl _), List.take_length]
theorem ordTo_map {f : Pq → Pq} (hf : ∀ p, (f p).1 = p.1) (xs : List Pq) : ∀ k, ordTo (xs.map f) k = (ordTo xs k).map f
  | 0 => rfl
  | k + 1 => by
    have hfl : ∀ l : Int, (xs.map f).filter (fun p => p.1 == l) = (xs.filter (fun p => p.1 == l)).map f := fun l => by
      rw [List.filter_map]; congr 1; exact List.filter_congr fun p _ => by simp [Function.comp, hf]
    show ordTo (xs.map f) k ++ _ = (ordTo xs k ++ _).map f
    rw [ordTo_map hf, hfl, hfl, List.map_append, List.map_append]
theorem ordL_map {f : Pq → Pq} (hf : ∀ p, (f p).1 = p.1) (xs : List Pq) : ordL (xs.map f) = (ordL xs).map f := ordTo_map hf xs 12
theorem onceL_map {f : Pq → Pq} (hf : ∀ p, (f p).1 = p.1) (xs : List Pq) (hm : ∀ {k : Nat}, k ≤ (ordL xs).length → onceTo ((ordL xs).map f) k = onceTo (ordL xs) k) : onceL (xs.map f) = onceL xs := by
  unfold onceL
  rw [ordL_map hf, List.length_map, hm (Nat.le_refl _)]
theorem nth_map {f : Pq → Pq} (ys : List Pq) {k : Nat} (hk : k < ys.length) : nth (ys.map f) k = f (nth ys k) := by
  unfold nth
  rw [List.getD_eq_getElem?_getD, List.getD_eq_getElem?_getD, List.getElem?_map, List.getElem?_eq_getElem hk]; rfl
theorem onceTo_map {f : Pq → Pq} (hf : ∀ p, (f p).1 = p.1) (ys : List Pq) : ∀ {k : Nat}, k ≤ ys.length → onceTo (ys.map f) k = onceTo ys k
  | 0, _ => rfl
  | k + 1, hk => by
    have e1 := nth_map (f := f) ys (show k < ys.length by omega)
    have e2 := nth_map (f := f) ys (show k - 1 < ys.length by omega)
    have hb : newB (ys.map f) k = newB ys k := by unfold newB; rw [e1, e2, hf, hf]
    unfold onceTo
    rw [hb, e1, hf, onceTo_map hf ys (by omega)]
theorem onceL_merged {xs : List Pq} (b : Int) (h : ∀ p ∈ xs, inR p) : onceL (mergedL xs b) = onceL xs := by
  unfold mergedL
  rw [onceL_map (f := mergeF xs b) (fun _ => rfl) (onceL xs) (onceTo_map (f := mergeF xs b) (fun _ => rfl) (ordL (onceL xs)))]
  exact onceL_once h

/-- Sums by literals are the gathered row's. -/
theorem sumH_set {f : Pq → Bool} : ∀ {l : List Pq} {m : Nat} {a : Int} {S T : Int}, m < l.length → nth l m = (a, S) → f (a, T) = f (a, S) → sumH f (l.set m (a, T)) = sumH f l + (if f (a, S) then T - S else 0)
  | [], _, _, _, _, h, _, _ => by simp at h
  | p :: r, 0, a, S, T, _, hn, hf => by
    have : p = (a, S) := hn
    subst this
    show sumH f ((a, T) :: r) = _
    simp only [sumH, hf]
    split <;> omega
  | p :: r, m + 1, a, S, T, h, hn, hf => by
    have := sumH_set (f := f) (l := r) (m := m) (T := T) (by simpa using h) hn hf
    show sumH f (p :: r.set m (a, T)) = _
    simp only [sumH]
    rw [this]; omega
theorem sumH_gTo {g : Int → Bool} {ys : List Pq} (hs : Srt ys) : ∀ {k : Nat}, k ≤ ys.length → sumH (fun q => g q.1) (gTo ys k) = sumH (fun q => g q.1) (ys.take k)
  | 0, _ => rfl
  | k + 1, hk => by
    have ih := sumH_gTo (g := g) hs (show k ≤ ys.length by omega)
    rw [sumH_take (f := fun q => g q.1) (by omega), ← ih]
    cases hN : newB ys k
    · obtain ⟨m, S, hlen, hnt, _, hset⟩ := gTo_old hs (by omega) hN
      rw [hset, sumH_set (f := fun q => g q.1) (T := S + (nth ys k).2) (by omega) hnt rfl, show S + (nth ys k).2 - S = (nth ys k).2 by omega]
    · rw [gTo_new hs (by omega) hN, sumH_snoc]
theorem sumH_gath {g : Int → Bool} {xs : List Pq} (h : ∀ p ∈ xs, inR p) : sumH (fun q => g q.1) (gathL xs) = sumH (fun q => g q.1) xs := by
  rw [← gTo_end h, sumH_gTo (ordL_srt xs) (Nat.le_refl _), List.take_length, sumH_ordL _ h]
/-- Under a bound it makes no difference that each is cut to it. -/
theorem cut_lt {g : Int → Bool} {b : Int} {G : List Pq} : (∀ p ∈ G, 0 ≤ p.2) → 0 ≤ b →
    0 ≤ sumH (fun q => g q.1) (G.map (fun p => (p.1, minI p.2 b))) ∧ sumH (fun q => g q.1) (G.map (fun p => (p.1, minI p.2 b))) ≤ sumH (fun q => g q.1) G ∧ (sumH (fun q => g q.1) (G.map (fun p => (p.1, minI p.2 b))) < b → sumH (fun q => g q.1) (G.map (fun p => (p.1, minI p.2 b))) = sumH (fun q => g q.1) G) := by
  refine snocRec (P := fun G => (∀ p ∈ G, 0 ≤ p.2) → 0 ≤ b →
    0 ≤ sumH (fun q => g q.1) (G.map (fun p => (p.1, minI p.2 b))) ∧ sumH (fun q => g q.1) (G.map (fun p => (p.1, minI p.2 b))) ≤ sumH (fun q => g q.1) G ∧ (sumH (fun q => g q.1) (G.map (fun p => (p.1, minI p.2 b))) < b → sumH (fun q => g q.1) (G.map (fun p => (p.1, minI p.2 b))) = sumH (fun q => g q.1) G)) (fun _ _ => by simp [sumH]) (fun G p ih h hb => ?_) G
  have ih := ih (fun q hq => h q (List.mem_append_left _ hq)) hb
  have hp := h p (by simp)
  rw [List.map_append]
  simp only [List.map_cons, List.map_nil]
  rw [sumH_snoc, sumH_snoc]
  simp only
  generalize sumH (fun q => g q.1) (G.map (fun p => (p.1, minI p.2 b))) = A at ih ⊢
  generalize sumH (fun q => g q.1) G = B at ih ⊢
  unfold minI
  split
  · split <;> omega
  · omega
theorem cut_iff {g : Int → Bool} {xs : List Pq} {b : Int} (h : WOk xs) (hb : 0 ≤ b) : sumH (fun q => g q.1) (mergedL xs b) < b ↔ sumH (fun q => g q.1) xs < b := by
  have hg : ∀ p ∈ gathL xs, 0 ≤ p.2 := fun p hp => by
    unfold gathL at hp
    obtain ⟨q, _, rfl⟩ := List.mem_map.1 hp
    exact (sumH_bd h.w).1
  have := cut_lt (g := g) hg hb
  rw [gath_min, sumH_gath h.big.inR] at this
  omega
theorem sumH_split {g : Int → Bool} {l : List Pq} : sumH (fun _ => true) l = sumH (fun q => g q.1) l + sumH (fun q => !g q.1) l := by
  refine snocRec (P := fun l => sumH (fun _ => true) l = sumH (fun q => g q.1) l + sumH (fun q => !g q.1) l) (by simp [sumH]) (fun l p ih => ?_) l
  rw [sumH_snoc, sumH_snoc, sumH_snoc, ih]
  cases g p.1 <;> simp <;> omega
/-- Of literals that each stand once. -/
theorem sumH_one {l : List Pq} (hd : l.Pairwise (fun a b => a.1 ≠ b.1)) {p : Pq} (hp : p ∈ l) : sumH (fun q => q.1 == p.1) l = p.2 := by
  induction l with
  | nil => simp at hp
  | cons q r ih =>
    rw [List.pairwise_cons] at hd
    rcases List.mem_cons.1 hp with rfl | hp
    · have h0 : sumH (fun q => q.1 == p.1) r = 0 := sumH_none fun q hq => by have := hd.1 q hq; simp; exact fun e => this e.symm
      simp only [sumH]; rw [h0]; simp
    · have hne := hd.1 p hp
      simp only [sumH]; rw [ih hd.2 hp]; simp [hne]
theorem merged_dist (xs : List Pq) (b : Int) : (mergedL xs b).Pairwise (fun a c => a.1 ≠ c.1) := by
  unfold mergedL
  rw [List.pairwise_map]
  exact (onceL_srt xs).imp fun h e => by
    have e : _ = _ := e
    simp only [mergeF] at e
    rw [e] at h; omega
theorem body_once {xs : List Pq} (h : ∀ p ∈ xs, inR p) {p : Pq} (hp : p ∈ xs) : ∃ q ∈ onceL xs, q.1 = p.1 := by
  apply Classical.byContradiction
  intro hc
  have h1 : sumH (fun q => q.1 == p.1) ((xs.map fun q => (q.1, 1))) = 0 := by
    have hin : ∀ q ∈ xs.map (fun q => ((q.1, 1) : Pq)), inR q := fun q hq => by
      obtain ⟨q', hq', rfl⟩ := List.mem_map.1 hq
      exact h q' hq'
    rw [← sumH_gath (g := fun l => l == p.1) hin]
    refine sumH_none fun q hq => ?_
    unfold gathL at hq
    obtain ⟨q', hq', rfl⟩ := List.mem_map.1 hq
    have e : onceL (xs.map fun q => ((q.1, 1) : Pq)) = onceL xs := onceL_map (f := fun q => ((q.1, 1) : Pq)) (fun _ => rfl) xs (onceTo_map (f := fun q => ((q.1, 1) : Pq)) (fun _ => rfl) (ordL xs))
    rw [e] at hq'
    have : q'.1 ≠ p.1 := fun e => hc ⟨q', hq', e⟩
    simpa using this
  obtain ⟨a, b, rfl⟩ := List.append_of_mem hp
  rw [List.map_append, List.map_cons, sumH_app] at h1
  have ha := sumH_ones (f := fun q => q.1 == p.1) (l := a.map fun q => ((q.1, 1) : Pq)) (fun q hq => by obtain ⟨_, _, rfl⟩ := List.mem_map.1 hq; rfl)
  have n1 := (sumH_bd (f := fun q => q.1 == p.1) (l := a.map fun q => ((q.1, 1) : Pq)) (fun q hq => by obtain ⟨_, _, rfl⟩ := List.mem_map.1 hq; omega)).1
  have n2 := (sumH_bd (f := fun q => q.1 == p.1) (l := b.map fun q => ((q.1, 1) : Pq)) (fun q hq => by obtain ⟨_, _, rfl⟩ := List.mem_map.1 hq; omega)).1
  simp only [sumH] at h1
  simp at h1
  omega
/-- None can be left out. -/
theorem each_need {r : RuleD} (h : WOk r.body) (hb : 0 ≤ r.bound) : (mergedL r.body r.bound).all (fun p => decide (sumH (fun _ => true) (mergedL r.body r.bound) - r.bound < p.2)) = needAll r := by
  have key : ∀ p ∈ mergedL r.body r.bound, (sumH (fun _ => true) (mergedL r.body r.bound) - r.bound < p.2 ↔ sumBut r.body p.1 < r.bound) := fun p hp => by
    have h1 := sumH_split (g := fun l => l != p.1) (l := mergedL r.body r.bound)
    have h2 := sumH_one (merged_dist r.body r.bound) hp
    have h3 : sumH (fun q => !(q.1 != p.1)) (mergedL r.body r.bound) = p.2 := by
      rw [← h2]; exact sumH_congr fun q _ => by simp [bne]
    rw [h3] at h1
    have h4 := cut_iff (g := fun l => l != p.1) h hb
    show _ ↔ sumH (fun q => q.1 != p.1) r.body < r.bound
    rw [← h4, h1]
    omega
  rw [Bool.eq_iff_iff]
  unfold needAll
  rw [List.all_eq_true, List.all_eq_true]
  constructor
  · intro hA p hp
    obtain ⟨q, hq, e⟩ := body_once h.big.inR hp
    have hm : mergeF r.body r.bound q ∈ mergedL r.body r.bound := List.mem_map_of_mem hq
    have := (key _ hm).1 (by simpa using hA _ hm)
    have e2 : (mergeF r.body r.bound q).1 = p.1 := e
    rw [e2] at this
    simpa using this
  · intro hA p hp
    unfold mergedL at hp
    obtain ⟨q, hq, e⟩ := List.mem_map.1 hp
    obtain ⟨q2, hq2, e2⟩ := once_in (Nat.le_refl _) hq
    have hb2 := hA q2 (ordTo_mem' (List.mem_of_mem_take hq2))
    have e3 : p.1 = q2.1 := by rw [← e, e2]; rfl
    have := (key p (by unfold mergedL; exact hp)).2 (by rw [e3]; simpa using hb2)
    simpa using this
theorem spare_neg {r : RuleD} (h : WOk r.body) (hb : 0 ≤ r.bound) : (sumH (fun _ => true) (mergedL r.body r.bound) - r.bound < 0 ↔ sumBut r.body 0 < r.bound) := by
  have h4 := cut_iff (g := fun _ => true) h hb
  have h5 : sumBut r.body 0 = sumH (fun _ => true) r.body := sumH_congr fun q hq => by
    have := (h.2 q hq).1
    have hne : q.1 ≠ 0 := by omega
    simp [hne]
  rw [h5, ← h4]
  omega
theorem merged_big {xs : List Pq} {b : Int} (h : WOk xs) (hb : 1 ≤ b) : WBg (mergedL xs b) := by
  have hl := ordL_len h.big.inR
  have hlen : (mergedL xs b).length ≤ 20 := by
    unfold mergedL; rw [List.length_map]
    have h1 : (onceL xs).length ≤ (ordL xs).length := onceTo_len _ _
    have := h.1
    omega
  refine ⟨hlen, fun p hp => ?_⟩
  unfold mergedL at hp
  obtain ⟨q, hq, rfl⟩ := List.mem_map.1 hp
  have h1 := onceL_in h.big.inR q hq
  obtain ⟨q2, hq2, e2⟩ := once_in (Nat.le_refl _) hq
  have hq2 := ordTo_mem' (List.mem_of_mem_take hq2)
  have hS : 1 ≤ sumH (fun p => p.1 == q.1) xs ∧ sumH (fun p => p.1 == q.1) xs ≤ 20000 := by
    have hbd := sumH_bd (f := fun p => p.1 == q.1) h.w
    have := h.1
    refine ⟨?_, by omega⟩
    obtain ⟨a, c, rfl⟩ := List.append_of_mem hq2
    have n1 := (sumH_bd (f := fun p => p.1 == q.1) (l := a) (fun p hp => h.w p (by simp [hp]))).1
    have n2 := (sumH_bd (f := fun p => p.1 == q.1) (l := c) (fun p hp => h.w p (by simp [hp]))).1
    have n3 := h.w q2 (by simp)
    rw [sumH_app]
    have hq : (q2.1 == q.1) = true := by simp [e2]
    simp only [sumH, hq, if_true]
    omega
  refine ⟨h1, ?_⟩
  show 1 ≤ minI _ _ ∧ minI _ _ ≤ 20000
  unfold minI
  split <;> omega
end Go.Proofs.Ytgckeaijbmcdcaa
