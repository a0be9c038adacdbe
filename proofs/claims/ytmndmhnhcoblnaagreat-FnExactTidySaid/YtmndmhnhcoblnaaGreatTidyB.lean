/-
  The program's tidying of a rule. No condition of its own.
-/
import Derived.Test.YtmndmhnhcoblnaaGreatTidyA
import Derived.BigRegion
import Derived.Test.YtmndmhnhcoblnaaGreatSetsLaw
import Derived.Deep.RegionHeld3
import Derived.Deep.RegionWith
import Derived.Test.YtmndmhnhcoblnaaGreatImplRule
import Derived.Deep.DeepCutAuto
namespace Go.Proofs.YtmndmhnhcoblnaaGreat
open Go.RowKit
set_option maxRecDepth 100000

/-! ### GathD -/
theorem snocRec {P : List Pq → Prop} (nil : P []) (append_singleton : ∀ l p, P l → P (l ++ [p])) (l : List Pq) : P l := by
  rw [← List.reverse_reverse l]
  generalize l.reverse = r
  induction r with
  | nil => exact nil
  | cons p r ih => rw [List.reverse_cons]; exact append_singleton _ _ ih
theorem ordL_ins {xs : List Pq} {x : Pq} (hxs : ∀ p ∈ xs, inR p) (hx : inR x) : ∃ j ≤ (ordL xs).length, ordL (xs ++ [x]) = (ordL xs).take j ++ [x] ++ (ordL xs).drop j := by
  obtain ⟨m, hm, _, h2, h3⟩ := insInner_list (ordL xs).length (ordL xs) [] x rfl (ordL_srt _) (fun p hp => hxs p (ordTo_mem' hp)) hx
  exact ⟨m, hm, ordL_put hx hm h2 h3⟩
theorem sumH_app (f : Pq → Bool) (a : List Pq) : ∀ b, sumH f (a ++ b) = sumH f a + sumH f b := by
  intro b
  refine snocRec (P := fun b => sumH f (a ++ b) = sumH f a + sumH f b) (by simp [sumH]) (fun b p ih => ?_) b
  rw [← List.append_assoc, sumH_snoc, sumH_snoc, ih]; omega
theorem sumH_ordL (f : Pq → Bool) {xs : List Pq} (h : ∀ p ∈ xs, inR p) : sumH f (ordL xs) = sumH f xs := by
  induction xs using snocRec with
  | nil => rfl
  | append_singleton xs x ih =>
    obtain ⟨j, hj, e⟩ := ordL_ins (fun p hp => h p (List.mem_append_left _ hp)) (h x (by simp))
    have ih := ih fun p hp => h p (List.mem_append_left _ hp)
    have e2 : sumH f (ordL xs) = sumH f ((ordL xs).take j) + sumH f ((ordL xs).drop j) := by rw [← sumH_app, List.take_append_drop]
    rw [e, sumH_app, sumH_snoc, sumH_snoc]
    omega
theorem ordL_len {xs : List Pq} (h : ∀ p ∈ xs, inR p) : (ordL xs).length = xs.length := (insSort_list h).2

def smF (ys : List Pq) (k : Nat) (p : Pq) : Pq := (p.1, sumH (fun q => q.1 == p.1) (ys.take k))
/-- What is gathered of the first k of a row in order. -/
def gTo (ys : List Pq) (k : Nat) : List Pq := (onceTo ys k).map (smF ys k)
theorem gTo_len (ys : List Pq) (k : Nat) : (gTo ys k).length = (onceTo ys k).length := by simp [gTo]
theorem sumH_none {f : Pq → Bool} {l : List Pq} (h : ∀ p ∈ l, f p = false) : sumH f l = 0 := by
  induction l using snocRec with
  | nil => rfl
  | append_singleton l p ih => rw [sumH_snoc, ih (fun q hq => h q (List.mem_append_left _ hq)), h p (by simp)]; rfl
theorem nth_take {ys : List Pq} {k i : Nat} (h : i < k) (hk : k ≤ ys.length) : nth (ys.take k) i = nth ys i := by
  unfold nth
  rw [List.getD_eq_getElem?_getD, List.getD_eq_getElem?_getD, List.getElem?_take, if_pos h]
theorem mem_nth {ys : List Pq} {p : Pq} (h : p ∈ ys) : ∃ i < ys.length, nth ys i = p := by
  obtain ⟨i, hi, e⟩ := List.mem_iff_getElem.1 h
  exact ⟨i, hi, by unfold nth; rw [List.getD_eq_getElem?_getD, List.getElem?_eq_getElem hi]; exact e⟩
theorem srt_nth {ys : List Pq} (h : Srt ys) {i j : Nat} (hij : i < j) (hj : j < ys.length) : rankI (nth ys i).1 ≤ rankI (nth ys j).1 := by
  have := List.pairwise_iff_getElem.1 h i j (by omega) hj hij
  unfold nth
  rw [List.getD_eq_getElem?_getD, List.getD_eq_getElem?_getD, List.getElem?_eq_getElem hj, List.getElem?_eq_getElem (by omega)]
  exact this
/-- A literal that is new stands nowhere ahead. -/
theorem new_ne {ys : List Pq} (hs : Srt ys) {k : Nat} (hk : k < ys.length) (h : newB ys k = true) : ∀ p ∈ ys.take k, p.1 ≠ (nth ys k).1 := by
  intro p hp e
  obtain ⟨i, hi, rfl⟩ := mem_nth hp
  rw [List.length_take] at hi
  rw [nth_take (by omega) (by omega)] at e
  have hk0 : 0 < k := by omega
  have hne : (nth ys k).1 ≠ (nth ys (k - 1)).1 := by
    unfold newB at h
    rw [Bool.or_eq_true] at h
    rcases h with h | h
    · simp at h; omega
    · simpa using h
  have h1 : rankI (nth ys i).1 ≤ rankI (nth ys (k - 1)).1 := by
    rcases Nat.lt_or_ge i (k - 1) with h | h
    · exact srt_nth hs h (by omega)
    · rw [show i = k - 1 by omega]; exact Int.le_refl _
  have h2 := srt_nth hs (show k - 1 < k by omega) hk
  rw [e] at h1
  exact hne (rank_inj (by omega))
theorem once_in {ys : List Pq} {p : Pq} : ∀ {k : Nat}, k ≤ ys.length → p ∈ onceTo ys k → ∃ q ∈ ys.take k, q.1 = p.1
  | 0, _, h => by simp [onceTo] at h
  | k + 1, hk, h => by
    have ht : ys.take (k + 1) = ys.take k ++ [nth ys k] := take_nth (by omega)
    rw [ht]
    unfold onceTo at h
    split at h
    · rcases List.mem_append.1 h with h | h
      · obtain ⟨q, hq, e⟩ := once_in (by omega) h
        exact ⟨q, List.mem_append_left _ hq, e⟩
      · rw [List.mem_singleton.1 h]
        exact ⟨nth ys k, by simp, rfl⟩
    · obtain ⟨q, hq, e⟩ := once_in (by omega) h
      exact ⟨q, List.mem_append_left _ hq, e⟩
/-- The last one that was put there is the last literal that was read; no other one is. -/
theorem once_last {ys : List Pq} (hs : Srt ys) : ∀ {k : Nat}, 0 < k → k ≤ ys.length → ∃ pre, onceTo ys k = pre ++ [((nth ys (k - 1)).1, 1)] ∧ ∀ p ∈ pre, p.1 ≠ (nth ys (k - 1)).1
  | 0, h, _ => by omega
  | k + 1, _, hk => by
    cases hN : newB ys k
    · have hk0 : 0 < k := by
        rcases Nat.eq_zero_or_pos k with h0 | h0
        · subst h0; simp [newB] at hN
        · exact h0
      have hne : (nth ys k).1 = (nth ys (k - 1)).1 := by
        unfold newB at hN; rw [Bool.or_eq_false_iff] at hN; simpa using hN.2
      obtain ⟨pre, e, hp⟩ := once_last hs hk0 (by omega)
      refine ⟨pre, ?_, ?_⟩
      · rw [onceTo_no hN, e, Nat.add_sub_cancel, hne]
      · rw [Nat.add_sub_cancel, hne]; exact hp
    · refine ⟨onceTo ys k, by rw [onceTo_yes hN, Nat.add_sub_cancel], ?_⟩
      rw [Nat.add_sub_cancel]
      intro p hp
      obtain ⟨q, hq, e⟩ := once_in (by omega) hp
      rw [← e]
      exact new_ne hs (by omega) hN q hq
theorem smF_ne {ys : List Pq} {k : Nat} (hk : k < ys.length) {p : Pq} (h : p.1 ≠ (nth ys k).1) : smF ys (k + 1) p = smF ys k p := by
  unfold smF
  rw [sumH_no hk (by simp; exact fun e => h e.symm)]
theorem gTo_new {ys : List Pq} (hs : Srt ys) {k : Nat} (hk : k < ys.length) (h : newB ys k = true) : gTo ys (k + 1) = gTo ys k ++ [nth ys k] := by
  unfold gTo
  rw [onceTo_yes h, List.map_append]
  congr 1
  · refine List.map_congr_left fun p hp => smF_ne hk ?_
    obtain ⟨q, hq, e⟩ := once_in (by omega) hp
    rw [← e]; exact new_ne hs hk h q hq
  · have h0 : sumH (fun q => q.1 == (nth ys k).1) (ys.take k) = 0 := sumH_none fun p hp => by simpa using new_ne hs hk h p hp
    show [smF ys (k + 1) ((nth ys k).1, 1)] = _
    unfold smF
    rw [sumH_yes hk (by simp), h0, Int.zero_add]
theorem gTo_old {ys : List Pq} (hs : Srt ys) {k : Nat} (hk : k < ys.length) (h : newB ys k = false) :
    ∃ m S, (gTo ys k).length = m + 1 ∧ nth (gTo ys k) m = ((nth ys k).1, S) ∧ S = sumH (fun q => q.1 == (nth ys k).1) (ys.take k) ∧ gTo ys (k + 1) = (gTo ys k).set m ((nth ys k).1, S + (nth ys k).2) := by
  have hk0 : 0 < k := by
    rcases Nat.eq_zero_or_pos k with h0 | h0
    · subst h0; simp [newB] at h
    · exact h0
  have hne : (nth ys k).1 = (nth ys (k - 1)).1 := by
    unfold newB at h; rw [Bool.or_eq_false_iff] at h; simpa using h.2
  obtain ⟨pre, e, hp⟩ := once_last hs hk0 (by omega)
  rw [← hne] at e hp
  have e1 : gTo ys k = pre.map (smF ys k) ++ [((nth ys k).1, sumH (fun q => q.1 == (nth ys k).1) (ys.take k))] := by
    unfold gTo; rw [e, List.map_append]; rfl
  have hlen : (pre.map (smF ys k)).length = pre.length := List.length_map ..
  refine ⟨pre.length, _, by rw [e1]; simp, ?_, rfl, ?_⟩
  · rw [e1]; unfold nth; rw [List.getD_eq_getElem?_getD, List.getElem?_append_right (by rw [hlen]; omega), hlen]; simp
  · rw [e1, List.set_append_right _ _ (by rw [hlen]; omega), hlen]
    unfold gTo
    rw [onceTo_no h, e, List.map_append]
    congr 1
    · exact List.map_congr_left fun p hp' => smF_ne hk (hp p hp')
    · show [smF ys (k + 1) ((nth ys k).1, 1)] = _
      unfold smF
      rw [sumH_yes hk (by simp)]
      simp
theorem gTo_lastNew {ys : List Pq} (hs : Srt ys) {k : Nat} (hk0 : 0 < k) (hk : k < ys.length) (h : newB ys k = true) :
    ∃ m S, (gTo ys k).length = m + 1 ∧ nth (gTo ys k) m = ((nth ys (k - 1)).1, S) ∧ ((nth ys (k - 1)).1 == (nth ys k).1) = false := by
  have hne : ((nth ys (k - 1)).1 == (nth ys k).1) = false := by
    have := new_ne hs hk h (nth ys (k - 1)) (by
      have e := nth_take (ys := ys) (show k - 1 < k by omega) (by omega)
      rw [← e]; exact nth_mem (by rw [List.length_take]; omega))
    simpa using this
  obtain ⟨pre, e, _⟩ := once_last hs hk0 (by omega)
  have e1 : gTo ys k = pre.map (smF ys k) ++ [((nth ys (k - 1)).1, sumH (fun q => q.1 == (nth ys (k - 1)).1) (ys.take k))] := by
    unfold gTo; rw [e, List.map_append]; rfl
  have hlen : (pre.map (smF ys k)).length = pre.length := List.length_map ..
  refine ⟨pre.length, sumH (fun q => q.1 == (nth ys (k - 1)).1) (ys.take k), by rw [e1]; simp, ?_, hne⟩
  rw [e1]; unfold nth; rw [List.getD_eq_getElem?_getD, List.getElem?_append_right (by rw [hlen]; omega), hlen]; simp
/-- All of it. -/
def gathL (xs : List Pq) : List Pq := (onceL xs).map (fun p => (p.1, sumH (fun q => q.1 == p.1) xs))
theorem gTo_end {xs : List Pq} (h : ∀ p ∈ xs, inR p) : gTo (ordL xs) (ordL xs).length = gathL xs := by
  unfold gTo gathL smF onceL
  refine List.map_congr_left fun p _ => ?_
  rw [List.take_length, sumH_ordL _ h]
theorem once_w {ys : List Pq} : ∀ {k : Nat}, ∀ p ∈ onceTo ys k, p.2 = 1
  | 0, p, h => by simp [onceTo] at h
  | k + 1, p, h => by
    unfold onceTo at h
    split at h
    · rcases List.mem_append.1 h with h | h
      · exact once_w p h
      · rw [List.mem_singleton.1 h]
    · exact once_w p h
theorem gath_one (xs : List Pq) : (gathL xs).map (fun p => (p.1, 1)) = onceL xs := by
  unfold gathL
  rw [List.map_map]
  conv => rhs; rw [← List.map_id (onceL xs)]
  refine List.map_congr_left fun p hp => ?_
  have := once_w (ys := ordL xs) p hp
  show (p.1, 1) = p
  rw [← this]
theorem gath_min (xs : List Pq) (b : Int) : (gathL xs).map (fun p => (p.1, minI p.2 b)) = mergedL xs b := by
  unfold gathL mergedL
  rw [List.map_map]
  rfl

/-! ### GathI -/
theorem Kp.setD {B : Nat} {g0 : Nat} {w w' : World} (h : Kp B (fun _ => False) g0 w w') {g : Nat} (hg : g = g0 ∨ B ≤ g) (o : Nat) (v : Value) : Kp B (fun _ => False) g0 w (w'.setCell ⟨g, o, none⟩ v) :=
  ⟨h.os, h.tape, h.output, by simp [World.setCell]; exact h.size, fun k h1 h2 h3 => (Below.heap_setCell _ _ _ _ (by show k ≠ g; omega)).trans (h.block k h1 h2 h3)⟩

set_option maxHeartbeats 1000000 in
theorem together_calls {v : Value} {xs : List Pr} {w : World} (h : RdL w [v] xs) (hl : xs.length ≤ 20) (hb : ∀ p ∈ xs, 1 ≤ p.2 ∧ p.2 ≤ 20000) :
    Calls Tryz.prog 95 #[v] w fun e w' => e = .returned (.int .i64 (sumH (fun _ => true) xs)) ∧ Below w.heap.size w w' := by
  obtain ⟨a, cap, rfl, _, hr⟩ := h.sl
  have hm := hr.1
  have HB := Lib.hid hb
  clear h hb
  go_enter Tryz.func95, Tryz.ntmps95
  go_wp2
  go_loopw [3, 5, 8] (fun s _ i wr => ∃ k : Nat, k ≤ xs.length ∧ i = .int .i64 k ∧ s = .int .i64 (sumH (fun _ => true) (xs.take k)) ∧ 0 ≤ sumH (fun _ => true) (xs.take k) ∧ sumH (fun _ => true) (xs.take k) ≤ 20000 * k ∧ Below w.heap.size w wr) (fun _ _ i _ => xs.length - (intOf i).toNat)
  case atStart => exact ⟨0, Nat.zero_le _, rfl, rfl, by simp [sumH], by simp [sumH], Below.refl _ _⟩
  case round =>
    obtain ⟨k, hk, rfl, rfl, hs0, hs1, hb⟩ := hrel
    obtain ⟨sv, hsv⟩ : ∃ sv, sv = sumH (fun _ => true) (xs.take k) := ⟨_, rfl⟩
    rw [← hsv] at hs0 hs1 ⊢
    by_cases hlt : k < xs.length
    · obtain ⟨b, off, rfl, hc⟩ := hr.base (by omega)
      obtain ⟨ecs, hC, rfl, hf1, hf2⟩ := hc k hlt
      have hC := hC.later hb
      obtain ⟨hp0, hp1⟩ := HB.out _ (nth_mem hlt)
      have u0 := hC.c0
      have u1 := hC.c1
      rw [show Rd.k (Int × Int) = 2 from rfl] at u0 u1
      have hn0 : sv + (nth xs k).2 = sumH (fun _ => true) (xs.take (k + 1)) := by rw [sumH_yes (f := fun _ => true) hlt rfl, hsv]
      have hn := Lib.hid hn0
      have hs2 : sv ≤ 400000 := by omega
      have hbA := hb.alloc hb.size (.cells #[.int .i64 (nth xs k).1, .int .i64 (nth xs k).2] 84)
      clear hC hc hr hn0 hsv
      go_wp2
      go_roundw
      case rel => exact ⟨k + 1, by omega, by go_num, by rw [← hn.out], by rw [← hn.out]; omega, by rw [← hn.out]; push_cast; omega, hbA⟩
      case measure => simp [intOf]; omega
    · have he := Lib.hid (hsv.trans (sumH_end (f := fun _ => true) (l := xs) (k := k) (by omega)))
      clear hsv hr
      go_wp2
      go_ret
      exact ⟨ret_int he.out, hb⟩

set_option maxHeartbeats 1000000 in
theorem eachAbove_calls {v : Value} {xs : List Pr} {w : World} (s : Int) (h : RdL w [v] xs) :
    Calls Tryz.prog 96 #[v, .int .i64 s] w fun e w' => e = .returned (.bool (xs.all (fun p => decide (s < p.2)))) ∧ Below w.heap.size w w' := by
  obtain ⟨a, cap, rfl, _, hr⟩ := h.sl
  have hm := hr.1
  clear h
  go_enter Tryz.func96, Tryz.ntmps96
  go_wp2
  go_loopw [6, 9] (fun _ i wr => ∃ k : Nat, k ≤ xs.length ∧ i = .int .i64 k ∧ Hid ((xs.take k).all (fun p => decide (s < p.2)) = true) ∧ Below w.heap.size w wr) (fun _ i _ => xs.length - (intOf i).toNat)
  case atStart => exact ⟨0, Nat.zero_le _, rfl, (by show _ = _; rfl), Below.refl _ _⟩
  case round =>
    obtain ⟨k, hk, rfl, hA, hb⟩ := hrel
    by_cases hlt : k < xs.length
    · obtain ⟨b, off, rfl, hc⟩ := hr.base (by omega)
      obtain ⟨ecs, hC, rfl, hf1, hf2⟩ := hc k hlt
      have hC := hC.later hb
      have u0 := hC.c0
      have u1 := hC.c1
      rw [show Rd.k (Int × Int) = 2 from rfl] at u0 u1
      have hbA := hb.alloc hb.size (.cells #[.int .i64 (nth xs k).1, .int .i64 (nth xs k).2] 84)
      clear hC hc hr
      by_cases hs : s < (nth xs k).2
      · have hn : Hid ((xs.take (k + 1)).all (fun p => decide (s < p.2)) = true) := by
          show _ = _
          rw [take_nth hlt, List.all_append, hA.out]; simp [hs]
        go_wp2
        go_roundw
        case rel => exact ⟨k + 1, by omega, by go_num, hn, hbA⟩
        case measure => simp [intOf]; omega
      · have hn : Hid (xs.all (fun p => decide (s < p.2)) = false) := by
          show _ = _
          rw [List.all_eq_false]
          exact ⟨_, nth_mem hlt, by simp [hs]⟩
        go_wp2
        go_ret
        exact ⟨by rw [hn.out]; rfl, hbA⟩
    · have hn : Hid (xs.all (fun p => decide (s < p.2)) = true) := by
        have := hA.out
        rw [List.take_of_length_le (by omega)] at this
        exact this
      clear hr
      go_wp2
      go_ret
      exact ⟨by rw [hn.out]; rfl, hb⟩

/-! ### GathO -/
theorem PRow.slice0 {B : Nat} {D : Nat → Prop} {w : World} {v : Value} {xs : List Pr} (h : PRow B D w v xs) (hl : xs.length = 0) : ∃ a c, v = .slice a 0 c := by
  rcases h.form with ⟨rfl, _⟩ | ⟨g, c, rfl, _⟩
  · exact ⟨_, _, rfl⟩
  · exact ⟨_, _, by rw [hl]⟩
theorem PRow.sliceP {B : Nat} {D : Nat → Prop} {w : World} {v : Value} {xs : List Pr} {m : Nat} (h : PRow B D w v xs) (hl : xs.length = m + 1) : ∃ g c, v = .slice (some ⟨g, 0, none⟩) (m + 1) c ∧ D g ∧ B ≤ g ∧ g < w.heap.size := by
  rcases h.form with ⟨rfl, rfl⟩ | ⟨g, c, rfl, _, _, h1, h2, h3⟩
  · simp at hl
  · exact ⟨_, _, by rw [hl], h1, h2, h3⟩

theorem sumH_bg {f : Pr → Bool} {l : List Pr} : (∀ p ∈ l, 1 ≤ p.2 ∧ p.2 ≤ 20000) → 0 ≤ sumH f l ∧ sumH f l ≤ 20000 * (l.length : Int) := by
  refine snocRec (P := fun l => (∀ p ∈ l, 1 ≤ p.2 ∧ p.2 ≤ 20000) → 0 ≤ sumH f l ∧ sumH f l ≤ 20000 * (l.length : Int)) (fun _ => by simp [sumH]) (fun l p ih h => ?_) l
  have := ih fun q hq => h q (List.mem_append_left _ hq)
  have h2 := h p (by simp)
  rw [sumH_snoc, List.length_append]
  push_cast
  split <;> simp <;> omega
theorem sumH_take_bg {f : Pr → Bool} {l : List Pr} (k : Nat) (h : ∀ p ∈ l, 1 ≤ p.2 ∧ p.2 ≤ 20000) (hl : l.length ≤ 20) : 0 ≤ sumH f (l.take k) ∧ sumH f (l.take k) ≤ 400000 := by
  have h1 := sumH_bg (f := f) (l := l.take k) fun p hp => h p (List.mem_of_mem_take hp)
  have h2 : (l.take k).length ≤ 20 := by rw [List.length_take]; omega
  omega

set_option maxHeartbeats 4000000 in
theorem gathered_calls {v : Value} {xs : List Pr} {w : World} (h : RdL w [v] xs) (hw : WBg xs) :
    Calls Tryz.prog 94 #[v] w fun e w' => ∃ v', e = .returned v' ∧ PRow w.heap.size (fun f => w.heap.size ≤ f) w' v' (gathL xs) ∧ Below w.heap.size w w' := by
  obtain ⟨i0, hi, hz0, hz1, hz2⟩ := info_parts info_cloneWLit
  have h0 := h
  obtain ⟨a, cap, rfl, _, hr⟩ := h.sl
  have hm := hr.1
  have hlx := hw.1
  have HX := Lib.hid hw
  clear h hr hw
  go_enter Tryz.func94, Tryz.ntmps94
  go_wp2_with (at_make; refine wpList_make_own _ rfl _ _ 47 rfl w.heap.size 84 i0 _ 2 Tryz.underlying47 hi hz0 hz1 _ _ _ xs.length rfl rfl rfl ?c1 ?c2 ?c3 ?_)
  case c1 => rw [hz2]; omega
  case c2 => unfold maxLen; omega
  case c3 => exact Nat.le_refl _
  intro w1 hown hgrow
  have t1 : Below w.heap.size w w1 := (Below.refl _ _).grown hgrow (Nat.le_refl _) (fun k hk => by cases hk)
  have hm1 : PRow w.heap.size (fun f => f = w.heap.size) w1 (.slice (some ⟨w.heap.size, 0, none⟩) 0 xs.length) [] := PRow.made (g := 0) hown fun g hg => by simp [Value.ownBlock] at hg; exact hg.symm
  have hI := inOrder_calls (Rd.mono (α := List (Int × Int)) t1 h0) HX.out
  have hz1' := (hm1.lt (g := w.heap.size) rfl).2
  clear hown hgrow h0
  go_wp2_with fail
  refine hI.mono ?_
  rintro e w2 ⟨v2, rfl, o2, b2⟩
  have hmade := hm1.later b2
  have t2 := t1.trans (b2.mono t1.size)
  have z2 := b2.size
  clear hI hm1 t1
  have hle := ordL_len HX.out.inR
  have hsrt := ordL_srt xs
  have hwb : ∀ p ∈ ordL xs, 1 ≤ p.2 ∧ p.2 ≤ 20000 := fun p hp => (HX.out.2 p (ordTo_mem' hp)).2
  have hGE := gTo_end HX.out.inR
  obtain ⟨ys, hys⟩ : ∃ ys, ys = ordL xs := ⟨_, rfl⟩
  rw [← hys] at o2 hle hsrt hwb hGE
  have HS := Lib.hid hsrt
  have HWB := Lib.hid hwb
  have HGE := Lib.hid hGE
  clear hys b2 hsrt hwb hGE
  have hlY : (ys.length : Int) ≤ 20 := by omega
  obtain ⟨ay, cy, rfl, hyC⟩ : ∃ ay cy, v2 = .slice ay ys.length cy ∧ (0 < ys.length → ∃ gy, ay = some ⟨gy, 0, none⟩ ∧ w.heap.size < gy ∧ gy < w2.heap.size ∧ ∀ i, i < ys.length → w2.cell? ⟨gy, i * 2, none⟩ = some (.int .i64 (nth ys i).1) ∧ w2.cell? ⟨gy, i * 2 + 1, none⟩ = some (.int .i64 (nth ys i).2)) := by
    rcases o2.form with ⟨rfl, rfl⟩ | ⟨g, c, rfl, _, _, hD, hB, hlt⟩
    · exact ⟨none, 0, rfl, fun h => by simp at h⟩
    · exact ⟨_, c, rfl, fun _ => ⟨g, rfl, by omega, hlt, fun i hi => o2.cell hi⟩⟩
  have hyF := o2.fits
  clear o2
  have hle' : ys.length ≤ 20 := by omega
  clear hle
  go_wp2
  go_loopw [3, 5, 6, 13] (fun v _ _ i wr => ∃ k : Nat, k ≤ ys.length ∧ i = .int .i64 k ∧ PRow w.heap.size (fun f => f = w.heap.size ∨ w2.heap.size ≤ f) wr v (gTo ys k) ∧ Kp w2.heap.size (fun _ => False) w.heap.size w2 wr) (fun _ _ _ i _ => ys.length - (intOf i).toNat)
  case atStart => exact ⟨0, Nat.zero_le _, rfl, hmade.weak (Nat.le_refl _) fun f hf => .inl hf, Kp.refl _ _ _ _⟩
  case round =>
    obtain ⟨k, hk, rfl, ho, hK⟩ := hrel
    clear hmade
    have hsz := hK.size
    by_cases hlt : k < ys.length
    · obtain ⟨gy, rfl, hg1, hg2, hC⟩ := hyC (by omega)
      have u0 := (World.cell?_of_block (a := ⟨gy, k * 2, none⟩) (hK.block gy hg2 (fun h => h) (by omega))).trans (hC k hlt).1
      have u1 := (World.cell?_of_block (a := ⟨gy, k * 2 + 1, none⟩) (hK.block gy hg2 (fun h => h) (by omega))).trans (hC k hlt).2
      have hkn : (0 : Int) ≤ (k : Int) := by omega
      have hkl : (k : Int) < (ys.length : Int) := by omega
      have hnl := onceTo_len ys k
      rw [← gTo_len] at hnl
      have hf1 := (hyF _ (nth_mem hlt)).1
      have hf2 := (hyF _ (nth_mem hlt)).2
      have hbA := (Below.refl wr.heap.size wr).alloc (Nat.le_refl _) (.cells #[.int .i64 (nth ys k).1, .int .i64 (nth ys k).2] 84)
      have CB := Cells.new wr [.int .i64 (nth ys k).1, .int .i64 (nth ys k).2] 84
      have hszb : w2.heap.size ≤ (wr.alloc (.cells #[.int .i64 (nth ys k).1, .int .i64 (nth ys k).2] 84)).heap.size := by simp; omega
      have hoB := ho.later hbA
      have hKB := hK.step hsz hbA
      clear hyC hC ho hK
      have hnl' : (gTo ys k).length ≤ 20 := by omega
      rcases Nat.eq_zero_or_pos k with h0 | h0
      · have hN : newB ys k = true := by rw [h0]; rfl
        have hn := Lib.hid (gTo_new HS.out hlt hN)
        obtain ⟨av, cv, rfl⟩ := hoB.slice0 (by omega)
        clear hN hbA h0 hnl
        go_upto_region 6 with fail
        generalize (wr.alloc (.cells #[.int .i64 (nth ys k).1, .int .i64 (nth ys k).2] 84)) = wb at CB hszb hoB hKB ⊢
        have ho := hoB
        have hK := hKB
        have cb0 := CB.c0
        have cb1 := CB.c1
        clear hoB hKB CB u0 u1
        go_quiet (fail)
        have hbA := (Below.refl (wb.drewN nq).heap.size (wb.drewN nq)).alloc (Nat.le_refl _) (.cells #[.int .i64 (nth ys k).1, .int .i64 (nth ys k).2] 84)
        have hq := below_drewN (Below.refl wb.heap.size wb) nq
        have hcn : Cells ((wb.drewN nq).alloc (.cells #[.int .i64 (nth ys k).1, .int .i64 (nth ys k).2] 84)) wb.heap.size 0 [.int .i64 (nth ys k).1, .int .i64 (nth ys k).2] := Cells.new (wb.drewN nq) [.int .i64 (nth ys k).1, .int .i64 (nth ys k).2] 84
        obtain ⟨v4, w4, r4, o4, b4, k4⟩ := PRow.append (P := Tryz.prog) (t := 47) (ty := 47) (c := 1) (p := nth ys k) i0 _ Tryz.underlying47 hi hz0 hz1 hz2 rfl ((ho.later hq).later hbA) hcn ⟨hf1, hf2⟩ (by omega) (by simp; omega)
        have hzA : ((wb.drewN nq).alloc (.cells #[.int .i64 (nth ys k).1, .int .i64 (nth ys k).2] 84)).heap.size = wb.heap.size + 1 := World.size_alloc _ _
        have K1 := (hK.step hszb hq).step (w'' := (wb.drewN nq).alloc (.cells #[.int .i64 (nth ys k).1, .int .i64 (nth ys k).2] 84)) hszb hbA
        have o4' := Lib.hid (o4.weak (Nat.le_refl _) (D' := fun f => f = w.heap.size ∨ w2.heap.size ≤ f) fun f hf => by
          rcases hf with hf | hf
          · exact hf
          · exact .inr (by omega))
        have K4 : Hid (Kp w2.heap.size (fun _ => False) w.heap.size w2 w4) := ⟨b4.os.trans K1.os, b4.tape.trans K1.tape, b4.output.trans K1.output, Nat.le_trans K1.size b4.size, fun j h1 h2 h3 => (k4 j (by omega) (fun hd => by omega)).trans (K1.block j h1 h2 h3)⟩
        clear o4 b4 k4 K1 hzA hcn hbA hq ho hK hszb
        go_wp2_with (at_builtin; refine wpList_append_of rfl _ _ rfl rfl rfl r4 ?_)
        go_roundw
        case rel => exact ⟨k + 1, by omega, by go_num, by rw [hn.out]; exact o4'.out, K4.out⟩
        case measure => simp [intOf]; omega
      · cases hN : newB ys k
        · obtain ⟨m, S, hlen, hnt, hS, hset⟩ := gTo_old HS.out hlt hN
          obtain ⟨g, cv, rfl, hgD, hgB, hgl⟩ := hoB.sliceP hlen
          have hsb := sumH_take_bg (f := fun q => q.1 == (nth ys k).1) k HWB.out hle'
          rw [← hS] at hsb
          obtain ⟨hs0, hs1⟩ := hsb
          obtain ⟨hp0, hp1⟩ := HWB.out _ (nth_mem hlt)
          have hn := Lib.hid hset
          clear hN hbA h0 hnl hS hset
          go_upto_region 6 with fail
          generalize (wr.alloc (.cells #[.int .i64 (nth ys k).1, .int .i64 (nth ys k).2] 84)) = wb at CB hszb hoB hKB hgl ⊢
          have cb0 := CB.c0
          have cb1 := CB.c1
          obtain ⟨c0, c1⟩ := hoB.cell (i := m) (by omega)
          rw [hnt] at c0 c1
          have hmn : (0 : Int) ≤ (m : Int) := by omega
          have hml : (m : Int) < (m : Int) + 1 := by omega
          clear u0 u1 CB
          go_quiet (fail)
          have hq := below_drewN (Below.refl wb.heap.size wb) nq
          have o3 := hoB.later hq
          have K3 := hKB.step hszb hq
          have hgl3 : g < (wb.drewN nq).heap.size := hgl
          have d1 : (wb.drewN nq).cell? ⟨wr.heap.size, 1, none⟩ = some (.int .i64 (nth ys k).2) := cb1
          have d2 : (wb.drewN nq).cell? ⟨g, m * 2 + 1, none⟩ = some (.int .i64 S) := c1
          have hfz := fun j => o3.frozen j
          clear cb0 cb1 c0 c1 hoB hKB hszb hgl hq
          generalize wb.drewN nq = wq at o3 K3 hgl3 d1 d2 hfz ⊢
          have hfS : Fits (S + (nth ys k).2) := by unfold Fits; omega
          have hst := o3.setW (i := m) (by omega) hfS
          rw [hnt] at hst
          have HST := Lib.hid (hst.later (Below.drew (Below.refl _ _)))
          have HK3 := Lib.hid ((K3.setD (hgD) (m * 2 + 1) (.int .i64 (S + (nth ys k).2))).step (by have := K3.size; simp [World.setCell]; omega) (Below.drew (Below.refl _ _)))
          clear hst o3 K3 hfS hnt
          go_wp2_with fail
          go_big_region
          all_goals go_wp2
          go_roundw
          case rel => exact ⟨k + 1, by omega, by go_num, by rw [hn.out]; exact HST.out, HK3.out⟩
          case measure => simp [intOf]; omega
        · obtain ⟨m, S, hlen, hnt, hne⟩ := gTo_lastNew HS.out h0 hlt hN
          obtain ⟨g, cv, rfl, hgD, hgB, hgl⟩ := hoB.sliceP hlen
          have hn := Lib.hid (gTo_new HS.out hlt hN)
          clear hN hbA h0 hnl
          go_upto_region 6 with fail
          generalize (wr.alloc (.cells #[.int .i64 (nth ys k).1, .int .i64 (nth ys k).2] 84)) = wb at CB hszb hoB hKB hgl ⊢
          have cb0 := CB.c0
          have cb1 := CB.c1
          have c0 := (hoB.cell (i := m) (by omega)).1
          rw [hnt] at c0
          have ho := hoB
          have hK := hKB
          have hmn : (0 : Int) ≤ (m : Int) := by omega
          have hml : (m : Int) < (m : Int) + 1 := by omega
          clear hoB hKB CB u0 u1 hnt hgD hgB hgl
          go_quiet (fail)
          clear c0 hne
          have hbA := (Below.refl (wb.drewN nq).heap.size (wb.drewN nq)).alloc (Nat.le_refl _) (.cells #[.int .i64 (nth ys k).1, .int .i64 (nth ys k).2] 84)
          have hq := below_drewN (Below.refl wb.heap.size wb) nq
          have hcn : Cells ((wb.drewN nq).alloc (.cells #[.int .i64 (nth ys k).1, .int .i64 (nth ys k).2] 84)) wb.heap.size 0 [.int .i64 (nth ys k).1, .int .i64 (nth ys k).2] := Cells.new (wb.drewN nq) [.int .i64 (nth ys k).1, .int .i64 (nth ys k).2] 84
          obtain ⟨v4, w4, r4, o4, b4, k4⟩ := PRow.append (P := Tryz.prog) (t := 47) (ty := 47) (c := 1) (p := nth ys k) i0 _ Tryz.underlying47 hi hz0 hz1 hz2 rfl ((ho.later hq).later hbA) hcn ⟨hf1, hf2⟩ (by omega) (by simp; omega)
          have hzA : ((wb.drewN nq).alloc (.cells #[.int .i64 (nth ys k).1, .int .i64 (nth ys k).2] 84)).heap.size = wb.heap.size + 1 := World.size_alloc _ _
          have K1 := (hK.step hszb hq).step (w'' := (wb.drewN nq).alloc (.cells #[.int .i64 (nth ys k).1, .int .i64 (nth ys k).2] 84)) hszb hbA
          have o4' := Lib.hid (o4.weak (Nat.le_refl _) (D' := fun f => f = w.heap.size ∨ w2.heap.size ≤ f) fun f hf => by
            rcases hf with hf | hf
            · exact hf
            · exact .inr (by omega))
          have K4 : Hid (Kp w2.heap.size (fun _ => False) w.heap.size w2 w4) := ⟨b4.os.trans K1.os, b4.tape.trans K1.tape, b4.output.trans K1.output, Nat.le_trans K1.size b4.size, fun j h1 h2 h3 => (k4 j (by omega) (fun hd => by omega)).trans (K1.block j h1 h2 h3)⟩
          clear o4 b4 k4 K1 hzA hcn hbA hq ho hK hszb
          go_wp2_with (at_builtin; refine wpList_append_of rfl _ _ rfl rfl rfl r4 ?_)
          go_roundw
          case rel => exact ⟨k + 1, by omega, by go_num, by rw [hn.out]; exact o4'.out, K4.out⟩
          case measure => simp [intOf]; omega
    · obtain rfl : k = ys.length := by omega
      have hE := HGE
      have hB := Lib.hid (t2.trans (hK.below (lo := w.heap.size) (by omega) (Nat.le_refl _) fun _ h => h.elim))
      have hO := Lib.hid (ho.weak (Nat.le_refl _) (D' := fun f => w.heap.size ≤ f) fun f hf => by omega)
      clear ho hK
      go_wp2
      go_ret
      exact ⟨_, rfl, by rw [← hE.out]; exact hO.out, hB.out⟩

/-! ### Without -/
def oneF (p : Pr) : Pr := (p.1, 1)
theorem chg5 (w : World) (b : Nat) (c0 c1 c2 c3 c4 : Value) : ChgF [b] w (((((w.setCell ⟨b, 0, none⟩ c0).setCell ⟨b, 1, none⟩ c1).setCell ⟨b, 2, none⟩ c2).setCell ⟨b, 3, none⟩ c3).setCell ⟨b, 4, none⟩ c4) := put_chg b [c0, c1, c2, c3, c4] w 0
theorem one_gath (xs : List Pr) : (gathL xs).map oneF = onceL xs := gath_one xs
theorem gath_len (xs : List Pr) : (gathL xs).length ≤ (ordL xs).length := by
  unfold gathL; rw [List.length_map]; exact onceTo_len _ _

set_option maxHeartbeats 2000000 in
theorem withoutWeight_calls {ch wt : Bool} {bd : Int} {ah ab : Option Addr} {nh kh nb kb : Nat} {v : Value} {xs : List Pr} {w : World} (h : RdL w [v] xs) (hw : WBg xs) :
    Calls Tryz.prog 93 #[.agg #[.bool ch, .slice ah nh kh, .bool wt, .int .i64 bd, .slice ab nb kb], v] w fun e w' =>
      ∃ v', e = .returned (.agg #[.bool ch, .slice ah nh kh, .bool false, .int .i64 0, v']) ∧ PRow (w.heap.size + 2) (fun f => w.heap.size + 2 ≤ f) w' v' (onceL xs) ∧ Below w.heap.size w w' := by
  have t0 : Below w.heap.size w ((w.alloc (.cells #[.bool ch, .slice ah nh kh, .bool wt, .int .i64 bd, .slice ab nb kb] 49)).alloc (.cells #[.bool false, .slice none 0 0, .bool false, .int .i64 0, .slice none 0 0] 49)) := ((Below.refl _ _).alloc (by simp) _).alloc (by simp) _
  have CP := (Cells.new w [.bool ch, .slice ah nh kh, .bool wt, .int .i64 bd, .slice ab nb kb] 49).alloc (.cells #[.bool false, .slice none 0 0, .bool false, .int .i64 0, .slice none 0 0] 49)
  have CR := Cells.new (w.alloc (.cells #[.bool ch, .slice ah nh kh, .bool wt, .int .i64 bd, .slice ab nb kb] 49)) [.bool false, .slice none 0 0, .bool false, .int .i64 0, .slice none 0 0] 49
  have hb0 := alloc_block (w.alloc (.cells #[.bool ch, .slice ah nh kh, .bool wt, .int .i64 bd, .slice ab nb kb] 49)) #[.bool false, .slice none 0 0, .bool false, .int .i64 0, .slice none 0 0] 49
  have hG := gathered_calls (Rd.mono (α := List (Int × Int)) t0 h) hw
  have hgl := gath_len xs
  have hol := ordL_len hw.inR
  have hlx := hw.1
  have hs0 : ((w.alloc (.cells #[.bool ch, .slice ah nh kh, .bool wt, .int .i64 bd, .slice ab nb kb] 49)).alloc (.cells #[.bool false, .slice none 0 0, .bool false, .int .i64 0, .slice none 0 0] 49)).heap.size = w.heap.size + 2 := by simp
  rw [World.size_alloc] at CR hb0
  obtain ⟨ar, cr, rfl, _, _⟩ := h.sl
  have hE := one_gath xs
  obtain ⟨ys, hys⟩ : ∃ ys, ys = gathL xs := ⟨_, rfl⟩
  rw [← hys] at hG hgl hE
  have HE := Lib.hid hE
  have hly : (ys.length : Int) ≤ 20 := by omega
  clear h hw hys hgl hol hE
  go_enter Tryz.func93, Tryz.ntmps93
  go_wp2_with fail
  refine hG.mono ?_
  rintro e w1 ⟨v1, rfl, o1, b1⟩
  clear hG
  generalize ((w.alloc (.cells #[.bool ch, .slice ah nh kh, .bool wt, .int .i64 bd, .slice ab nb kb] 49)).alloc (.cells #[.bool false, .slice none 0 0, .bool false, .int .i64 0, .slice none 0 0] 49)) = w0 at t0 CP CR hb0 hs0 o1 b1
  rw [hs0] at o1 b1
  have boxP : ∀ W : World, Below (w.heap.size + 2) w0 W → Cells W w.heap.size 0 [.bool ch, .slice ah nh kh, .bool wt, .int .i64 bd, .slice ab nb kb] := fun W hW => CP.later (hs0 ▸ hW)
  have boxZ : ∀ W : World, Below (w.heap.size + 2) w0 W → Cells W (w.heap.size + 1) 0 [.bool false, .slice none 0 0, .bool false, .int .i64 0, .slice none 0 0] := fun W hW => CR.later (hs0 ▸ hW)
  have frzZ : ∀ W : World, Below (w.heap.size + 2) w0 W → ∀ j, W.frozen? ⟨w.heap.size + 1, j, none⟩ = false := fun W hW j => frozen_of_row W (w.heap.size + 1) j _ _ ((hW.block (w.heap.size + 1) (by omega)).trans hb0)
  have allB : ∀ W : World, Below (w.heap.size + 2) w0 W → Below w.heap.size w W := fun W hW => t0.trans (hW.mono (by omega))
  clear t0 CP CR hb0
  rcases o1.form with ⟨rfl, rfl⟩ | ⟨g, c, rfl, _, _, hgD, hgB, hgl⟩
  · go_wp2
    refine wp_loop_rounds 1 ?_
    rw [rounds_succ]
    obtain ⟨x0, x1, x2, x3, x4⟩ := cells5 (boxP w1 b1)
    obtain ⟨z0, z1, z2, z3, z4⟩ := cells5 (boxZ w1 b1)
    have hfz := frzZ w1 b1
    have hB := Lib.hid (allB w1 b1)
    obtain ⟨wr, rfl⟩ : ∃ wr : World, wr = w1 := ⟨_, rfl⟩
    have hO : Hid (PRow (w.heap.size + 2) (fun f => w.heap.size + 2 ≤ f) wr (.slice none 0 0) (onceL xs)) := by show PRow _ _ _ _ _; rw [← HE.out]; exact PRow.nil _ _ _
    clear b1 o1 boxP boxZ frzZ allB hs0
    go_wp2
    refine bodyPost_ret (v := .agg #[.bool ch, .slice ah nh kh, .bool false, .int .i64 0, .slice none 0 0])
      (by simp [results, Tryz.results93, go_sem, z0, z1, z2, z3, z4]) rfl ⟨_, rfl, ?_, ?_⟩
    · refine PRow.keep (w := wr) (hO.out) fun g _ hB hl => (chg5 _ _ _ _ _ _ _).block g (by simp; omega)
    · exact (hB.out).trans ((chg5 _ _ _ _ _ _ _).below fun g hg => by simp at hg; omega)
  have T0 : PRow (w.heap.size + 2) (fun f => w.heap.size + 2 ≤ f) w1 (.slice (some ⟨g, 0, none⟩) ys.length c) (mapTo oneF ys 0) := by rw [mapTo_zero]; exact o1
  clear o1 hgD
  go_wp2
  go_loopw [6, 11] (fun _ i wr => ∃ k : Nat, k ≤ ys.length ∧ i = .int .i64 k ∧ PRow (w.heap.size + 2) (fun f => w.heap.size + 2 ≤ f) wr (.slice (some ⟨g, 0, none⟩) ys.length c) (mapTo oneF ys k) ∧ Below (w.heap.size + 2) w0 wr) (fun _ i _ => ys.length - (intOf i).toNat)
  case atStart => exact ⟨0, Nat.zero_le _, rfl, T0, b1⟩
  case round =>
    obtain ⟨k, hk, rfl, ho, hb⟩ := hrel
    clear T0 b1
    by_cases hlt : k < ys.length
    · have hln := mapTo_len oneF ys hk
      obtain ⟨c0, c1⟩ := ho.cell (i := k) (by omega)
      have hkn : (0 : Int) ≤ (k : Int) := by omega
      have hkl : (k : Int) < (ys.length : Int) := by omega
      have hfz := fun j => ho.frozen j
      have hmn := mapTo_nth (f := oneF) hlt
      have hst := ho.setW (i := k) (W := 1) (by omega) (by unfold Fits; omega)
      rw [hmn, show ((nth ys k).1, (1 : Int)) = oneF (nth ys k) from rfl, mapTo_set hlt] at hst
      have HST := Lib.hid hst
      have HB := Lib.hid (Below.setCell hb (p := ⟨g, k * 2 + 1, none⟩) hgB (.int .i64 1))
      clear hst hmn ho hb hln boxP boxZ frzZ allB
      go_wp2
      go_roundw
      case rel => exact ⟨k + 1, by omega, by go_num, HST.out, HB.out⟩
      case measure => simp [intOf]; omega
    · obtain rfl : k = ys.length := by omega
      have hO : Hid (PRow (w.heap.size + 2) (fun f => w.heap.size + 2 ≤ f) wr (.slice (some ⟨g, 0, none⟩) ys.length c) (onceL xs)) := by show PRow _ _ _ _ _; rw [← HE.out, ← mapTo_all]; exact ho
      obtain ⟨x0, x1, x2, x3, x4⟩ := cells5 (boxP wr hb)
      obtain ⟨z0, z1, z2, z3, z4⟩ := cells5 (boxZ wr hb)
      have hfz := frzZ wr hb
      have hB := Lib.hid (allB wr hb)
      clear hb ho boxP boxZ frzZ allB hs0 hgB hgl
      go_wp2
      refine bodyPost_ret (v := .agg #[.bool ch, .slice ah nh kh, .bool false, .int .i64 0, .slice (some ⟨g, 0, none⟩) ys.length c])
        (by simp [results, Tryz.results93, go_sem, z0, z1, z2, z3, z4]) rfl ⟨_, rfl, ?_, ?_⟩
      · refine PRow.keep (w := wr) (hO.out) fun g _ hB hl => (chg5 _ _ _ _ _ _ _).block g (by simp; omega)
      · exact (hB.out).trans ((chg5 _ _ _ _ _ _ _).below fun g hg => by simp at hg; omega)

/-! ### WeighD -/
theorem onceTo_srt {ys : List Pq} (hs : Srt ys) : ∀ {k : Nat}, k ≤ ys.length → (onceTo ys k).Pairwise (fun a b => rankI a.1 < rankI b.1)
  | 0, _ => List.Pairwise.nil
  | k + 1, hk => by
    cases hN : newB ys k
    · rw [onceTo_no hN]; exact onceTo_srt hs (by omega)
    · rw [onceTo_yes hN]
      refine List.pairwise_append.2 ⟨onceTo_srt hs (by omega), by simp, fun a ha b hb => ?_⟩
      rw [List.mem_singleton.1 hb]
      obtain ⟨q, hq, e⟩ := once_in (by omega) ha
      have hne := new_ne hs (by omega) hN q hq
      obtain ⟨i, hi, rfl⟩ := mem_nth hq
      rw [List.length_take] at hi
      rw [nth_take (by omega) (by omega)] at hne e
      have h1 := srt_nth hs (show i < k by omega) (by omega)
      rw [← e]
      have : rankI (nth ys i).1 ≠ rankI (nth ys k).1 := fun h => hne (rank_inj h)
      show rankI (nth ys i).1 < rankI (nth ys k).1
      omega
theorem onceL_srt (xs : List Pq) : (onceL xs).Pairwise (fun a b => rankI a.1 < rankI b.1) := onceTo_srt (ordL_srt xs) (Nat.le_refl _)
theorem onceL_in {xs : List Pq} (h : ∀ p ∈ xs, inR p) : ∀ p ∈ onceL xs, inR p := fun p hp => by
  obtain ⟨q, hq, e⟩ := once_in (Nat.le_refl _) hp
  have := h q (ordTo_mem' (List.mem_of_mem_take hq))
  unfold inR at this ⊢
  rw [← e]; exact this
theorem ordL_id {zs : List Pq} : (∀ p ∈ zs, inR p) → Srt zs → ordL zs = zs := by
  refine snocRec (P := fun zs => (∀ p ∈ zs, inR p) → Srt zs → ordL zs = zs) (fun _ _ => rfl) (fun zs z ih h hs => ?_) zs
  have hs2 := List.pairwise_append.1 hs
  have e := ih (fun p hp => h p (List.mem_append_left _ hp)) hs2.1
  have := ordL_put (xs := zs) (x := z) (j := zs.length) (h z (by simp)) (by rw [e]; exact Nat.le_refl _) (by rw [e, List.drop_length]; simp) (by rw [e, List.take_length]; exact fun p hp => hs2.2.2 p hp z (by simp))
  rw [this, e, List.take_length, List.drop_length, List.append_nil]
theorem onceTo_all {zs : List Pq} (hs : zs.Pairwise (fun a b => rankI a.1 < rankI b.1)) (hw : ∀ p ∈ zs, p.2 = 1) : ∀ {k : Nat}, k ≤ zs.length → onceTo zs k = zs.take k
  | 0, _ => by simp [onceTo]
  | k + 1, hk => by
    have hN : newB zs k = true := by
      unfold newB
      rcases Nat.eq_zero_or_pos k with h | h
      · simp [h]
      · have := List.pairwise_iff_getElem.1 hs (k - 1) k (by omega) (by omega) (by omega)
        have e1 : zs[k - 1] = nth zs (k - 1) := by unfold nth; rw [List.getD_eq_getElem?_getD, List.getElem?_eq_getElem (by omega)]; rfl
        have e2 : zs[k] = nth zs k := by unfold nth; rw [List.getD_eq_getElem?_getD, List.getElem?_eq_getElem (by omega)]; rfl
        rw [e1, e2] at this
        have hne : (nth zs k).1 ≠ (nth zs (k - 1)).1 := fun h => by rw [h] at this; omega
        simp [hne]
    have h1 := hw _ (nth_mem (show k < zs.length by omega))
    rw [onceTo_yes hN, onceTo_all hs hw (by omega), take_nth (by omega)]
    congr 2
    exact Prod.ext rfl h1.symm
theorem onceL_once {xs : List Pq} (h : ∀ p ∈ xs, inR p) : onceL (onceL xs) = onceL xs := by
  have hs := onceL_srt xs
  have e : ordL (onceL xs) = onceL xs := ordL_id (onceL_in h) (hs.imp fun h => Int.le_of_lt h)
  have : onceL (onceL xs) = onceTo (ordL (onceL xs)) (ordL (onceL xs)).length := rfl
  rw [this, e, onceTo_all hs (fun p hp => once_w p hp) (Nat.le_refl _), List.take_length]
theorem ordTo_map {f : Pq → Pq} (hf : ∀ p, (f p).1 = p.1) (xs : List Pq) : ∀ k, ordTo (xs.map f) k = (ordTo xs k).map f
  | 0 => rfl
  | k + 1 => by
    have hfl : ∀ l : Int, (xs.map f).filter (fun p => p.1 == l) = (xs.filter (fun p => p.1 == l)).map f := fun l => by
      rw [List.filter_map]; congr 1; exact List.filter_congr fun p _ => by simp [Function.comp, hf]
    show ordTo (xs.map f) k ++ _ = (ordTo xs k ++ _).map f
    rw [ordTo_map hf, hfl, hfl, List.map_append, List.map_append]
theorem ordL_map {f : Pq → Pq} (hf : ∀ p, (f p).1 = p.1) (xs : List Pq) : ordL (xs.map f) = (ordL xs).map f := ordTo_map hf xs 12
theorem onceL_map {f : Pq → Pq} (hf : ∀ p, (f p).1 = p.1) (xs : List Pq) (hm : ∀ {k : Nat}, k ≤ (ordL xs).length → onceTo ((ordL xs).map f) k = onceTo (ordL xs) k) : onceL (xs.map f) = onceL xs := by
  unfold onceL
  rw [ordL_map hf, List.length_map, hm (Nat.le_refl _)]
theorem nth_map {f : Pq → Pq} (ys : List Pq) {k : Nat} (hk : k < ys.length) : nth (ys.map f) k = f (nth ys k) := by
  unfold nth
  rw [List.getD_eq_getElem?_getD, List.getD_eq_getElem?_getD, List.getElem?_map, List.getElem?_eq_getElem hk]; rfl
theorem onceTo_map {f : Pq → Pq} (hf : ∀ p, (f p).1 = p.1) (ys : List Pq) : ∀ {k : Nat}, k ≤ ys.length → onceTo (ys.map f) k = onceTo ys k
  | 0, _ => rfl
  | k + 1, hk => by
    have e1 := nth_map (f := f) ys (show k < ys.length by omega)
    have e2 := nth_map (f := f) ys (show k - 1 < ys.length by omega)
    have hb : newB (ys.map f) k = newB ys k := by unfold newB; rw [e1, e2, hf, hf]
    unfold onceTo
    rw [hb, e1, hf, onceTo_map hf ys (by omega)]
theorem onceL_merged {xs : List Pq} (b : Int) (h : ∀ p ∈ xs, inR p) : onceL (mergedL xs b) = onceL xs := by
  unfold mergedL
  rw [onceL_map (f := mergeF xs b) (fun _ => rfl) (onceL xs) (onceTo_map (f := mergeF xs b) (fun _ => rfl) (ordL (onceL xs)))]
  exact onceL_once h

/-- Sums by literals are the gathered row's. -/
theorem sumH_set {f : Pq → Bool} : ∀ {l : List Pq} {m : Nat} {a : Int} {S T : Int}, m < l.length → nth l m = (a, S) → f (a, T) = f (a, S) → sumH f (l.set m (a, T)) = sumH f l + (if f (a, S) then T - S else 0)
  | [], _, _, _, _, h, _, _ => by simp at h
  | p :: r, 0, a, S, T, _, hn, hf => by
    have : p = (a, S) := hn
    subst this
    show sumH f ((a, T) :: r) = _
    simp only [sumH, hf]
    split <;> omega
  | p :: r, m + 1, a, S, T, h, hn, hf => by
    have := sumH_set (f := f) (l := r) (m := m) (T := T) (by simpa using h) hn hf
    show sumH f (p :: r.set m (a, T)) = _
    simp only [sumH]
    rw [this]; omega
theorem sumH_gTo {g : Int → Bool} {ys : List Pq} (hs : Srt ys) : ∀ {k : Nat}, k ≤ ys.length → sumH (fun q => g q.1) (gTo ys k) = sumH (fun q => g q.1) (ys.take k)
  | 0, _ => rfl
  | k + 1, hk => by
    have ih := sumH_gTo (g := g) hs (show k ≤ ys.length by omega)
    rw [sumH_take (f := fun q => g q.1) (by omega), ← ih]
    cases hN : newB ys k
    · obtain ⟨m, S, hlen, hnt, _, hset⟩ := gTo_old hs (by omega) hN
      rw [hset, sumH_set (f := fun q => g q.1) (T := S + (nth ys k).2) (by omega) hnt rfl, show S + (nth ys k).2 - S = (nth ys k).2 by omega]
    · rw [gTo_new hs (by omega) hN, sumH_snoc]
theorem sumH_gath {g : Int → Bool} {xs : List Pq} (h : ∀ p ∈ xs, inR p) : sumH (fun q => g q.1) (gathL xs) = sumH (fun q => g q.1) xs := by
  rw [← gTo_end h, sumH_gTo (ordL_srt xs) (Nat.le_refl _), List.take_length, sumH_ordL _ h]
/-- Under a bound it makes no difference that each is cut to it. -/
theorem cut_lt {g : Int → Bool} {b : Int} {G : List Pq} : (∀ p ∈ G, 0 ≤ p.2) → 0 ≤ b →
    0 ≤ sumH (fun q => g q.1) (G.map (fun p => (p.1, minI p.2 b))) ∧ sumH (fun q => g q.1) (G.map (fun p => (p.1, minI p.2 b))) ≤ sumH (fun q => g q.1) G ∧ (sumH (fun q => g q.1) (G.map (fun p => (p.1, minI p.2 b))) < b → sumH (fun q => g q.1) (G.map (fun p => (p.1, minI p.2 b))) = sumH (fun q => g q.1) G) := by
  refine snocRec (P := fun G => (∀ p ∈ G, 0 ≤ p.2) → 0 ≤ b →
    0 ≤ sumH (fun q => g q.1) (G.map (fun p => (p.1, minI p.2 b))) ∧ sumH (fun q => g q.1) (G.map (fun p => (p.1, minI p.2 b))) ≤ sumH (fun q => g q.1) G ∧ (sumH (fun q => g q.1) (G.map (fun p => (p.1, minI p.2 b))) < b → sumH (fun q => g q.1) (G.map (fun p => (p.1, minI p.2 b))) = sumH (fun q => g q.1) G)) (fun _ _ => by simp [sumH]) (fun G p ih h hb => ?_) G
  have ih := ih (fun q hq => h q (List.mem_append_left _ hq)) hb
  have hp := h p (by simp)
  rw [List.map_append]
  simp only [List.map_cons, List.map_nil]
  rw [sumH_snoc, sumH_snoc]
  simp only
  generalize sumH (fun q => g q.1) (G.map (fun p => (p.1, minI p.2 b))) = A at ih ⊢
  generalize sumH (fun q => g q.1) G = B at ih ⊢
  unfold minI
  split
  · split <;> omega
  · omega
theorem cut_iff {g : Int → Bool} {xs : List Pq} {b : Int} (h : WOk xs) (hb : 0 ≤ b) : sumH (fun q => g q.1) (mergedL xs b) < b ↔ sumH (fun q => g q.1) xs < b := by
  have hg : ∀ p ∈ gathL xs, 0 ≤ p.2 := fun p hp => by
    unfold gathL at hp
    obtain ⟨q, _, rfl⟩ := List.mem_map.1 hp
    exact (sumH_bd h.w).1
  have := cut_lt (g := g) hg hb
  rw [gath_min, sumH_gath h.big.inR] at this
  omega
theorem sumH_split {g : Int → Bool} {l : List Pq} : sumH (fun _ => true) l = sumH (fun q => g q.1) l + sumH (fun q => !g q.1) l := by
  refine snocRec (P := fun l => sumH (fun _ => true) l = sumH (fun q => g q.1) l + sumH (fun q => !g q.1) l) (by simp [sumH]) (fun l p ih => ?_) l
  rw [sumH_snoc, sumH_snoc, sumH_snoc, ih]
  cases g p.1 <;> simp <;> omega
/-- Of literals that each stand once. -/
theorem sumH_one {l : List Pq} (hd : l.Pairwise (fun a b => a.1 ≠ b.1)) {p : Pq} (hp : p ∈ l) : sumH (fun q => q.1 == p.1) l = p.2 := by
  induction l with
  | nil => simp at hp
  | cons q r ih =>
    rw [List.pairwise_cons] at hd
    rcases List.mem_cons.1 hp with rfl | hp
    · have h0 : sumH (fun q => q.1 == p.1) r = 0 := sumH_none fun q hq => by have := hd.1 q hq; simp; exact fun e => this e.symm
      simp only [sumH]; rw [h0]; simp
    · have hne := hd.1 p hp
      simp only [sumH]; rw [ih hd.2 hp]; simp [hne]
theorem merged_dist (xs : List Pq) (b : Int) : (mergedL xs b).Pairwise (fun a c => a.1 ≠ c.1) := by
  unfold mergedL
  rw [List.pairwise_map]
  exact (onceL_srt xs).imp fun h e => by
    have e : _ = _ := e
    simp only [mergeF] at e
    rw [e] at h; omega
theorem body_once {xs : List Pq} (h : ∀ p ∈ xs, inR p) {p : Pq} (hp : p ∈ xs) : ∃ q ∈ onceL xs, q.1 = p.1 := by
  apply Classical.byContradiction
  intro hc
  have h1 : sumH (fun q => q.1 == p.1) ((xs.map fun q => (q.1, 1))) = 0 := by
    have hin : ∀ q ∈ xs.map (fun q => ((q.1, 1) : Pq)), inR q := fun q hq => by
      obtain ⟨q', hq', rfl⟩ := List.mem_map.1 hq
      exact h q' hq'
    rw [← sumH_gath (g := fun l => l == p.1) hin]
    refine sumH_none fun q hq => ?_
    unfold gathL at hq
    obtain ⟨q', hq', rfl⟩ := List.mem_map.1 hq
    have e : onceL (xs.map fun q => ((q.1, 1) : Pq)) = onceL xs := onceL_map (f := fun q => ((q.1, 1) : Pq)) (fun _ => rfl) xs (onceTo_map (f := fun q => ((q.1, 1) : Pq)) (fun _ => rfl) (ordL xs))
    rw [e] at hq'
    have : q'.1 ≠ p.1 := fun e => hc ⟨q', hq', e⟩
    simpa using this
  obtain ⟨a, b, rfl⟩ := List.append_of_mem hp
  rw [List.map_append, List.map_cons, sumH_app] at h1
  have ha := sumH_ones (f := fun q => q.1 == p.1) (l := a.map fun q => ((q.1, 1) : Pq)) (fun q hq => by obtain ⟨_, _, rfl⟩ := List.mem_map.1 hq; rfl)
  have n1 := (sumH_bd (f := fun q => q.1 == p.1) (l := a.map fun q => ((q.1, 1) : Pq)) (fun q hq => by obtain ⟨_, _, rfl⟩ := List.mem_map.1 hq; omega)).1
  have n2 := (sumH_bd (f := fun q => q.1 == p.1) (l := b.map fun q => ((q.1, 1) : Pq)) (fun q hq => by obtain ⟨_, _, rfl⟩ := List.mem_map.1 hq; omega)).1
  simp only [sumH] at h1
  simp at h1
  omega
/-- None can be left out. -/
theorem each_need {r : RuleD} (h : WOk r.body) (hb : 0 ≤ r.bound) : (mergedL r.body r.bound).all (fun p => decide (sumH (fun _ => true) (mergedL r.body r.bound) - r.bound < p.2)) = needAll r := by
  have key : ∀ p ∈ mergedL r.body r.bound, (sumH (fun _ => true) (mergedL r.body r.bound) - r.bound < p.2 ↔ sumBut r.body p.1 < r.bound) := fun p hp => by
    have h1 := sumH_split (g := fun l => l != p.1) (l := mergedL r.body r.bound)
    have h2 := sumH_one (merged_dist r.body r.bound) hp
    have h3 : sumH (fun q => !(q.1 != p.1)) (mergedL r.body r.bound) = p.2 := by
      rw [← h2]; exact sumH_congr fun q _ => by simp [bne]
    rw [h3] at h1
    have h4 := cut_iff (g := fun l => l != p.1) h hb
    show _ ↔ sumH (fun q => q.1 != p.1) r.body < r.bound
    rw [← h4, h1]
    omega
  rw [Bool.eq_iff_iff]
  unfold needAll
  rw [List.all_eq_true, List.all_eq_true]
  constructor
  · intro hA p hp
    obtain ⟨q, hq, e⟩ := body_once h.big.inR hp
    have hm : mergeF r.body r.bound q ∈ mergedL r.body r.bound := List.mem_map_of_mem hq
    have := (key _ hm).1 (by simpa using hA _ hm)
    have e2 : (mergeF r.body r.bound q).1 = p.1 := e
    rw [e2] at this
    simpa using this
  · intro hA p hp
    unfold mergedL at hp
    obtain ⟨q, hq, e⟩ := List.mem_map.1 hp
    obtain ⟨q2, hq2, e2⟩ := once_in (Nat.le_refl _) hq
    have hb2 := hA q2 (ordTo_mem' (List.mem_of_mem_take hq2))
    have e3 : p.1 = q2.1 := by rw [← e, e2]; rfl
    have := (key p (by unfold mergedL; exact hp)).2 (by rw [e3]; simpa using hb2)
    simpa using this
theorem spare_neg {r : RuleD} (h : WOk r.body) (hb : 0 ≤ r.bound) : (sumH (fun _ => true) (mergedL r.body r.bound) - r.bound < 0 ↔ sumBut r.body 0 < r.bound) := by
  have h4 := cut_iff (g := fun _ => true) h hb
  have h5 : sumBut r.body 0 = sumH (fun _ => true) r.body := sumH_congr fun q hq => by
    have := (h.2 q hq).1
    have hne : q.1 ≠ 0 := by omega
    simp [hne]
  rw [h5, ← h4]
  omega
theorem merged_big {xs : List Pq} {b : Int} (h : WOk xs) (hb : 1 ≤ b) : WBg (mergedL xs b) := by
  have hl := ordL_len h.big.inR
  have hlen : (mergedL xs b).length ≤ 20 := by
    unfold mergedL; rw [List.length_map]
    have h1 : (onceL xs).length ≤ (ordL xs).length := onceTo_len _ _
    have := h.1
    omega
  refine ⟨hlen, fun p hp => ?_⟩
  unfold mergedL at hp
  obtain ⟨q, hq, rfl⟩ := List.mem_map.1 hp
  have h1 := onceL_in h.big.inR q hq
  obtain ⟨q2, hq2, e2⟩ := once_in (Nat.le_refl _) hq
  have hq2 := ordTo_mem' (List.mem_of_mem_take hq2)
  have hS : 1 ≤ sumH (fun p => p.1 == q.1) xs ∧ sumH (fun p => p.1 == q.1) xs ≤ 20000 := by
    have hbd := sumH_bd (f := fun p => p.1 == q.1) h.w
    have := h.1
    refine ⟨?_, by omega⟩
    obtain ⟨a, c, rfl⟩ := List.append_of_mem hq2
    have n1 := (sumH_bd (f := fun p => p.1 == q.1) (l := a) (fun p hp => h.w p (by simp [hp]))).1
    have n2 := (sumH_bd (f := fun p => p.1 == q.1) (l := c) (fun p hp => h.w p (by simp [hp]))).1
    have n3 := h.w q2 (by simp)
    rw [sumH_app]
    have hq : (q2.1 == q.1) = true := by simp [e2]
    simp only [sumH, hq, if_true]
    omega
  refine ⟨h1, ?_⟩
  show 1 ≤ minI _ _ ∧ minI _ _ ≤ 20000
  unfold minI
  split <;> omega

/-! ### UnwD -/
/-- The atoms that a row asks for, and those that it refuses. -/
def posL (os : List Pq) : List Int := (os.filter (fun p => decide (0 < p.1))).map (fun p => p.1)
def negL (os : List Pq) : List Int := (os.filter (fun p => !decide (0 < p.1))).map (fun p => -p.1)
theorem posL_snoc (os : List Pq) (p : Pq) : posL (os ++ [p]) = if 0 < p.1 then posL os ++ [p.1] else posL os := by
  unfold posL
  rw [List.filter_append, List.map_append]
  by_cases h : 0 < p.1 <;> simp [h]
theorem negL_snoc (os : List Pq) (p : Pq) : negL (os ++ [p]) = if 0 < p.1 then negL os else negL os ++ [-p.1] := by
  unfold negL
  rw [List.filter_append, List.map_append]
  by_cases h : 0 < p.1 <;> simp [h]
theorem askM_yes {os : List Pq} {k : Nat} (hk : k < os.length) (h : 0 < (nth os k).1) : maskOf (posL (os.take (k + 1))) = maskOf (posL (os.take k)) ||| bitN (nth os k).1 := by
  rw [take_nth hk, posL_snoc, if_pos h, maskOf_snoc]
theorem askM_no {os : List Pq} {k : Nat} (hk : k < os.length) (h : ¬ 0 < (nth os k).1) : maskOf (posL (os.take (k + 1))) = maskOf (posL (os.take k)) := by
  rw [take_nth hk, posL_snoc, if_neg h]
theorem refM_yes {os : List Pq} {k : Nat} (hk : k < os.length) (h : 0 < (nth os k).1) : maskOf (negL (os.take (k + 1))) = maskOf (negL (os.take k)) := by
  rw [take_nth hk, negL_snoc, if_pos h]
theorem refM_no {os : List Pq} {k : Nat} (hk : k < os.length) (h : ¬ 0 < (nth os k).1) : maskOf (negL (os.take (k + 1))) = maskOf (negL (os.take k)) ||| bitN (-(nth os k).1) := by
  rw [take_nth hk, negL_snoc, if_neg h, maskOf_snoc]
theorem has_pos {os : List Pq} {x : Int} (hx : 0 < x) : hasB (posL os) x = anyL os x := by
  rw [Bool.eq_iff_iff]
  unfold hasB posL anyL
  rw [decide_eq_true_eq, List.mem_map, List.any_eq_true]
  constructor
  · rintro ⟨p, hp, e⟩
    exact ⟨p, (List.mem_filter.1 hp).1, by simpa using e⟩
  · rintro ⟨p, hp, e⟩
    have e : p.1 = x := by simpa using e
    exact ⟨p, List.mem_filter.2 ⟨hp, by simp; omega⟩, e⟩
theorem has_neg {os : List Pq} {x : Int} (hx : 0 < x) : hasB (negL os) x = anyL os (-x) := by
  rw [Bool.eq_iff_iff]
  unfold hasB negL anyL
  rw [decide_eq_true_eq, List.mem_map, List.any_eq_true]
  constructor
  · rintro ⟨p, hp, e⟩
    exact ⟨p, (List.mem_filter.1 hp).1, by simp; omega⟩
  · rintro ⟨p, hp, e⟩
    have e : p.1 = -x := by simpa using e
    exact ⟨p, List.mem_filter.2 ⟨hp, by simp; omega⟩, by omega⟩
theorem anyL_at {os : List Pq} {x : Int} (h : anyL os x = true) : ∃ i < os.length, (nth os i).1 = x := by
  unfold anyL at h
  rw [List.any_eq_true] at h
  obtain ⟨p, hp, e⟩ := h
  obtain ⟨i, hi, rfl⟩ := mem_nth hp
  exact ⟨i, hi, by simpa using e⟩
theorem at_anyL {os : List Pq} {i : Nat} (hi : i < os.length) : anyL os (nth os i).1 = true := by
  unfold anyL
  rw [List.any_eq_true]
  exact ⟨_, nth_mem hi, by simp⟩
theorem oppTo_at {os : List Pq} : ∀ {m : Nat}, oppTo os m = true → ∃ k < m, (nth os k).1 = -(nth os (k + 1)).1
  | 0, h => by simp [oppTo] at h
  | m + 1, h => by
    unfold oppTo at h
    rw [Bool.or_eq_true] at h
    rcases h with h | h
    · obtain ⟨k, hk, e⟩ := oppTo_at h
      exact ⟨k, by omega, e⟩
    · exact ⟨m, by omega, by simpa using h⟩
theorem srt1 {os : List Pq} (hs : os.Pairwise (fun a b => rankI a.1 < rankI b.1)) {i j : Nat} (hij : i < j) (hj : j < os.length) : rankI (nth os i).1 < rankI (nth os j).1 := by
  have := List.pairwise_iff_getElem.1 hs i j (by omega) hj hij
  rw [nth_eq (show i < os.length by omega), nth_eq hj]
  exact this
/-- It asks for an atom and refuses it: two neighbours are this atom's. -/
theorem clash_same {os : List Pq} (hs : os.Pairwise (fun a b => rankI a.1 < rankI b.1)) (hr : ∀ p ∈ os, inR p) :
    ((((maskOf (posL os) &&& maskOf (negL os) : Nat) : Int) != 0)) = oppB os := by
  have hm : maskOf (posL os) &&& maskOf (negL os) < 4096 := SetMeet_lt _ _
  have bit : ∀ x : Int, 1 ≤ x → x ≤ 12 → hasM (maskOf (posL os) &&& maskOf (negL os)) x = (anyL os x && anyL os (-x)) := fun x h1 h2 => by
    have h : 1 ≤ x ∧ x ≤ 12 := ⟨h1, h2⟩
    rw [hasM_bit _ _ h, Nat.testBit_and, ← hasM_bit _ _ h, ← hasM_bit _ _ h, hasM_maskOf _ _ h, hasM_maskOf _ _ h, has_pos (by omega), has_neg (by omega)]
  rw [Bool.eq_iff_iff]
  constructor
  · intro hne
    have hne : maskOf (posL os) &&& maskOf (negL os) ≠ 0 := by
      intro h; rw [h] at hne; simp at hne
    apply Classical.byContradiction
    intro ho
    apply hne
    refine zero_of_bits hm fun x h1 h2 => ?_
    rw [bit x h1 h2]
    apply Classical.byContradiction
    intro hc
    have hc : (anyL os x && anyL os (-x)) = true := by simpa using hc
    rw [Bool.and_eq_true] at hc
    obtain ⟨i, hi, ei⟩ := anyL_at hc.1
    obtain ⟨j, hj, ej⟩ := anyL_at hc.2
    have ri : rankI (nth os i).1 = 2 * x := by rw [ei]; unfold rankI; split <;> omega
    have rj : rankI (nth os j).1 = 2 * x + 1 := by rw [ej]; unfold rankI; split <;> omega
    have hij : i < j := by
      rcases Nat.lt_trichotomy i j with h | h | h
      · exact h
      · subst h; omega
      · have := srt1 hs h hi; omega
    have hj1 : j = i + 1 := by
      apply Classical.byContradiction
      intro hn
      have a := srt1 hs (show i < i + 1 by omega) (by omega)
      have b := srt1 hs (show i + 1 < j by omega) hj
      omega
    subst hj1
    apply ho
    unfold oppB
    exact oppTo_yes (k := i) (by rw [ei, ej]; simp) (by omega)
  · intro ho
    obtain ⟨k, hk, e⟩ := oppTo_at ho
    have h1 := srt1 hs (show k < k + 1 by omega) (by omega)
    have r1 := hr _ (nth_mem (show k < os.length by omega))
    have r2 := hr _ (nth_mem (show k + 1 < os.length by omega))
    have a1 := at_anyL (show k < os.length by omega)
    have a2 := at_anyL (show k + 1 < os.length by omega)
    have hx : 1 ≤ (nth os k).1 ∧ (nth os k).1 ≤ 12 := by
      unfold inR at r1 r2
      unfold rankI at h1
      split at h1 <;> split at h1 <;> omega
    have b := bit _ hx.1 hx.2
    rw [a1, show -(nth os k).1 = (nth os (k + 1)).1 by omega, a2] at b
    have hne : maskOf (posL os) &&& maskOf (negL os) ≠ 0 := by
      intro h0
      rw [h0] at b
      have : hasM 0 (nth os k).1 = false := by unfold hasM; simp
      rw [this] at b; cases b
    simp only [bne_iff_ne, ne_eq]
    omega
theorem pick_filter (f g : Int → Bool) : ∀ n, (pickTo f n).filter g = pickTo (fun x => f x && g x) n
  | 0 => rfl
  | n + 1 => by
    unfold pickTo
    cases h1 : f ((n : Int) + 1) <;> cases h2 : g ((n : Int) + 1) <;> simp [h2, List.filter_append, pick_filter f g n]
/-- The heads that are left. -/
theorem rest_same {heads : List Int} {os : List Pq} (h : setOkB heads 12 = true) : pickTo (hasM (maskOf heads &&& (65535 - maskOf (posL os)))) 12 = restH heads os := by
  have e := set_pick h
  unfold restH
  conv => rhs; rw [e]
  rw [pick_filter]
  refine pickTo_congr fun x h1 h2 => ?_
  rw [less_bit _ _ _ ⟨h1, by omega⟩, has_pos (by omega)]
theorem mask_zero' {m : Nat} (hm : m < 4096) : ((m : Int) == 0) = decide ((pickTo (hasM m) 12).length = 0) := by
  by_cases h : m = 0
  · subst h
    have : pickTo (hasM 0) 12 = [] := by decide
    rw [this]; rfl
  · have hne : (pickTo (hasM m) 12).length ≠ 0 := by
      intro hl
      have hnil := List.eq_nil_of_length_eq_zero hl
      apply h
      apply zero_of_bits hm
      intro x h1 h2
      cases e : hasM m x
      · rfl
      · have := (mem_pickTo (hasM m) x 12).2 ⟨h1, by omega, e⟩
        rw [hnil] at this; cases this
    rw [Bool.eq_iff_iff, beq_iff_eq, decide_eq_true_eq]
    omega
theorem rest_zero {heads : List Int} {os : List Pq} (h : setOkB heads 12 = true) : ((((maskOf heads &&& (65535 - maskOf (posL os)) : Nat) : Int) == 0)) = decide ((restH heads os).length = 0) := by
  rw [mask_zero' (SetLess_lt heads (posL os)), rest_same h]
theorem heads_zero {heads : List Int} (h : setOkB heads 12 = true) : (((maskOf heads : Nat) : Int) != 0) = decide (0 < heads.length) := by
  have e : pickTo (hasM (maskOf heads)) 12 = heads := by
    conv => rhs; rw [set_pick h]
    exact pickTo_congr fun x h1 h2 => hasM_maskOf _ _ ⟨h1, by omega⟩
  have h2 := mask_zero' (maskOf_lt heads)
  rw [e] at h2
  show (!_) = _
  rw [h2]
  by_cases h0 : heads.length = 0
  · rw [decide_eq_true h0, decide_eq_false (by omega)]; rfl
  · rw [decide_eq_false h0, decide_eq_true (by omega)]; rfl
theorem goes_same {heads : List Int} {xs : List Pq} (h : setOkB heads 12 = true) (hr : ∀ p ∈ xs, inR p) :
    (((((maskOf (posL (onceL xs)) &&& maskOf (negL (onceL xs)) : Nat) : Int) != 0)) || ((((maskOf heads : Nat) : Int) != 0) && ((((maskOf heads &&& (65535 - maskOf (posL (onceL xs))) : Nat) : Int) == 0)))) = goesU heads (onceL xs) := by
  rw [clash_same (onceL_srt xs) (onceL_in hr), heads_zero h, rest_zero h]
  unfold goesU
  congr 1
  exact Bool.and_comm _ _
theorem tidyU_once {ch : Bool} {heads : List Int} {xs : List Pq} (h : ∀ p ∈ xs, inR p) : tidyU ch heads (onceL xs) = tidyU ch heads xs := by
  unfold tidyU; rw [onceL_once h]
theorem ruleOk_set {r : RuleD} (h : ruleOkB r 12 = true) : setOkB r.heads 12 = true := by
  simp only [ruleOkB, headsB, Bool.and_eq_true] at h
  exact h.1.1

/-! ### UnwI -/
theorem orM_calls (a b : Nat) (w : World) (ha : a < 4096) (hb : b < 4096) :
    Calls Tryz.prog 99 #[.int .u16 (a : Int), .int .u16 (b : Int)] w fun e w' => e = .returned (.int .u16 ((a ||| b : Nat) : Int)) ∧ w = w' := by
  have hor := or_u16 a b ha hb
  go_enter Tryz.func99, Tryz.ntmps99
  go_wp2
  go_ret
  exact ⟨rfl, rfl⟩
theorem meetM_calls (a b : Nat) (w : World) (ha : a < 4096) (hb : b < 4096) :
    Calls Tryz.prog 102 #[.int .u16 (a : Int), .int .u16 (b : Int)] w fun e w' => e = .returned (.int .u16 ((a &&& b : Nat) : Int)) ∧ w = w' := by
  have hor := and_u16 a b ha hb
  go_enter Tryz.func102, Tryz.ntmps102
  go_wp2
  go_ret
  exact ⟨rfl, rfl⟩
theorem lessM_calls (a b : Nat) (w : World) (ha : a < 4096) (hb : b < 4096) :
    Calls Tryz.prog 104 #[.int .u16 (a : Int), .int .u16 (b : Int)] w fun e w' => e = .returned (.int .u16 ((a &&& (65535 - b) : Nat) : Int)) ∧ w = w' := by
  have hor := andNot_u16 a b ha hb
  go_enter Tryz.func104, Tryz.ntmps104
  go_wp2
  go_ret
  exact ⟨rfl, rfl⟩
theorem inM_calls (a b : Nat) (w : World) (ha : a < 4096) (hb : b < 4096) :
    Calls Tryz.prog 103 #[.int .u16 (a : Int), .int .u16 (b : Int)] w fun e w' => e = .returned (.bool (((a &&& (65535 - b) : Nat) : Int) == 0)) ∧ w = w' := by
  go_enter Tryz.func103, Tryz.ntmps103
  go_wp2_with (go_at_call 104; refine (lessM_calls _ _ _ ha hb).mono ?_; rintro e w' ⟨rfl, rfl⟩)
  go_ret
  exact ⟨rfl, rfl⟩

set_option maxHeartbeats 4000000 in
theorem tidyUnweighted_calls {ch wt : Bool} {bd : Int} {c1 c4 : Value} {heads : List Int} {body : List Pr} {w : World} (h1 : RdL w [c1] heads) (h4 : RdL w [c4] body) (hw : WBg body) (hs : setOkB heads 12 = true) :
    Calls Tryz.prog 76 #[.agg #[.bool ch, c1, .bool wt, .int .i64 bd, c4]] w fun e w' =>
      ∃ cs', e = .returned (.tuple #[.agg cs'.toArray, .bool (tidyU ch heads body).isSome]) ∧ Own w.heap.size w' cs' ((tidyU ch heads body).getD default) ∧ Below w.heap.size w w' := by
  obtain ⟨ah, kh, rfl, _, hh⟩ := h1.sl
  obtain ⟨ab, kb, rfl, _, _⟩ := h4.sl
  have t0 : Below w.heap.size w ((w.alloc (.cells #[.bool ch, .slice ah heads.length kh, .bool wt, .int .i64 bd, .slice ab body.length kb] 49)).alloc (.cells #[.bool false, .slice none 0 0, .bool false, .int .i64 0, .slice none 0 0] 49)) := ((Below.refl _ _).alloc (by simp) _).alloc (by simp) _
  have CP := (Cells.new w [.bool ch, .slice ah heads.length kh, .bool wt, .int .i64 bd, .slice ab body.length kb] 49).alloc (.cells #[.bool false, .slice none 0 0, .bool false, .int .i64 0, .slice none 0 0] 49)
  have hbA := (((Below.refl _ _).alloc (Nat.le_refl _) (.cells #[.bool false, .slice none 0 0, .bool false, .int .i64 0, .slice none 0 0] 49)).block w.heap.size (by simp)).trans (alloc_block w #[.bool ch, .slice ah heads.length kh, .bool wt, .int .i64 bd, .slice ab body.length kb] 49)
  have hb0 := alloc_block (w.alloc (.cells #[.bool ch, .slice ah heads.length kh, .bool wt, .int .i64 bd, .slice ab body.length kb] 49)) #[.bool false, .slice none 0 0, .bool false, .int .i64 0, .slice none 0 0] 49
  have hs0 : ((w.alloc (.cells #[.bool ch, .slice ah heads.length kh, .bool wt, .int .i64 bd, .slice ab body.length kb] 49)).alloc (.cells #[.bool false, .slice none 0 0, .bool false, .int .i64 0, .slice none 0 0] 49)).heap.size = w.heap.size + 2 := by simp
  rw [World.size_alloc] at hb0
  have hWW := withoutWeight_calls (ch := ch) (wt := wt) (bd := bd) (ah := ah) (nh := heads.length) (kh := kh) (ab := ab) (nb := body.length) (kb := kb) (Rd.mono (α := List (Int × Int)) t0 h4) hw
  obtain ⟨x0, x1, x2, x3, x4⟩ := cells5 CP
  have hI := hh.ints
  have hGO := goes_same hs hw.inR
  have hRS := fun os => rest_same (os := os) hs
  have hRng : ∀ p ∈ onceL body, -12 ≤ p.1 ∧ p.1 ≤ 12 := fun p hp => by have := onceL_in hw.inR p hp; unfold inR at this; omega
  obtain ⟨ys, hys⟩ : ∃ ys, ys = onceL body := ⟨_, rfl⟩
  rw [← hys] at hWW hGO hRng
  have HOS := Lib.hid hys
  have HRng := Lib.hid hRng
  clear h1 h4 hw hs hh hys hRng
  go_enter Tryz.func76, Tryz.ntmps76
  go_wp2_with fail
  refine hWW.mono ?_
  rintro e w1 ⟨v1, rfl, o1, b1⟩
  clear hWW x0 x1 x2 x3 x4
  rw [hs0] at o1 b1
  have hz1 := b1.size
  rw [hs0] at hz1
  have CP1 : Cells w1 w.heap.size 0 [.bool ch, .slice ah heads.length kh, .bool wt, .int .i64 bd, .slice ab body.length kb] := CP.later (hs0 ▸ b1)
  have hA1 := (b1.block w.heap.size (by omega)).trans hbA
  have hZ1 := (b1.block (w.heap.size + 1) (by omega)).trans hb0
  have t1 := t0.trans (b1.mono (by omega))
  obtain ⟨av, cv, rfl, _, _⟩ := o1.rd.sl
  have hfb := fun j => frozen_of_row w1 w.heap.size j _ _ hA1
  obtain ⟨x0, x1, x2, x3, x4⟩ := cells5 CP1
  have e0 := heap_setCell_same w1 w.heap.size 0 _ _ (.bool ch) hA1
  have e1 := heap_setCell_same _ w.heap.size 1 _ _ (.slice ah heads.length kh) e0
  have e2 := heap_setCell_same _ w.heap.size 2 _ _ (.bool false) e1
  have e3 := heap_setCell_same _ w.heap.size 3 _ _ (.int .i64 0) e2
  have e4 := heap_setCell_same _ w.heap.size 4 _ _ (.slice av ys.length cv) e3
  have hch := put_chg w.heap.size [.bool ch, .slice ah heads.length kh, .bool false, .int .i64 0, .slice av ys.length cv] w1 0
  have o1b := o1.keep (w' := put w1 w.heap.size 0 [.bool ch, .slice ah heads.length kh, .bool false, .int .i64 0, .slice av ys.length cv]) fun g _ hB _ => hch.block g (by simp; omega)
  have twb := t1.trans (hch.below (lo := w.heap.size) fun g hg => by simp at hg; omega)
  have hZb := (hch.block (w.heap.size + 1) (by simp)).trans hZ1
  have hzb : (put w1 w.heap.size 0 [.bool ch, .slice ah heads.length kh, .bool false, .int .i64 0, .slice av ys.length cv]).heap.size = w1.heap.size := hch.size
  obtain ⟨wb, hwb⟩ : ∃ wb, wb = put w1 w.heap.size 0 [.bool ch, .slice ah heads.length kh, .bool false, .int .i64 0, .slice av ys.length cv] := ⟨_, rfl⟩
  have hAb : wb.heap[w.heap.size]? = some (.cells #[.bool ch, .slice ah heads.length kh, .bool false, .int .i64 0, .slice av ys.length cv] 49 (0, 0)) := by rw [hwb]; exact e4
  rw [← hwb] at o1b twb hZb hzb
  have HWB : Hid (wb = ((((w1.setCell ⟨w.heap.size, 0, none⟩ (.bool ch)).setCell ⟨w.heap.size, 1, none⟩ (.slice ah heads.length kh)).setCell ⟨w.heap.size, 2, none⟩ (.bool false)).setCell ⟨w.heap.size, 3, none⟩ (.int .i64 0)).setCell ⟨w.heap.size, 4, none⟩ (.slice av ys.length cv)) := hwb
  have CB : Cells wb w.heap.size 0 [.bool ch, .slice ah heads.length kh, .bool false, .int .i64 0, .slice av ys.length cv] := fun j v hv => by
    rw [Nat.zero_add, cell_of_row wb w.heap.size j _ _ _ hAb]; simpa using hv
  clear e0 e1 e2 e3 e4 hch hwb hA1 hZ1 o1 t1 CP CP1 hbA hb0 t0 b1 hs0
  have y4 := CB.c4
  rw [HWB.out] at y4
  go_wp2
  clear x0 x1 x2 x3 x4 y4 hfb
  go_loopw [4, 5, 7, 16] (fun a r _ i wr => ∃ k : Nat, k ≤ ys.length ∧ i = .int .i64 k ∧ a = .int .u16 (maskOf (posL (ys.take k)) : Int) ∧ r = .int .u16 (maskOf (negL (ys.take k)) : Int) ∧ Below wb.heap.size wb wr) (fun _ _ _ i _ => ys.length - (intOf i).toNat)
  case atStart => exact ⟨0, Nat.zero_le _, rfl, rfl, rfl, by rw [HWB.out]; exact Below.refl _ _⟩
  case round =>
    obtain ⟨k, hk, rfl, rfl, rfl, hb⟩ := hrel
    have hlA := maskOf_lt (posL (ys.take k))
    have hlR := maskOf_lt (negL (ys.take k))
    by_cases hlt : k < ys.length
    · rcases o1b.form with ⟨hv, hn⟩ | ⟨g, c, hv, _, _, _, _, _⟩
      · rw [hn] at hlt; simp at hlt
      · obtain ⟨rfl, _, rfl⟩ : av = some ⟨g, 0, none⟩ ∧ ys.length = ys.length ∧ cv = c := by simpa using hv
        obtain ⟨d0, d1⟩ := o1b.cell hlt
        have u0 := cell_kept hb d0
        have u1 := cell_kept hb d1
        have hr := HRng.out _ (nth_mem hlt)
        obtain ⟨hr1, hr2⟩ := hr
        have hbA := hb.alloc hb.size (.cells #[.int .i64 (nth ys k).1, .int .i64 (nth ys k).2] 84)
        have hkn : (0 : Int) ≤ (k : Int) := by omega
        have hkl : (k : Int) < (ys.length : Int) := by omega
        clear d0 d1 hv o1b hb
        by_cases hp : 0 < (nth ys k).1
        · have hA := Lib.hid (askM_yes hlt hp)
          have hR := Lib.hid (refM_yes hlt hp)
          have hfx : Fits (nth ys k).1 := by unfold Fits; omega
          have hbl := bitN_lt (nth ys k).1
          go_wp2_with (first | (go_at_call 100; refine (atomBit_calls _ _ hfx).mono ?_; rintro e w' ⟨rfl, rfl⟩) | (go_at_call 99; refine (orM_calls _ _ _ hlA hbl).mono ?_; rintro e w' ⟨rfl, rfl⟩))
          go_roundw
          case rel => exact ⟨k + 1, by omega, by go_num, by rw [hA.out], by rw [hR.out], hbA⟩
          case measure => simp [intOf]; omega
        · have hA := Lib.hid (askM_no hlt hp)
          have hR := Lib.hid (refM_no hlt hp)
          have hfx : Fits (-(nth ys k).1) := by unfold Fits; omega
          have hbl := bitN_lt (-(nth ys k).1)
          have hwr : IntKind.i64.wrap (-(nth ys k).1) = -(nth ys k).1 := IntWalk.i64_in _ (by omega)
          have hp' : decide (0 < (nth ys k).1) = false := decide_eq_false hp
          clear hp
          go_wp2_with (first | (go_at_call 100; refine (atomBit_calls _ _ hfx).mono ?_; rintro e w' ⟨rfl, rfl⟩) | (go_at_call 99; refine (orM_calls _ _ _ hlR hbl).mono ?_; rintro e w' ⟨rfl, rfl⟩))
          go_roundw
          case rel => exact ⟨k + 1, by omega, by go_num, by rw [hA.out], by rw [hR.out], hbA⟩
          case measure => simp [intOf]; omega
    · obtain rfl : k = ys.length := by omega
      rw [List.take_length] at hlA hlR ⊢
      obtain ⟨mA, hmAe⟩ : ∃ m, m = maskOf (posL ys) := ⟨_, rfl⟩
      obtain ⟨mR, hmRe⟩ : ∃ m, m = maskOf (negL ys) := ⟨_, rfl⟩
      obtain ⟨mH, hmHe⟩ : ∃ m, m = maskOf heads := ⟨_, rfl⟩
      have hRS2 := hRS ys
      have hmX := SetLess_lt heads (posL ys)
      have hmH := maskOf_lt heads
      rw [← hmAe, ← hmRe, ← hmHe] at hGO
      rw [← hmAe, ← hmHe] at hRS2 hmX
      rw [← hmAe] at hlA ⊢
      rw [← hmRe] at hlR ⊢
      rw [← hmHe] at hmH
      have HMH := Lib.hid hmHe
      have HGO := Lib.hid hGO
      have HRS := Lib.hid hRS2
      clear hRS hRS2 hmAe hmRe hmHe hGO
      have hmA := hlA
      have hmR := hlR
      have htw := twb.trans (hb.mono (by have := twb.size; omega))
      have HTW := Lib.hid htw
      have hIr := hI.later htw
      have hlr : w.heap.size < wr.heap.size := by have := hb.size; omega
      have hlr2 : w.heap.size + 1 < wr.heap.size := by have := hb.size; omega
      have hbx := (hb.block w.heap.size (by omega)).trans hAb
      have hbxB := (hb.block (w.heap.size + 1) (by omega)).trans hZb
      have o1r := o1b.later hb
      have y1 := (CB.later hb).c1
      have CZ : Cells wr (w.heap.size + 1) 0 [.bool false, .slice none 0 0, .bool false, .int .i64 0, .slice none 0 0] := fun j v hv => by
        rw [Nat.zero_add, cell_of_row wr (w.heap.size + 1) j _ _ _ hbxB]; simpa using hv
      obtain ⟨z0, z1, z2, z3, z4⟩ := cells5 CZ
      have hfz := fun j => frozen_of_row wr (w.heap.size + 1) j _ _ hbxB
      clear CZ CB hAb hZb hb hI htw twb o1b hlA hlR
      cases hX : ((((mA &&& mR : Nat) : Int)) != 0)
      case false =>
        cases hY : (((mH : Int)) != 0)
        case false =>
          have hT : tidyU ch heads body = some ⟨ch, restH heads ys, false, 0, ys⟩ := by
            have := tidyU_yes (ch := ch) (heads := heads) (body := body) (by rw [← HOS.out, ← HGO.out]; simp only [hX, hY, Bool.false_or, Bool.false_and])
            rw [← HOS.out] at this; exact this
          have HTB : Hid ((tidyU ch heads body).isSome = true) := by show _ = _; rw [hT]; rfl
          have HTR : Hid ((tidyU ch heads body).getD default = ⟨ch, restH heads ys, false, 0, ys⟩) := by show _ = _; rw [hT]; rfl
          have hLS := list_calls (mH &&& (65535 - mA)) wr hmX
          rw [HRS.out] at hLS
          clear hT z0 z1 z2 z3 z4
          go_wp2_with (first | (go_at_call 102; refine (meetM_calls _ _ _ hmA hmR).mono ?_; rintro e w' ⟨rfl, rfl⟩) | (go_at_call 103; refine (inM_calls _ _ _ hmH hmA).mono ?_; rintro e w' ⟨rfl, rfl⟩) | (go_at_call 104; refine (lessM_calls _ _ _ hmH hmA).mono ?_; rintro e w' ⟨rfl, rfl⟩) | (go_at_call 101; refine (atomsIn_calls _ _ _ _ hIr).mono ?_; rintro e w' ⟨he, rfl⟩; rw [← HMH.out] at he; subst he))
          refine hLS.mono ?_
          rintro e w5 ⟨v5, rfl, o5, b5⟩
          clear hLS
          have tw5 := HTW.out.step b5
          have hbx5 := (b5.block w.heap.size hlr).trans hbx
          have hbz5 := (b5.block (w.heap.size + 1) (by omega)).trans hbxB
          have o15 := o1r.later b5
          have hs5 := b5.size
          have CB5 : Cells w5 w.heap.size 0 [.bool ch, .slice ah heads.length kh, .bool false, .int .i64 0, .slice av ys.length cv] := fun j v hv => by
            rw [Nat.zero_add, cell_of_row w5 w.heap.size j _ _ _ hbx5]; simpa using hv
          have CZ5 : Cells w5 (w.heap.size + 1) 0 [.bool false, .slice none 0 0, .bool false, .int .i64 0, .slice none 0 0] := fun j v hv => by
            rw [Nat.zero_add, cell_of_row w5 (w.heap.size + 1) j _ _ _ hbz5]; simpa using hv
          obtain ⟨x0, x1, x2, x3, x4⟩ := cells5 CB5
          obtain ⟨z0, z1, z2, z3, z4⟩ := cells5 CZ5
          have hfb5 := fun j => frozen_of_row w5 w.heap.size j _ _ hbx5
          have hfz5 := fun j => frozen_of_row w5 (w.heap.size + 1) j _ _ hbz5
          have HF : ∀ (u : Value) (cs' : List Value), Own w.heap.size (put (w5.setCell ⟨w.heap.size, 1, none⟩ u) (w.heap.size + 1) 0 cs') [.bool ch, v5, .bool false, .int .i64 0, .slice av ys.length cv] (⟨ch, restH heads ys, false, 0, ys⟩ : RuleD) := fun u cs' => by
            obtain ⟨fpo, hO, hl⟩ := own_rule3 (x := (⟨ch, restH heads ys, false, 0, ys⟩ : RuleD)) (OwnI.own o5).shut (o1r.ownIn.later b5) (.inr (Nat.le_refl _)) (by show Fits 0; unfold Fits; omega)
            have hl : ∀ g ∈ fpo, (wr.heap.size ≤ g ∧ g < w5.heap.size) ∨ (w.heap.size + 4 ≤ g ∧ g < wr.heap.size) := hl
            exact ⟨fpo, Ow.kept hO fun g hg => ((put_chg (w.heap.size + 1) cs' (w5.setCell ⟨w.heap.size, 1, none⟩ u) 0).block g (by have := hl g hg; simp; omega)).trans (Below.heap_setCell _ _ _ _ (by have := hl g hg; show g ≠ w.heap.size; omega)), fun g hg => by have := hl g hg; omega⟩
          have HF := Lib.hid HF
          have HT5 := Lib.hid tw5
          obtain ⟨a5, k5, rfl, _, _⟩ := (OwnI.own o5).rd.sl
          clear CB5 CZ5 hbx5 hbz5 o15 o5 b5 tw5 hbx hbxB o1r
          go_wp2
          refine bodyPost_ret (v := .tuple #[.agg #[.bool ch, .slice a5 (restH heads ys).length k5, .bool false, .int .i64 0, .slice av ys.length cv], .bool true])
            (by simp [results, Tryz.results76, go_sem, z0, z1, z2, z3, z4]) rfl ⟨_, by rw [HTB.out], by rw [HTR.out]; exact HF.out (.slice a5 (restH heads ys).length k5) [.bool ch, .slice a5 (restH heads ys).length k5, .bool false, .int .i64 0, .slice av ys.length cv], ?_⟩
          exact (Below.setCell HT5.out (p := ⟨w.heap.size, 1, none⟩) (Nat.le_refl _) _).trans ((put_chg (w.heap.size + 1) [.bool ch, .slice a5 (restH heads ys).length k5, .bool false, .int .i64 0, .slice av ys.length cv] _ 0).below fun g hg => by simp at hg; omega)
        case true =>
          cases hZ : ((((mH &&& (65535 - mA) : Nat) : Int)) == 0)
          case false =>
            have hT : tidyU ch heads body = some ⟨ch, restH heads ys, false, 0, ys⟩ := by
              have := tidyU_yes (ch := ch) (heads := heads) (body := body) (by rw [← HOS.out, ← HGO.out]; simp only [hX, hY, hZ, Bool.false_or, Bool.true_and])
              rw [← HOS.out] at this; exact this
            have HTB : Hid ((tidyU ch heads body).isSome = true) := by show _ = _; rw [hT]; rfl
            have HTR : Hid ((tidyU ch heads body).getD default = ⟨ch, restH heads ys, false, 0, ys⟩) := by show _ = _; rw [hT]; rfl
            have hLS := list_calls (mH &&& (65535 - mA)) wr hmX
            rw [HRS.out] at hLS
            clear hT z0 z1 z2 z3 z4
            go_wp2_with (first | (go_at_call 102; refine (meetM_calls _ _ _ hmA hmR).mono ?_; rintro e w' ⟨rfl, rfl⟩) | (go_at_call 103; refine (inM_calls _ _ _ hmH hmA).mono ?_; rintro e w' ⟨rfl, rfl⟩) | (go_at_call 104; refine (lessM_calls _ _ _ hmH hmA).mono ?_; rintro e w' ⟨rfl, rfl⟩) | (go_at_call 101; refine (atomsIn_calls _ _ _ _ hIr).mono ?_; rintro e w' ⟨he, rfl⟩; rw [← HMH.out] at he; subst he))
            refine hLS.mono ?_
            rintro e w5 ⟨v5, rfl, o5, b5⟩
            clear hLS
            have tw5 := HTW.out.step b5
            have hbx5 := (b5.block w.heap.size hlr).trans hbx
            have hbz5 := (b5.block (w.heap.size + 1) (by omega)).trans hbxB
            have o15 := o1r.later b5
            have hs5 := b5.size
            have CB5 : Cells w5 w.heap.size 0 [.bool ch, .slice ah heads.length kh, .bool false, .int .i64 0, .slice av ys.length cv] := fun j v hv => by
              rw [Nat.zero_add, cell_of_row w5 w.heap.size j _ _ _ hbx5]; simpa using hv
            have CZ5 : Cells w5 (w.heap.size + 1) 0 [.bool false, .slice none 0 0, .bool false, .int .i64 0, .slice none 0 0] := fun j v hv => by
              rw [Nat.zero_add, cell_of_row w5 (w.heap.size + 1) j _ _ _ hbz5]; simpa using hv
            obtain ⟨x0, x1, x2, x3, x4⟩ := cells5 CB5
            obtain ⟨z0, z1, z2, z3, z4⟩ := cells5 CZ5
            have hfb5 := fun j => frozen_of_row w5 w.heap.size j _ _ hbx5
            have hfz5 := fun j => frozen_of_row w5 (w.heap.size + 1) j _ _ hbz5
            have HF : ∀ (u : Value) (cs' : List Value), Own w.heap.size (put (w5.setCell ⟨w.heap.size, 1, none⟩ u) (w.heap.size + 1) 0 cs') [.bool ch, v5, .bool false, .int .i64 0, .slice av ys.length cv] (⟨ch, restH heads ys, false, 0, ys⟩ : RuleD) := fun u cs' => by
              obtain ⟨fpo, hO, hl⟩ := own_rule3 (x := (⟨ch, restH heads ys, false, 0, ys⟩ : RuleD)) (OwnI.own o5).shut (o1r.ownIn.later b5) (.inr (Nat.le_refl _)) (by show Fits 0; unfold Fits; omega)
              have hl : ∀ g ∈ fpo, (wr.heap.size ≤ g ∧ g < w5.heap.size) ∨ (w.heap.size + 4 ≤ g ∧ g < wr.heap.size) := hl
              exact ⟨fpo, Ow.kept hO fun g hg => ((put_chg (w.heap.size + 1) cs' (w5.setCell ⟨w.heap.size, 1, none⟩ u) 0).block g (by have := hl g hg; simp; omega)).trans (Below.heap_setCell _ _ _ _ (by have := hl g hg; show g ≠ w.heap.size; omega)), fun g hg => by have := hl g hg; omega⟩
            have HF := Lib.hid HF
            have HT5 := Lib.hid tw5
            obtain ⟨a5, k5, rfl, _, _⟩ := (OwnI.own o5).rd.sl
            clear CB5 CZ5 hbx5 hbz5 o15 o5 b5 tw5 hbx hbxB o1r
            go_wp2
            refine bodyPost_ret (v := .tuple #[.agg #[.bool ch, .slice a5 (restH heads ys).length k5, .bool false, .int .i64 0, .slice av ys.length cv], .bool true])
              (by simp [results, Tryz.results76, go_sem, z0, z1, z2, z3, z4]) rfl ⟨_, by rw [HTB.out], by rw [HTR.out]; exact HF.out (.slice a5 (restH heads ys).length k5) [.bool ch, .slice a5 (restH heads ys).length k5, .bool false, .int .i64 0, .slice av ys.length cv], ?_⟩
            exact (Below.setCell HT5.out (p := ⟨w.heap.size, 1, none⟩) (Nat.le_refl _) _).trans ((put_chg (w.heap.size + 1) [.bool ch, .slice a5 (restH heads ys).length k5, .bool false, .int .i64 0, .slice av ys.length cv] _ 0).below fun g hg => by simp at hg; omega)
          case true =>
            have hT : tidyU ch heads body = none := tidyU_no (by rw [← HOS.out, ← HGO.out]; simp only [hX, hY, hZ, Bool.false_or, Bool.true_and])
            have HTB : Hid ((tidyU ch heads body).isSome = false) := by show _ = _; rw [hT]; rfl
            have HTR : Hid ((tidyU ch heads body).getD default = default) := by show _ = _; rw [hT]; rfl
            clear hT hbx hbxB o1r
            go_wp2_with (first | (go_at_call 102; refine (meetM_calls _ _ _ hmA hmR).mono ?_; rintro e w' ⟨rfl, rfl⟩) | (go_at_call 103; refine (inM_calls _ _ _ hmH hmA).mono ?_; rintro e w' ⟨rfl, rfl⟩) | (go_at_call 104; refine (lessM_calls _ _ _ hmH hmA).mono ?_; rintro e w' ⟨rfl, rfl⟩) | (go_at_call 101; refine (atomsIn_calls _ _ _ _ hIr).mono ?_; rintro e w' ⟨he, rfl⟩; rw [← HMH.out] at he; subst he))
            refine bodyPost_ret (v := .tuple #[.agg #[.bool false, .slice none 0 0, .bool false, .int .i64 0, .slice none 0 0], .bool false])
              (by simp [results, Tryz.results76, go_sem, z0, z1, z2, z3, z4]) rfl ⟨_, by rw [HTB.out], by rw [HTR.out]; exact own_zeroR _ _, by
              repeat (refine Below.setCell ?_ (by simp; try omega) _)
              exact HTW.out⟩
      case true =>
        have hT : tidyU ch heads body = none := tidyU_no (by rw [← HOS.out, ← HGO.out]; simp only [hX, Bool.true_or])
        have HTB : Hid ((tidyU ch heads body).isSome = false) := by show _ = _; rw [hT]; rfl
        have HTR : Hid ((tidyU ch heads body).getD default = default) := by show _ = _; rw [hT]; rfl
        clear hT hbx hbxB o1r
        go_wp2_with (first | (go_at_call 102; refine (meetM_calls _ _ _ hmA hmR).mono ?_; rintro e w' ⟨rfl, rfl⟩) | (go_at_call 103; refine (inM_calls _ _ _ hmH hmA).mono ?_; rintro e w' ⟨rfl, rfl⟩) | (go_at_call 104; refine (lessM_calls _ _ _ hmH hmA).mono ?_; rintro e w' ⟨rfl, rfl⟩) | (go_at_call 101; refine (atomsIn_calls _ _ _ _ hIr).mono ?_; rintro e w' ⟨he, rfl⟩; rw [← HMH.out] at he; subst he))
        refine bodyPost_ret (v := .tuple #[.agg #[.bool false, .slice none 0 0, .bool false, .int .i64 0, .slice none 0 0], .bool false])
          (by simp [results, Tryz.results76, go_sem, z0, z1, z2, z3, z4]) rfl ⟨_, by rw [HTB.out], by rw [HTR.out]; exact own_zeroR _ _, by
          repeat (refine Below.setCell ?_ (by simp; try omega) _)
          exact HTW.out⟩

/-! ### WeighI -/
def TWp (r : RuleD) (c1 : Value) (lo : Nat) (w' : World) (cs' : List Value) (s : Bool) : Prop :=
  (s = false ∧ cs' = [.bool false, .slice none 0 0, .bool false, .int .i64 0, .slice none 0 0] ∧ tidyW r = none) ∨
  (s = true ∧ ∃ (wt : Bool) (bd : Int) (v : Value) (ys : List Pr), cs' = [.bool r.choice, c1, .bool wt, .int .i64 bd, v] ∧ PRow lo (fun f => lo ≤ f) w' v ys ∧
    ((wt = false ∧ bd = 0 ∧ WBg ys ∧ tidyW r = tidyU r.choice r.heads ys) ∨ (wt = r.weight ∧ bd = r.bound ∧ tidyW r = some { r with body := ys })))
theorem once_big {xs : List Pr} (h : WOk xs) : WBg (onceL xs) :=
  ⟨by have h1 : (onceL xs).length ≤ (ordL xs).length := onceTo_len _ _
      have h2 := ordL_len h.big.inR
      have := h.1
      omega, fun p hp => ⟨onceL_in h.big.inR p hp, by have := once_w (ys := ordL xs) p hp; omega⟩⟩
def minF (b : Int) (p : Pr) : Pr := (p.1, minI p.2 b)
theorem min_gath (xs : List Pr) (b : Int) : (gathL xs).map (minF b) = mergedL xs b := gath_min xs b
theorem rd_nilP (w : World) : RdL (α := Pr) w [.slice none 0 0] [] := (show OwL (α := Pr) w [.slice none 0 0] [] [] from ⟨none, 0, rfl, Nat.le_refl _, by omega, .inl ⟨rfl, rfl⟩⟩).rd
theorem gath_fits {xs : List Pr} (h : WOk xs) : ∀ p ∈ gathL xs, 0 ≤ p.2 ∧ p.2 ≤ 20000 := fun p hp => by
  unfold gathL at hp
  obtain ⟨q, _, rfl⟩ := List.mem_map.1 hp
  have h1 := sumH_bd (f := fun p => p.1 == q.1) h.w
  have h2 := h.1
  exact ⟨h1.1, by show sumH (fun p => p.1 == q.1) xs ≤ 20000; omega⟩

theorem takeW {P : Program} {ops : Array Oper} {Q : Exit → Act → World → Prop} {md : Region.Mode} {S : World → Prop} {i : Nat} {oi : Oper} {v : Value} (d : Option Tmp) {fuel : Nat} {listed : Array Bool} {a : Act} {w : World} (hi : ops[i]? = some oi) (hd : oi.dst = d)
    (hs : Region.noSelect ops = true) (hf : Region.free md ops listed i = true) (hr : (Region.ready md ops listed).contains i = true)
    (hQ : ∀ c a w, Q (.panic c) (a.put oi.dst v) w → Q (.panic c) a w) (hy : YieldsIf P ops S oi v a) (hS : S w)
    (h : wpAnyH P md ops Q S fuel (listed.setIfInBounds i true) (a.put d v) w) : wpAnyH P md ops Q S (fuel + 1) listed a w := by
  subst hd
  exact wpAnyH_take hi hs hf hr hQ hy hS h

set_option maxHeartbeats 4000000 in
theorem tidyWeighted_calls {r : RuleD} {c1 c4 : Value} {w : World} (h1 : RdL w [c1] r.heads) (h4 : RdL w [c4] r.body) (hw : WOk r.body) (hbd : -100000 ≤ r.bound ∧ r.bound ≤ 100000) :
    Calls Tryz.prog 75 #[.agg #[.bool r.choice, c1, .bool r.weight, .int .i64 r.bound, c4]] w fun e w' =>
      ∃ cs' s, e = .returned (.tuple #[.agg cs'.toArray, .bool s]) ∧ TWp r c1 w.heap.size w' cs' s ∧ Below w.heap.size w w' := by
  obtain ⟨ah, kh, rfl, _, hh⟩ := h1.sl
  obtain ⟨ab, kb, rfl, _, _⟩ := h4.sl
  obtain ⟨hbd0, hbd1⟩ := hbd
  have t0 : Below w.heap.size w ((w.alloc (.cells #[.bool r.choice, .slice ah r.heads.length kh, .bool r.weight, .int .i64 r.bound, .slice ab r.body.length kb] 49)).alloc (.cells #[.bool false, .slice none 0 0, .bool false, .int .i64 0, .slice none 0 0] 49)) := ((Below.refl _ _).alloc (by simp) _).alloc (by simp) _
  have CP := (Cells.new w [.bool r.choice, .slice ah r.heads.length kh, .bool r.weight, .int .i64 r.bound, .slice ab r.body.length kb] 49).alloc (.cells #[.bool false, .slice none 0 0, .bool false, .int .i64 0, .slice none 0 0] 49)
  have hbA := (((Below.refl _ _).alloc (Nat.le_refl _) (.cells #[.bool false, .slice none 0 0, .bool false, .int .i64 0, .slice none 0 0] 49)).block w.heap.size (by simp)).trans (alloc_block w #[.bool r.choice, .slice ah r.heads.length kh, .bool r.weight, .int .i64 r.bound, .slice ab r.body.length kb] 49)
  have hb0 := alloc_block (w.alloc (.cells #[.bool r.choice, .slice ah r.heads.length kh, .bool r.weight, .int .i64 r.bound, .slice ab r.body.length kb] 49)) #[.bool false, .slice none 0 0, .bool false, .int .i64 0, .slice none 0 0] 49
  have hs0 : ((w.alloc (.cells #[.bool r.choice, .slice ah r.heads.length kh, .bool r.weight, .int .i64 r.bound, .slice ab r.body.length kb] 49)).alloc (.cells #[.bool false, .slice none 0 0, .bool false, .int .i64 0, .slice none 0 0] 49)).heap.size = w.heap.size + 2 := by simp
  rw [World.size_alloc] at hb0
  obtain ⟨x0, x1, x2, x3, x4⟩ := cells5 CP
  by_cases hB1 : r.bound ≤ 0
  · have hWW := withoutWeight_calls (ch := r.choice) (wt := r.weight) (bd := r.bound) (ah := ah) (nh := r.heads.length) (kh := kh) (ab := ab) (nb := r.body.length) (kb := kb) (rd_nilP ((w.alloc (.cells #[.bool r.choice, .slice ah r.heads.length kh, .bool r.weight, .int .i64 r.bound, .slice ab r.body.length kb] 49)).alloc (.cells #[.bool false, .slice none 0 0, .bool false, .int .i64 0, .slice none 0 0] 49))) ⟨by simp, by simp⟩
    have hT : Hid (WBg (onceL ([] : List Pr)) ∧ tidyW r = tidyU r.choice r.heads (onceL [])) := ⟨⟨by decide, by simp [onceL, ordL, ordTo, onceTo]⟩, by rw [tidyW_1 hB1]; rfl⟩
    obtain ⟨ys, hys⟩ : ∃ ys, ys = onceL ([] : List Pr) := ⟨_, rfl⟩
    rw [← hys] at hWW hT
    clear hys h1 h4 hw hh
    go_enter Tryz.func75, Tryz.ntmps75
    go_wp2_with fail
    refine hWW.mono ?_
    rintro e w1 ⟨v1, rfl, o1, b1⟩
    clear hWW x0 x1 x2 x3 x4
    rw [hs0] at o1 b1
    have hz1 := b1.size
    rw [hs0] at hz1
    have hZ1 := (b1.block (w.heap.size + 1) (by omega)).trans hb0
    have t1 := t0.trans (b1.mono (by omega))
    obtain ⟨av, cv, rfl, _, _⟩ := o1.rd.sl
    have CZ : Cells w1 (w.heap.size + 1) 0 [.bool false, .slice none 0 0, .bool false, .int .i64 0, .slice none 0 0] := fun j v hv => by
      rw [Nat.zero_add, cell_of_row w1 (w.heap.size + 1) j _ _ _ hZ1]; simpa using hv
    obtain ⟨z0, z1, z2, z3, z4⟩ := cells5 CZ
    have hfz := fun j => frozen_of_row w1 (w.heap.size + 1) j _ _ hZ1
    have HO := Lib.hid (o1.weak (B' := w.heap.size + 2) (D' := fun f => w.heap.size ≤ f) (by omega) fun f hf => by omega)
    have HB := Lib.hid t1
    clear o1 t1 b1 hZ1 CZ hbA hb0 t0 CP
    go_wp2
    refine bodyPost_ret (v := .tuple #[.agg #[.bool r.choice, .slice ah r.heads.length kh, .bool false, .int .i64 0, .slice av ys.length cv], .bool true])
      (by simp [results, Tryz.results75, go_sem, z0, z1, z2, z3, z4]) rfl ⟨_, true, rfl, .inr ⟨rfl, _, _, _, _, rfl, ?_, .inl ⟨rfl, rfl, hT.out⟩⟩, ?_⟩
    · exact ((HO.out).keep fun g _ hB _ => (put_chg (w.heap.size + 1) [.bool r.choice, .slice ah r.heads.length kh, .bool false, .int .i64 0, .slice av ys.length cv] w1 0).block g (by simp; omega)).weak (by omega) fun _ h => h
    · exact (HB.out).trans ((put_chg (w.heap.size + 1) [.bool r.choice, .slice ah r.heads.length kh, .bool false, .int .i64 0, .slice av ys.length cv] w1 0).below fun g hg => by simp at hg; omega)
  have hG := gathered_calls (Rd.mono (α := List (Int × Int)) t0 h4) hw.big
  have hglen : (gathL r.body).length ≤ 20 := by have := gath_len r.body; have := ordL_len hw.big.inR; have := hw.1; omega
  have hgf := gath_fits hw
  have hE := min_gath r.body r.bound
  have HW := Lib.hid hw
  obtain ⟨ys, hys⟩ : ∃ ys, ys = gathL r.body := ⟨_, rfl⟩
  rw [← hys] at hG hglen hgf hE
  have HE := Lib.hid hE
  have HGF := Lib.hid hgf
  clear hw hys hE hgf
  have hB2 : decide (r.bound ≤ 0) = false := decide_eq_false hB1
  have hB3 : 1 ≤ r.bound := by omega
  clear hB1
  go_enter Tryz.func75, Tryz.ntmps75
  go_wp2_with fail
  refine hG.mono ?_
  rintro e w1 ⟨v1, rfl, o1, b1⟩
  clear hG x0 x1 x2 x3 x4
  generalize ((w.alloc (.cells #[.bool r.choice, .slice ah r.heads.length kh, .bool r.weight, .int .i64 r.bound, .slice ab r.body.length kb] 49)).alloc (.cells #[.bool false, .slice none 0 0, .bool false, .int .i64 0, .slice none 0 0] 49)) = w0 at t0 CP hbA hb0 hs0 o1 b1
  rw [hs0] at o1 b1
  have boxP : ∀ W : World, Below (w.heap.size + 2) w0 W → Cells W w.heap.size 0 [.bool r.choice, .slice ah r.heads.length kh, .bool r.weight, .int .i64 r.bound, .slice ab r.body.length kb] := fun W hW => CP.later (hs0 ▸ hW)
  have blkP : ∀ W : World, Below (w.heap.size + 2) w0 W → W.heap[w.heap.size]? = some (.cells #[.bool r.choice, .slice ah r.heads.length kh, .bool r.weight, .int .i64 r.bound, .slice ab r.body.length kb] 49 (0, 0)) := fun W hW => (hW.block w.heap.size (by omega)).trans hbA
  have blkZ : ∀ W : World, Below (w.heap.size + 2) w0 W → W.heap[w.heap.size + 1]? = some (.cells #[.bool false, .slice none 0 0, .bool false, .int .i64 0, .slice none 0 0] 49 (0, 0)) := fun W hW => (hW.block (w.heap.size + 1) (by omega)).trans hb0
  have boxZ : ∀ W : World, Below (w.heap.size + 2) w0 W → Cells W (w.heap.size + 1) 0 [.bool false, .slice none 0 0, .bool false, .int .i64 0, .slice none 0 0] := fun W hW j v hv => by
    rw [Nat.zero_add, cell_of_row W (w.heap.size + 1) j _ _ _ (blkZ W hW)]; simpa using hv
  have allB : ∀ W : World, Below (w.heap.size + 2) w0 W → Below w.heap.size w W := fun W hW => t0.trans (hW.mono (by omega))
  have szB : ∀ W : World, Below (w.heap.size + 2) w0 W → w.heap.size + 2 ≤ W.heap.size := fun W hW => by have := hW.size; omega
  clear t0 CP hbA hb0 hs0
  obtain ⟨av, cv, rfl, _, _⟩ := o1.rd.sl
  have T0 : PRow (w.heap.size + 2) (fun f => w.heap.size + 2 ≤ f) w1 (.slice av ys.length cv) (mapTo (minF r.bound) ys 0) := by rw [mapTo_zero]; exact o1
  clear o1
  have hly : (ys.length : Int) ≤ 20 := by omega
  go_wp2
  go_loopw [5, 17] (fun _ i wr => ∃ k : Nat, k ≤ ys.length ∧ i = .int .i64 k ∧ PRow (w.heap.size + 2) (fun f => w.heap.size + 2 ≤ f) wr (.slice av ys.length cv) (mapTo (minF r.bound) ys k) ∧ Below (w.heap.size + 2) w0 wr) (fun _ i _ => ys.length - (intOf i).toNat)
  case atStart => exact ⟨0, Nat.zero_le _, rfl, T0, b1⟩
  case round =>
    obtain ⟨k, hk, rfl, ho, hb⟩ := hrel
    clear T0 b1
    have hln := mapTo_len (minF r.bound) ys hk
    by_cases hlt : k < ys.length
    · rcases ho.form with ⟨hv, hn⟩ | ⟨g, c, hv, _, _, hgD, hgB, hgl⟩
      · rw [hn] at hln; simp at hln; omega
      · obtain ⟨rfl, _, rfl⟩ : av = some ⟨g, 0, none⟩ ∧ ys.length = (mapTo (minF r.bound) ys k).length ∧ cv = c := by simpa using hv
        obtain ⟨c0, c1⟩ := ho.cell (i := k) (by omega)
        have hmn := mapTo_nth (f := minF r.bound) hlt
        rw [hmn] at c0 c1
        have hkn : (0 : Int) ≤ (k : Int) := by omega
        have hkl : (k : Int) < (ys.length : Int) := by omega
        have hfz := fun j => ho.frozen j
        have x3 := (boxP wr hb).c3
        have hgf := HGF.out _ (nth_mem hlt)
        obtain ⟨hg0, hg1⟩ := hgf
        have hfm : Fits (min (nth ys k).2 r.bound) := by unfold Fits; omega
        have hst := ho.setW (i := k) (by omega) hfm
        rw [hmn] at hst
        have hsx : minF r.bound (nth ys k) = ((nth ys k).1, min (nth ys k).2 r.bound) := by unfold minF; rw [minI_min]
        rw [← hsx, mapTo_set hlt] at hst
        have HST := Lib.hid (hst.later (Below.drew (Below.refl _ _)))
        have HB := Lib.hid (Below.drew (Below.setCell hb (p := ⟨g, k * 2 + 1, none⟩) hgB (.int .i64 (min (nth ys k).2 r.bound))))
        clear hst hsx hmn hfm ho hb hln boxP blkP blkZ boxZ allB szB hv hgD hgB
        go_wp2_with fail
        go_big_region
        all_goals go_wp2
        go_roundw
        case rel => exact ⟨k + 1, by omega, by go_num, HST.out, HB.out⟩
        case measure => simp [intOf]; omega
    · obtain rfl : k = ys.length := by omega
      rw [mapTo_all, HE.out] at ho hln
      have hzb := merged_big HW.out hB3
      have hzs := sumH_bg (f := fun _ => true) (l := mergedL r.body r.bound) fun p hp => (hzb.2 p hp).2
      have hsn := spare_neg HW.out (by omega)
      have hen := each_need HW.out (by omega)
      have hon := onceL_merged (xs := r.body) r.bound HW.out.big.inR
      have hz4 := tidyW_4 (r := r) (by omega)
      obtain ⟨zs, hzq⟩ : ∃ zs, zs = mergedL r.body r.bound := ⟨_, rfl⟩
      rw [← hzq] at ho hln hzb hzs hsn hen hon hz4
      obtain ⟨S, hS⟩ : ∃ S, S = sumH (fun _ => true) zs := ⟨_, rfl⟩
      rw [← hS] at hzs hsn hen
      obtain ⟨hS0, hS1⟩ := hzs
      have hS2 : S ≤ 400000 := by have := hzb.1; omega
      have HZ4 := Lib.hid hz4
      have HON := Lib.hid hon
      have HSS := Lib.hid hS
      have HZB := Lib.hid hzb
      clear hz4 hzq hS hon hzb
      rw [← hln] at ho
      have hTG := together_calls (Rd.mono (α := List (Int × Int)) (Below.refl wr.heap.size wr).drew ho.rd) HZB.out.1 fun p hp => (HZB.out.2 p hp).2
      rw [← HSS.out] at hTG
      have hwr : IntKind.i64.wrap (S - r.bound) = S - r.bound := IntWalk.i64_in _ (by omega)
      have keep1 : ∀ w', Below (w.heap.size + 2) w0 w' → w'.cell? ⟨w.heap.size, 3, none⟩ = some (.int .i64 r.bound) := fun w' h => (boxP w' h).c3
      have K0 := hb.drew
      have hlz : ys.length = zs.length := hln.symm
      rw [← hln]
      clear hln
      go_wp2
      refine wp_region_held_drew (S := fun w' => w'.cell? ⟨w.heap.size, 3, none⟩ = some (.int .i64 r.bound)) (by kernel_rfl) (keep1 _ K0) (fun hHeld => ?_)
      refine takeW (i := 0) (v := .slice av zs.length cv) (some 33) rfl rfl (by kernel_rfl) (by kernel_rfl) (by kernel_rfl) (fun _ _ _ h => h) (Or.inl ⟨by rfl, fun w' hw' => ?_⟩) hHeld ?_
      · first | (go_simp; done) | (have s0 := hw'; go_simp)
      try simp only [Act.put, List.setIfInBounds_toArray, List.set_cons_zero, List.set_cons_succ]
      refine takeW (i := 2) (v := .pointer (some ⟨w.heap.size, 3, none⟩)) (some 35) rfl rfl (by kernel_rfl) (by kernel_rfl) (by kernel_rfl) (fun _ _ _ h => h) (Or.inl ⟨by rfl, fun w' hw' => ?_⟩) hHeld ?_
      · first | (go_simp; done) | (have s0 := hw'; go_simp)
      try simp only [Act.put, List.setIfInBounds_toArray, List.set_cons_zero, List.set_cons_succ]
      refine takeW (i := 3) (v := .int .i64 r.bound) (some 36) rfl rfl (by kernel_rfl) (by kernel_rfl) (by kernel_rfl) (fun _ _ _ h => h) (Or.inl ⟨by rfl, fun w' hw' => ?_⟩) hHeld ?_
      · first | (go_simp; done) | (have s0 := hw'; go_simp)
      try simp only [Act.put, List.setIfInBounds_toArray, List.set_cons_zero, List.set_cons_succ]
      refine wpAnyH_ready (rs := [1]) (by kernel_rfl) (by simp) ?_
      refine AllReadyH.cons rfl (fun K hK => ?_) AllReadyH.nil
      go_simp
      refine hTG.mono ?_
      rintro e w3 ⟨rfl, b3⟩
      have B3 := K0.trans (b3.mono (show w.heap.size + 2 ≤ wr.drew.heap.size from szB wr hb))
      refine hK.out _ _ (keep1 _ B3) (fun hHeld => ?_)
      clear hK K hTG
      try simp only [Act.put, List.setIfInBounds_toArray, List.set_cons_zero, List.set_cons_succ]
      refine takeW (i := 4) (v := .int .i64 (S - r.bound)) (some 37) rfl rfl (by kernel_rfl) (by kernel_rfl) (by kernel_rfl) (fun _ _ _ h => h) (Or.inl ⟨by rfl, fun w' hw' => ?_⟩) hHeld ?_
      · first | (go_simp; done) | (have s0 := hw'; go_simp)
      try simp only [Act.put, List.setIfInBounds_toArray, List.set_cons_zero, List.set_cons_succ]
      refine takeW (i := 5) (v := .int .i64 (S - r.bound)) (some 6) rfl rfl (by kernel_rfl) (by kernel_rfl) (by kernel_rfl) (fun _ _ _ h => h) (Or.inl ⟨by rfl, fun w' hw' => ?_⟩) hHeld ?_
      · first | (go_simp; done) | (have s0 := hw'; go_simp)
      try simp only [Act.put, List.setIfInBounds_toArray, List.set_cons_zero, List.set_cons_succ]
      refine wpAnyH_done (by kernel_rfl) ?_ _
      have o3 := (ho.later (Below.refl wr.heap.size wr).drew).later b3
      clear keep1 K0 hb b3 ho hHeld
      by_cases hneg : S - r.bound < 0
      · have hT : Hid (tidyW r = none) := tidyW_2 (by omega) (hsn.1 hneg)
        have hd : decide (S - r.bound < 0) = true := decide_eq_true hneg
        obtain ⟨z0, z1, z2, z3, z4⟩ := cells5 (boxZ w3 B3)
        have hfz := fun j => frozen_of_row w3 (w.heap.size + 1) j _ _ (blkZ w3 B3)
        have HB := Lib.hid (allB w3 B3)
        have hs3 := szB w3 B3
        clear boxP blkP blkZ boxZ allB szB o3 B3
        go_wp2
        refine bodyPost_ret (v := .tuple #[.agg #[.bool false, .slice none 0 0, .bool false, .int .i64 0, .slice none 0 0], .bool false])
          (by simp [results, Tryz.results75, go_sem, z0, z1, z2, z3, z4]) rfl ⟨_, false, rfl, .inl ⟨rfl, rfl, hT.out⟩, by
          repeat (refine Below.setCell ?_ (by simp; try omega) _)
          exact HB.out⟩
      · have hd : decide (S - r.bound < 0) = false := decide_eq_false hneg
        have hnb : Hid (¬ sumBut r.body 0 < r.bound) := fun h => hneg (hsn.2 h)
        have hEA := eachAbove_calls (S - r.bound) o3.rd
        rw [hen] at hEA
        clear hen hsn hneg
        go_wp2_with fail
        refine hEA.mono ?_
        rintro e w4 ⟨he, b4⟩
        have B4 := B3.trans (b4.mono (szB _ B3))
        have o4 := o3.later b4
        obtain ⟨x0, x1, x2, x3, x4⟩ := cells5 (boxP w4 B4)
        clear hEA o3 b4
        cases hna : needAll r
        · rw [hna] at he
          subst he
          by_cases hbig : r.bound ≤ 1000
          · have hT : Hid (tidyW r = some { r with body := zs }) := HZ4.out hnb.out hna hbig
            have hd2 : decide (1000 < r.bound) = false := decide_eq_false (by omega)
            have hfb := fun j => frozen_of_row w4 w.heap.size j _ _ (blkP w4 B4)
            have hfz := fun j => frozen_of_row w4 (w.heap.size + 1) j _ _ (blkZ w4 B4)
            obtain ⟨z0, z1, z2, z3, z4⟩ := cells5 (boxZ w4 B4)
            have HB := Lib.hid (Below.setCell (allB w4 B4) (p := ⟨w.heap.size, 4, none⟩) (Nat.le_refl _) (.slice av zs.length cv))
            have HO := Lib.hid ((o4.keep (w' := w4.setCell ⟨w.heap.size, 4, none⟩ (.slice av zs.length cv)) fun g _ hB _ => Below.heap_setCell _ _ _ _ (by show g ≠ w.heap.size; omega)).weak (B' := w.heap.size + 2) (D' := fun f => w.heap.size ≤ f) (Nat.le_refl _) fun f hf => by omega)
            have hs4 := szB w4 B4
            clear boxP blkP blkZ boxZ allB szB o4 B3 B4
            go_wp2
            refine bodyPost_ret (v := .tuple #[.agg #[.bool r.choice, .slice ah r.heads.length kh, .bool r.weight, .int .i64 r.bound, .slice av zs.length cv], .bool true])
              (by simp [results, Tryz.results75, go_sem, z0, z1, z2, z3, z4]) rfl ⟨_, true, rfl, .inr ⟨rfl, _, _, _, _, rfl, ?_, .inr ⟨rfl, rfl, hT.out⟩⟩, ?_⟩
            · exact ((HO.out).keep fun g _ hB _ => (put_chg (w.heap.size + 1) [.bool r.choice, .slice ah r.heads.length kh, .bool r.weight, .int .i64 r.bound, .slice av zs.length cv] (w4.setCell ⟨w.heap.size, 4, none⟩ (.slice av zs.length cv)) 0).block g (by simp; omega)).weak (by omega) fun _ h => h
            · exact (HB.out).trans ((put_chg (w.heap.size + 1) [.bool r.choice, .slice ah r.heads.length kh, .bool r.weight, .int .i64 r.bound, .slice av zs.length cv] (w4.setCell ⟨w.heap.size, 4, none⟩ (.slice av zs.length cv)) 0).below fun g hg => by simp at hg; omega)
          · have hT : Hid (tidyW r = some { r with body := ordL r.body }) := tidyW_5 (by omega) (Int.not_lt.2 hnb.out) hna hbig
            have hd2 : decide (1000 < r.bound) = true := decide_eq_true (by omega)
            have hIO := inOrder_calls (w := w4) (Rd.mono (α := List (Int × Int)) (allB w4 B4) h4) HW.out.big
            obtain ⟨os, hos⟩ : ∃ os, os = ordL r.body := ⟨_, rfl⟩
            rw [← hos] at hIO hT
            clear hos
            go_wp2_with fail
            refine hIO.mono ?_
            rintro e w5 ⟨v5, rfl, o5, b5⟩
            have B5 := B4.trans (b5.mono (szB _ B4))
            obtain ⟨a5, k5, rfl, _, _⟩ := o5.rd.sl
            clear hIO x0 x1 x2 x3 x4
            obtain ⟨x0, x1, x2, x3, x4⟩ := cells5 (boxP w5 B5)
            have hfb := fun j => frozen_of_row w5 w.heap.size j _ _ (blkP w5 B5)
            have hfz := fun j => frozen_of_row w5 (w.heap.size + 1) j _ _ (blkZ w5 B5)
            obtain ⟨z0, z1, z2, z3, z4⟩ := cells5 (boxZ w5 B5)
            have HB := Lib.hid (Below.setCell (allB w5 B5) (p := ⟨w.heap.size, 4, none⟩) (Nat.le_refl _) (.slice a5 os.length k5))
            have hs4 := szB w4 B4
            have HO := Lib.hid ((o5.keep (w' := w5.setCell ⟨w.heap.size, 4, none⟩ (.slice a5 os.length k5)) fun g _ hB _ => Below.heap_setCell _ _ _ _ (by show g ≠ w.heap.size; omega)).weak (B' := w.heap.size + 2) (D' := fun f => w.heap.size ≤ f) (by omega) fun f hf => by omega)
            have hs5 := szB w5 B5
            clear boxP blkP blkZ boxZ allB szB o4 o5 b5 B3 B4 B5
            go_wp2
            refine bodyPost_ret (v := .tuple #[.agg #[.bool r.choice, .slice ah r.heads.length kh, .bool r.weight, .int .i64 r.bound, .slice a5 os.length k5], .bool true])
              (by simp [results, Tryz.results75, go_sem, z0, z1, z2, z3, z4]) rfl ⟨_, true, rfl, .inr ⟨rfl, _, _, _, _, rfl, ?_, .inr ⟨rfl, rfl, hT.out⟩⟩, ?_⟩
            · exact ((HO.out).keep fun g _ hB _ => (put_chg (w.heap.size + 1) [.bool r.choice, .slice ah r.heads.length kh, .bool r.weight, .int .i64 r.bound, .slice a5 os.length k5] (w5.setCell ⟨w.heap.size, 4, none⟩ (.slice a5 os.length k5)) 0).block g (by simp; omega)).weak (by omega) fun _ h => h
            · exact (HB.out).trans ((put_chg (w.heap.size + 1) [.bool r.choice, .slice ah r.heads.length kh, .bool r.weight, .int .i64 r.bound, .slice a5 os.length k5] (w5.setCell ⟨w.heap.size, 4, none⟩ (.slice a5 os.length k5)) 0).below fun g hg => by simp at hg; omega)
        · rw [hna] at he
          subst he
          have hT : Hid (WBg (onceL zs) ∧ tidyW r = tidyU r.choice r.heads (onceL zs)) := by
            rw [HON.out]
            exact ⟨once_big HW.out, by rw [tidyW_3 (by omega) (Int.not_lt.2 hnb.out) hna, tidyU_once HW.out.big.inR]⟩
          have hWW := withoutWeight_calls (ch := r.choice) (wt := r.weight) (bd := r.bound) (ah := ah) (nh := r.heads.length) (kh := kh) (ab := ab) (nb := r.body.length) (kb := kb) o4.rd HZB.out
          obtain ⟨os, hos⟩ : ∃ os, os = onceL zs := ⟨_, rfl⟩
          rw [← hos] at hWW hT
          clear hos
          go_wp2_with fail
          refine hWW.mono ?_
          rintro e w5 ⟨v5, rfl, o5, b5⟩
          have B5 := B4.trans (b5.mono (szB _ B4))
          obtain ⟨a5, k5, rfl, _, _⟩ := o5.rd.sl
          clear hWW x0 x1 x2 x3 x4
          have hfz := fun j => frozen_of_row w5 (w.heap.size + 1) j _ _ (blkZ w5 B5)
          obtain ⟨z0, z1, z2, z3, z4⟩ := cells5 (boxZ w5 B5)
          have HB := Lib.hid (allB w5 B5)
          have hs4 := szB w4 B4
          have HO := Lib.hid (o5.weak (B' := w.heap.size + 2) (D' := fun f => w.heap.size ≤ f) (by omega) fun f hf => by omega)
          have hs5 := szB w5 B5
          clear boxP blkP blkZ boxZ allB szB o4 o5 b5 B3 B4 B5
          go_wp2
          refine bodyPost_ret (v := .tuple #[.agg #[.bool r.choice, .slice ah r.heads.length kh, .bool false, .int .i64 0, .slice a5 os.length k5], .bool true])
            (by simp [results, Tryz.results75, go_sem, z0, z1, z2, z3, z4]) rfl ⟨_, true, rfl, .inr ⟨rfl, _, _, _, _, rfl, ?_, .inl ⟨rfl, rfl, hT.out⟩⟩, ?_⟩
          · exact ((HO.out).keep fun g _ hB _ => (put_chg (w.heap.size + 1) [.bool r.choice, .slice ah r.heads.length kh, .bool false, .int .i64 0, .slice a5 os.length k5] w5 0).block g (by simp; omega)).weak (by omega) fun _ h => h
          · exact (HB.out).trans ((put_chg (w.heap.size + 1) [.bool r.choice, .slice ah r.heads.length kh, .bool false, .int .i64 0, .slice a5 os.length k5] w5 0).below fun g hg => by simp at hg; omega)

/-! ### TidyRI -/
/-- The rule that is being tidied, in its box, ahead of what is done without Weight. -/
def TRI (lo hb : Nat) (wa : World) (r : RuleD) (s : Bool) (wx : World) : Prop :=
  Below lo wa wx ∧
  ((s = false ∧ wx.heap[hb]? = some (.cells #[.bool false, .slice none 0 0, .bool false, .int .i64 0, .slice none 0 0] 49 (0, 0)) ∧ tidyO r = none) ∨
   (s = true ∧ ∃ bd c1 c4 ys, wx.heap[hb]? = some (.cells #[.bool r.choice, c1, .bool false, .int .i64 bd, c4] 49 (0, 0)) ∧ RdL wx [c1] r.heads ∧ RdL wx [c4] ys ∧ WBg ys ∧ tidyO r = tidyU r.choice r.heads ys) ∨
   (s = true ∧ r.weight = true ∧ ∃ c1 c4 ys, wx.heap[hb]? = some (.cells #[.bool r.choice, c1, .bool true, .int .i64 r.bound, c4] 49 (0, 0)) ∧ OwnIn lo hb wx [c1] r.heads ∧ OwnIn (hb + 1) wx.heap.size wx [c4] ys ∧ tidyO r = some { r with body := ys }))
theorem heap5 {w : World} {g : Nat} {a0 a1 a2 a3 a4 b0 b1 b2 b3 b4 : Value} {t : TypeId} (h : w.heap[g]? = some (.cells #[a0, a1, a2, a3, a4] t (0, 0))) : (put w g 0 [b0, b1, b2, b3, b4]).heap[g]? = some (.cells #[b0, b1, b2, b3, b4] t (0, 0)) := by
  have e0 := heap_setCell_same w g 0 _ _ b0 h
  have e1 := heap_setCell_same _ g 1 _ _ b1 e0
  have e2 := heap_setCell_same _ g 2 _ _ b2 e1
  have e3 := heap_setCell_same _ g 3 _ _ b3 e2
  exact heap_setCell_same _ g 4 _ _ b4 e3
theorem cellsOf {w : World} {g : Nat} {cs : List Value} {t : TypeId} (h : w.heap[g]? = some (.cells cs.toArray t (0, 0))) : Cells w g 0 cs := fun j v hv => by
  rw [Nat.zero_add, cell_of_row w g j _ _ _ h]; simpa using hv

set_option maxHeartbeats 4000000 in
theorem implTidyRule_calls {cs : List Value} {r : RuleD} {w : World} (h : Rd.R w cs r) :
    Calls Tryz.prog 26 #[.agg cs.toArray] w fun e w' => ∃ cs', e = .returned (.tuple #[.agg cs'.toArray, .bool (tidyB r)]) ∧ Own w.heap.size w' cs' (tidyRR r) ∧ Below w.heap.size w w' := by
  have h0 := h
  obtain ⟨r1, r4, rfl, hfb, g1, g4⟩ := h0
  obtain ⟨ah, kh, rfl, _, hh⟩ := g1.sl
  obtain ⟨ab, kb, rfl, _, hbd⟩ := g4.sl
  have t0 : Below w.heap.size w ((w.alloc (.cells #[.bool r.choice, .slice ah r.heads.length kh, .bool r.weight, .int .i64 r.bound, .slice ab r.body.length kb] 49)).alloc (.cells #[.bool false, .slice none 0 0, .bool false, .int .i64 0, .slice none 0 0] 49)) := ((Below.refl _ _).alloc (by simp) _).alloc (by simp) _
  have CP := (Cells.new w [.bool r.choice, .slice ah r.heads.length kh, .bool r.weight, .int .i64 r.bound, .slice ab r.body.length kb] 49).alloc (.cells #[.bool false, .slice none 0 0, .bool false, .int .i64 0, .slice none 0 0] 49)
  have hb0 := alloc_block (w.alloc (.cells #[.bool r.choice, .slice ah r.heads.length kh, .bool r.weight, .int .i64 r.bound, .slice ab r.body.length kb] 49)) #[.bool false, .slice none 0 0, .bool false, .int .i64 0, .slice none 0 0] 49
  rw [World.size_alloc] at hb0
  cases hok : ruleOkB r 12
  · have HTB : Hid (tidyB r = false) := by show _ = _; unfold tidyB; rw [tidyO_no hok]; rfl
    have HTR : Hid (tidyRR r = default) := by show _ = _; unfold tidyRR; rw [tidyO_no hok]; rfl
    obtain ⟨y0, y1, y2, y3, y4⟩ := cells5 CP
    go_enter Tryz.func26, Tryz.ntmps26
    go_wp2_with fail
    refine (implRuleOk_calls 12 (Rd.mono t0 h)).mono ?_
    rintro e w1 ⟨he, b1⟩
    rw [hok] at he
    subst he
    clear y0 y1 y2 y3 y4
    have hZ1 := (b1.block (w.heap.size + 1) (by simp)).trans hb0
    obtain ⟨z0, z1, z2, z3, z4⟩ := cells5 (cellsOf hZ1)
    have hfz := fun j => frozen_of_row w1 (w.heap.size + 1) j _ _ hZ1
    have hz1 : w.heap.size + 1 < w1.heap.size := by have := b1.size; simp at this; omega
    have t1 := Lib.hid (t0.step b1)
    clear CP hok hZ1 hb0 t0 b1
    go_wp2
    refine bodyPost_ret (v := .tuple #[.agg #[.bool false, .slice none 0 0, .bool false, .int .i64 0, .slice none 0 0], .bool false])
      (by simp [results, Tryz.results26, go_sem, z0, z1, z2, z3, z4]) rfl ⟨_, by rw [HTB.out], by rw [HTR.out]; exact own_zeroR _ _, by
      repeat (refine Below.setCell ?_ (by simp; try omega) _)
      exact t1.out⟩
  have hwk := ruleOk_body hok
  have hhl := ruleOk_heads hok
  have hbl := hwk.1
  have hbnd := ruleOk_bound hok
  have HOK := Lib.hid hok
  have HWK := Lib.hid hwk
  obtain ⟨y0, y1, y2, y3, y4⟩ := cells5 CP
  go_enter Tryz.func26, Tryz.ntmps26
  go_wp2_with fail
  refine (implRuleOk_calls 12 (Rd.mono t0 h)).mono ?_
  rintro e w1 ⟨he, b1⟩
  rw [hok] at he
  subst he
  clear hok hwk y0 y1 y2 y3 y4
  have CP1 := CP.later b1
  have t1 := t0.step b1
  have hs1 : w.heap.size + 1 + 1 ≤ w1.heap.size := by have := b1.size; simpa using this
  obtain ⟨y0, y1, y2, y3, y4⟩ := cells5 CP1
  go_wp2_with fail
  clear y0 y1 y2 y3 y4
  refine (ruleCopied_calls (Rd.mono t1 h) (by omega) (by omega)).mono ?_
  rintro e w2 ⟨cs2, rfl, o2, b2⟩
  obtain ⟨fp, ⟨c1, c4, f1, f4, rfl, hfb', o1, o4, rfl, hn⟩, hlo⟩ := o2
  have hs2 : w1.heap.size ≤ w2.heap.size := b2.size
  have b12 := b1.step b2
  have t2 := t1.step b2
  have oH : OwnIn w1.heap.size w2.heap.size w2 [c1] r.heads := ⟨f1, o1, fun g hg => ⟨hlo g (List.mem_append_left _ hg), Ow.lt (α := List Int) o1 g hg⟩⟩
  have oB : RdL w2 [c4] r.body := o4.rd
  have st1 := sto Tryz.prog (oH.rd.one1)
  have st4 := sto Tryz.prog (oB.one1)
  go_upto_if 13 with fail
  clear st1 st4
  have b23 := (Below.refl w2.heap.size w2).alloc (Nat.le_refl _) (.cells #[.bool r.choice, c1, .bool r.weight, .int .i64 r.bound, c4] 49)
  have t3 := t2.alloc t2.size (.cells #[.bool r.choice, c1, .bool r.weight, .int .i64 r.bound, c4] 49)
  have hGa := alloc_block w2 #[.bool r.choice, c1, .bool r.weight, .int .i64 r.bound, c4] 49
  have oH := oH.later b23
  have oB := Rd.mono (α := List (Int × Int)) b23 oB
  have hbr3 := ((b23.block (w.heap.size + 1) (by omega)).trans (b12.block _ (by simp))).trans hb0
  have hza := World.size_alloc w2 (.cells #[.bool r.choice, c1, .bool r.weight, .int .i64 r.bound, c4] 49)
  generalize w2.alloc (.cells #[.bool r.choice, c1, .bool r.weight, .int .i64 r.bound, c4] 49) = wa at b23 t3 hGa oH oB hbr3 hza ⊢
  obtain ⟨hb, hhb⟩ : ∃ hb, hb = w2.heap.size := ⟨_, rfl⟩
  obtain ⟨lo, hlo'⟩ : ∃ lo, lo = w1.heap.size := ⟨_, rfl⟩
  rw [← hhb, ← hlo'] at oH
  rw [← hhb] at hGa hza ⊢
  have hlb : lo ≤ hb := by omega
  have hlw : w.heap.size + 1 < lo := by omega
  have hza' : wa.heap.size = hb + 1 := hza
  have hzl : hb < wa.heap.size := by omega
  clear hhb hlo' hza CP CP1 b1 b2 b12 b23 t0 t1 t2 hs1 hs2 o1 o4 hn hlo hb0
  have HZA := Lib.hid hza'
  clear hza'
  obtain ⟨wt, hwt⟩ : ∃ wt, wt = r.weight := ⟨_, rfl⟩
  rw [← hwt] at hGa ⊢
  have HWT := Lib.hid hwt
  clear hwt h
  obtain ⟨y0, y1, y2, y3, y4⟩ := cells5 (cellsOf hGa)
  go_cut [5] (fun v5 wx => ∃ s, v5 = .bool s ∧ TRI lo hb wa r s wx)
  case first =>
    cases wt
    case false =>
      have HT : Hid (TRI lo hb wa r true wa) := ⟨Below.refl _ _, .inr (.inl ⟨rfl, r.bound, c1, c4, r.body, hGa, oH.rd, oB, HWK.out.big, tidyO_U HOK.out HWT.out.symm⟩)⟩
      go_wp2
      go_meet
      exact ⟨true, rfl, HT.out⟩
    case true =>
      have hTW := tidyWeighted_calls (r := r) oH.rd oB HWK.out hbnd
      rw [← HWT.out] at hTW
      have hW : r.weight = true := HWT.out.symm
      have hTO := tidyO_W HOK.out hW
      have HW := Lib.hid hW
      clear hW
      go_wp2_with fail
      clear y0 y1 y2 y3 y4
      refine hTW.mono ?_
      rintro e w3 ⟨cs3, s, rfl, hT, b3⟩
      have hG3 := (b3.block hb hzl).trans hGa
      have oH3 := oH.later b3
      obtain ⟨y0, y1, y2, y3, y4⟩ := cells5 (cellsOf hG3)
      have hfb := fun j => frozen_of_row w3 hb j _ _ hG3
      have z3 := b3.size
      rcases hT with ⟨rfl, rfl, hn⟩ | ⟨rfl, wt', bd', v, ys, rfl, ho, hT⟩
      · have HT : Hid (TRI lo hb wa r false (put w3 hb 0 [.bool false, .slice none 0 0, .bool false, .int .i64 0, .slice none 0 0])) :=
          ⟨(b3.mono (by omega)).trans ((put_chg hb [.bool false, .slice none 0 0, .bool false, .int .i64 0, .slice none 0 0] w3 0).below fun g hg => by simp at hg; omega), .inl ⟨rfl, heap5 hG3, by rw [hTO, hn]⟩⟩
        clear oH3 hG3 hTW hGa oH oB b3 hTO hn
        go_wp2
        go_meet
        exact ⟨false, rfl, HT.out⟩
      · obtain ⟨av, cv, rfl, _, _⟩ := ho.rd.sl
        have hch := put_chg hb [.bool r.choice, c1, .bool wt', .int .i64 bd', .slice av ys.length cv] w3 0
        have hB : Below lo wa (put w3 hb 0 [.bool r.choice, c1, .bool wt', .int .i64 bd', .slice av ys.length cv]) := (b3.mono (by omega)).trans (hch.below fun g hg => by simp at hg; omega)
        have hO5 : OwnIn (hb + 1) (put w3 hb 0 [.bool r.choice, c1, .bool wt', .int .i64 bd', .slice av ys.length cv]).heap.size (put w3 hb 0 [.bool r.choice, c1, .bool wt', .int .i64 bd', .slice av ys.length cv]) [.slice av ys.length cv] ys := by
          have := (ho.keep (w' := put w3 hb 0 [.bool r.choice, c1, .bool wt', .int .i64 bd', .slice av ys.length cv]) fun g _ hB _ => hch.block g (by have := HZA.out; simp; omega)).ownIn
          exact this.mono (by have := HZA.out; omega) (Nat.le_refl _)
        have oH5 : OwnIn lo hb (put w3 hb 0 [.bool r.choice, c1, .bool wt', .int .i64 bd', .slice av ys.length cv]) [c1] r.heads := by
          obtain ⟨f, o, l⟩ := oH3
          exact ⟨f, Ow.kept o fun g hg => hch.block g (by have := l g hg; simp; omega), l⟩
        have st1 := sto Tryz.prog (oH3.rd.one1)
        have HT : Hid (TRI lo hb wa r true (put w3 hb 0 [.bool r.choice, c1, .bool wt', .int .i64 bd', .slice av ys.length cv])) := by
          refine ⟨hB, .inr ?_⟩
          rcases hT with ⟨rfl, rfl, hwb, ht⟩ | ⟨rfl, rfl, ht⟩
          · exact .inl ⟨rfl, 0, c1, _, ys, heap5 hG3, oH5.rd, hO5.rd, hwb, by rw [hTO, ht]⟩
          · refine .inr ⟨rfl, HW.out, c1, _, ys, ?_, oH5, hO5, by rw [hTO, ht]⟩
            have := heap5 (b0 := .bool r.choice) (b1 := c1) (b2 := .bool r.weight) (b3 := .int .i64 r.bound) (b4 := .slice av ys.length cv) hG3
            rw [this, HW.out]
        clear oH3 hG3 hTW hGa oH oB b3 hTO hT hO5 oH5 hB hch ho
        go_wp2
        go_meet
        exact ⟨true, rfl, HT.out⟩
  case rest =>
    clear y0 y1 y2 y3 y4
    obtain ⟨s, rfl, hB, hcut⟩ := hcut
    have tw := Lib.hid (t3.trans (hB.mono (by omega)))
    have hZ := (hB.block (w.heap.size + 1) hlw).trans hbr3
    have hzs : hb < wc.heap.size := by have := hB.size; omega
    obtain ⟨z0, z1, z2, z3, z4⟩ := cells5 (cellsOf hZ)
    have hfz := fun j => frozen_of_row wc (w.heap.size + 1) j _ _ hZ
    rcases hcut with ⟨rfl, hG, hT⟩ | ⟨rfl, bd, d1, d4, ys, hG, r1, r4, hwb, hT⟩ | ⟨rfl, hW, d1, d4, ys, hG, r1, r4, hT⟩
    · have HTB : Hid (tidyB r = false) := by show _ = _; unfold tidyB; rw [hT]; rfl
      have HTR : Hid (tidyRR r = default) := by show _ = _; unfold tidyRR; rw [hT]; rfl
      obtain ⟨y0, y1, y2, y3, y4⟩ := cells5 (cellsOf hG)
      clear hG hT hZ hB t3 hGa oH oB hbr3
      go_wp2
      refine bodyPost_ret (v := .tuple #[.agg #[.bool false, .slice none 0 0, .bool false, .int .i64 0, .slice none 0 0], .bool false])
        (by simp [results, Tryz.results26, go_sem, z0, z1, z2, z3, z4]) rfl ⟨_, by rw [HTB.out], by rw [HTR.out]; exact own_zeroR _ _, by
        repeat (refine Below.setCell ?_ (by simp; try omega) _)
        exact tw.out⟩
    · have HTB : Hid (tidyB r = (tidyU r.choice r.heads ys).isSome) := by show _ = _; unfold tidyB; rw [hT]
      have HTR : Hid (tidyRR r = (tidyU r.choice r.heads ys).getD default) := by show _ = _; unfold tidyRR; rw [hT]
      have hU := tidyUnweighted_calls (ch := r.choice) (wt := false) (bd := bd) r1 r4 hwb (ruleOk_set HOK.out)
      obtain ⟨y0, y1, y2, y3, y4⟩ := cells5 (cellsOf hG)
      have so1 := sto Tryz.prog r1.one1
      have so4 := sto Tryz.prog r4.one1
      clear hT t3 hGa oH oB hbr3 z0 z1 z2 z3 z4 hfz
      go_wp2_with fail
      clear y0 y1 y2 y3 y4 so1 so4
      refine hU.mono ?_
      rintro e w5 ⟨cs5, rfl, o5, b5⟩
      obtain ⟨e0, e1, e2, e3, e4, rfl⟩ := list5 (Rd.len o5.rd)
      have lx := Rd.one o5.rd
      have st0 := sto Tryz.prog (lx e0 (by simp))
      have st1 := sto Tryz.prog (lx e1 (by simp))
      have st2 := sto Tryz.prog (lx e2 (by simp))
      have st3 := sto Tryz.prog (lx e3 (by simp))
      have st4 := sto Tryz.prog (lx e4 (by simp))
      have hG5 := (b5.block hb hzs).trans hG
      have hZ5 := (b5.block (w.heap.size + 1) (by omega)).trans hZ
      obtain ⟨y0, y1, y2, y3, y4⟩ := cells5 (cellsOf hG5)
      obtain ⟨z0, z1, z2, z3, z4⟩ := cells5 (cellsOf hZ5)
      have hfz5 := fun j => frozen_of_row w5 (w.heap.size + 1) j _ _ hZ5
      have hfb5 := fun j => frozen_of_row w5 hb j _ _ hG5
      have tw5 := Lib.hid (tw.out.step b5)
      have hne : w.heap.size + 1 ≠ hb := by omega
      have hne2 : hb ≠ w.heap.size + 1 := by omega
      have HF : Hid (Own w.heap.size (put (put w5 hb 0 [e0, e1, e2, e3, e4]) (w.heap.size + 1) 0 [e0, e1, e2, e3, e4]) [e0, e1, e2, e3, e4] ((tidyU r.choice r.heads ys).getD default)) := by
        obtain ⟨fpo, hO, hl⟩ := o5
        exact ⟨fpo, Ow.kept hO fun g hg => ((put_chg (w.heap.size + 1) [e0, e1, e2, e3, e4] _ 0).block g (by have := hl g hg; simp; omega)).trans ((put_chg hb [e0, e1, e2, e3, e4] w5 0).block g (by have := hl g hg; simp; omega)), fun g hg => by have := hl g hg; omega⟩
      clear hU o5 lx hG5 hZ5 hZ hG hB b5 r1 r4 hwb
      go_wp2
      refine bodyPost_ret (v := .tuple #[.agg #[e0, e1, e2, e3, e4], .bool (tidyU r.choice r.heads ys).isSome])
        (by simp [results, Tryz.results26, go_sem, z0, z1, z2, z3, z4, hne, hne2]) rfl ⟨_, by rw [HTB.out], by rw [HTR.out]; exact HF.out, ?_⟩
      exact (tw5.out.trans ((put_chg hb [e0, e1, e2, e3, e4] w5 0).below (lo := w.heap.size) fun g hg => by simp at hg; omega)).trans ((put_chg (w.heap.size + 1) [e0, e1, e2, e3, e4] _ 0).below fun g hg => by simp at hg; omega)
    · have HTB : Hid (tidyB r = true) := by show _ = _; unfold tidyB; rw [hT]; rfl
      have HTR : Hid (tidyRR r = { r with body := ys }) := by show _ = _; unfold tidyRR; rw [hT]; rfl
      obtain ⟨y0, y1, y2, y3, y4⟩ := cells5 (cellsOf hG)
      have so1 := sto Tryz.prog r1.rd.one1
      have so4 := sto Tryz.prog r4.rd.one1
      have HF : Hid (Own w.heap.size (put wc (w.heap.size + 1) 0 [.bool r.choice, d1, .bool true, .int .i64 r.bound, d4]) [.bool r.choice, d1, .bool true, .int .i64 r.bound, d4] ({ r with body := ys } : RuleD)) := by
        obtain ⟨fpo, hO, hl⟩ := own_rule3 (x := ({ r with body := ys } : RuleD)) r1 r4 (.inl (by omega)) hfb
        have hcell : Value.bool ({ r with body := ys } : RuleD).weight = Value.bool true := by rw [← hW]
        rw [hcell] at hO
        have hl : ∀ g ∈ fpo, (lo ≤ g ∧ g < hb) ∨ (hb + 1 ≤ g ∧ g < wc.heap.size) := hl
        exact ⟨fpo, Ow.kept hO fun g hg => (put_chg (w.heap.size + 1) [.bool r.choice, d1, .bool true, .int .i64 r.bound, d4] wc 0).block g (by have := hl g hg; simp; omega), fun g hg => by have := hl g hg; omega⟩
      clear hG hT hZ hB t3 hGa oH oB hbr3 r1 r4
      go_wp2
      refine bodyPost_ret (v := .tuple #[.agg #[.bool r.choice, d1, .bool true, .int .i64 r.bound, d4], .bool true])
        (by simp [results, Tryz.results26, go_sem, z0, z1, z2, z3, z4]) rfl ⟨_, by rw [HTB.out], by rw [HTR.out]; exact HF.out, ?_⟩
      exact tw.out.trans ((put_chg (w.heap.size + 1) [.bool r.choice, d1, .bool true, .int .i64 r.bound, d4] wc 0).below fun g hg => by simp at hg; omega)

end Go.Proofs.YtmndmhnhcoblnaaGreat
