/-
  The parts of a set and the answers among the parts of the heads: pure. No condition of its own.
-/
import Derived.Test.YtleimijgpmoifaaGreatMadeD
import Derived.Test.YtleimijgpmoifaaGreatAnsD
import Derived.Test.YtleimijgpmoifaaGreatAnsS
import Derived.Test.YtleimijgpmoifaaGreatAnsI
namespace Go.Proofs.YtleimijgpmoifaaGreat
set_option linter.unusedVariables false
set_option linter.unusedSimpArgs false
open Go.RowKit
set_option maxRecDepth 100000

/-! ### Subs -/
theorem bit_and (a b x y : Nat) (hx : x < 2) (hy : y < 2) : (2 * a + x) &&& (2 * b + y) = 2 * (a &&& b) + (if x = 1 ∧ y = 1 then 1 else 0) := by
  have h1 : ((2 * a + x) &&& (2 * b + y)) / 2 = a &&& b := by rw [Nat.and_div_two, show (2 * a + x) / 2 = a by omega, show (2 * b + y) / 2 = b by omega]
  have h2 := Nat.and_mod_two_eq_one (a := 2 * a + x) (b := 2 * b + y)
  rw [show (2 * a + x) % 2 = x by omega, show (2 * b + y) % 2 = y by omega] at h2
  split
  · rename_i h; have := h2.2 h; omega
  · rename_i h; have : ¬ ((2 * a + x) &&& (2 * b + y)) % 2 = 1 := fun k => h (h2.1 k); omega
theorem bit_or (a b x y : Nat) (hx : x < 2) (hy : y < 2) : (2 * a + x) ||| (2 * b + y) = 2 * (a ||| b) + (if x = 1 ∨ y = 1 then 1 else 0) := by
  have h1 : ((2 * a + x) ||| (2 * b + y)) / 2 = a ||| b := by rw [Nat.or_div_two, show (2 * a + x) / 2 = a by omega, show (2 * b + y) / 2 = b by omega]
  have h2 := Nat.or_mod_two_eq_one (a := 2 * a + x) (b := 2 * b + y)
  rw [show (2 * a + x) % 2 = x by omega, show (2 * b + y) % 2 = y by omega] at h2
  split
  · rename_i h; have := h2.2 h; omega
  · rename_i h; have : ¬ ((2 * a + x) ||| (2 * b + y)) % 2 = 1 := fun k => h (h2.1 k); omega
/-- p is a part of s, in bits. -/
def SubM (p s : Nat) : Prop := p &&& s = p
instance (p s : Nat) : Decidable (SubM p s) := by unfold SubM; infer_instance
theorem subM_bits {a b x y : Nat} (hx : x < 2) (hy : y < 2) : SubM (2 * a + x) (2 * b + y) ↔ SubM a b ∧ (x = 1 → y = 1) := by
  unfold SubM
  rw [bit_and a b x y hx hy]
  split <;> omega
def nxtX (K s p : Nat) : Nat := (p ||| (2 ^ K - 1 - s)) + 1
def nxtM (K s p : Nat) : Nat := nxtX K s p &&& s
theorem or_and_part {p c s : Nat} (h : SubM p s) (hc : c &&& s = 0) : (p ||| c) &&& s = p := by
  rw [Nat.and_comm, Nat.and_or_distrib_left, Nat.and_comm s p, Nat.and_comm s c, hc, h]; simp
theorem compl_and {K s : Nat} (h : s < 2 ^ K) : (2 ^ K - 1 - s) &&& s = 0 := by
  apply Nat.eq_of_testBit_eq
  intro i
  rw [Nat.testBit_and, show 2 ^ K - 1 - s = 2 ^ K - (s + 1) by omega, Nat.testBit_two_pow_sub_succ h]
  cases Nat.testBit s i <;> simp
theorem nxt_spec : ∀ (K s p : Nat), s < 2 ^ K → p < 2 ^ K → SubM p s → p ≠ s → nxtX K s p < 2 ^ K ∧ p < nxtM K s p ∧ SubM (nxtM K s p) s ∧ ∀ t, p < t → t < nxtM K s p → ¬ SubM t s
  | 0, s, p, hs, hp, _, hne => by simp at hs hp; omega
  | K + 1, s, p, hs, hp, hsub, hne => by
    obtain ⟨s', b, hb, rfl⟩ : ∃ s' b, b < 2 ∧ s = 2 * s' + b := ⟨s / 2, s % 2, by omega, by omega⟩
    obtain ⟨p', e, he, rfl⟩ : ∃ p' e, e < 2 ∧ p = 2 * p' + e := ⟨p / 2, p % 2, by omega, by omega⟩
    rw [Nat.pow_succ] at hs hp
    have hs' : s' < 2 ^ K := by omega
    have hp' : p' < 2 ^ K := by omega
    obtain ⟨hsub', hbe⟩ := (subM_bits he hb).1 hsub
    have hC : 2 ^ (K + 1) - 1 - (2 * s' + b) = 2 * (2 ^ K - 1 - s') + (1 - b) := by rw [Nat.pow_succ]; omega
    have hor : p' ||| (2 ^ K - 1 - s') < 2 ^ K := Nat.or_lt_two_pow hp' (by have := Nat.two_pow_pos K; omega)
    have ht : ∀ n' : Nat, (∀ t, p' < t → t < n' → ¬ SubM t s') → ∀ t, 2 * p' + e < t → t < 2 * n' → (b = 0 ∨ e = 1) → ¬ SubM t (2 * s' + b) := fun n' h t h1 h2 h3 h4 => by
      obtain ⟨t', f, hf, rfl⟩ : ∃ t' f, f < 2 ∧ t = 2 * t' + f := ⟨t / 2, t % 2, by omega, by omega⟩
      obtain ⟨k1, k2⟩ := (subM_bits hf hb).1 h4
      exact h t' (by omega) (by omega) k1
    unfold nxtM nxtX
    rw [hC, Nat.pow_succ, bit_or _ _ _ _ he (by omega)]
    by_cases hcase : b = 0 ∨ e = 1
    · obtain ⟨i1, i2, i3, i4⟩ := nxt_spec K s' p' hs' hp' hsub' (by omega)
      unfold nxtM nxtX at i2 i3 i4
      unfold nxtX at i1
      have hX : 2 * (p' ||| (2 ^ K - 1 - s')) + (if e = 1 ∨ 1 - b = 1 then 1 else 0) + 1 = 2 * ((p' ||| (2 ^ K - 1 - s')) + 1) + 0 := by
        rw [if_pos (by omega)]; omega
      rw [hX, bit_and _ _ _ _ (by omega) hb]
      simp only [show ¬ ((0 : Nat) = 1 ∧ b = 1) by omega, if_false, Nat.add_zero]
      generalize ((p' ||| (2 ^ K - 1 - s')) + 1) &&& s' = n' at *
      refine ⟨by omega, by omega, ?_, fun t h1 h2 => ht n' i4 t h1 h2 hcase⟩
      have := (subM_bits (a := n') (b := s') (x := 0) (y := b) (by omega) hb).2 ⟨i3, by omega⟩
      exact this
    · obtain rfl : b = 1 := by omega
      obtain rfl : e = 0 := by omega
      have hX : 2 * (p' ||| (2 ^ K - 1 - s')) + (if (0 : Nat) = 1 ∨ 1 - 1 = 1 then 1 else 0) + 1 = 2 * (p' ||| (2 ^ K - 1 - s')) + 1 := by
        rw [if_neg (by omega)]
      rw [hX, bit_and _ _ _ _ (by omega) (by omega), if_pos ⟨rfl, rfl⟩, or_and_part hsub' (compl_and hs')]
      refine ⟨by omega, by omega, (subM_bits (by omega) (by omega)).2 ⟨hsub', fun _ => rfl⟩, fun t h1 h2 => by omega⟩

/-- The parts of s that are less than n. -/
def subsTo (s n : Nat) : List Nat := (List.range n).filter fun m => decide (SubM m s)
theorem subsTo_succ {s n : Nat} (h : SubM n s) : subsTo s (n + 1) = subsTo s n ++ [n] := by
  unfold subsTo; rw [List.range_succ, List.filter_append]; simp [h]
theorem subsTo_skip {s n : Nat} : ∀ {m : Nat}, n ≤ m → (∀ t, n ≤ t → t < m → ¬ SubM t s) → subsTo s m = subsTo s n
  | 0, h, _ => by rw [show n = 0 by omega]
  | m + 1, h, k => by
    rcases Nat.eq_or_lt_of_le h with rfl | h
    · rfl
    · have := subsTo_skip (n := n) (m := m) (by omega) fun t h1 h2 => k t h1 (by omega)
      rw [← this]
      unfold subsTo
      rw [List.range_succ, List.filter_append]
      simp [k m (by omega) (by omega)]
theorem subM_le {p s : Nat} (h : SubM p s) : p ≤ s := by rw [← h]; exact Nat.and_le_right
theorem subM_self (s : Nat) : SubM s s := Nat.and_self s
theorem subM_zero (s : Nat) : SubM 0 s := Nat.zero_and s
theorem subsTo_len (s n : Nat) : (subsTo s n).length ≤ n := by unfold subsTo; exact Nat.le_trans (List.length_filter_le _ _) (by simp)

/-- Two ways to sieve the numbers. -/
theorem range_filter {a b : Nat} {f g : Nat → Bool} (h : ∀ k, (k < a ∧ f k = true) ↔ (k < b ∧ g k = true)) : (List.range a).filter f = (List.range b).filter g := by
  have key : ∀ (n m : Nat) (f : Nat → Bool), n ≤ m → (List.range n).filter f = (List.range m).filter (fun k => decide (k < n) && f k) := by
    intro n m f hnm
    induction m with
    | zero => obtain rfl : n = 0 := by omega
              rfl
    | succ m ih =>
      rcases Nat.eq_or_lt_of_le hnm with rfl | hlt
      · apply List.filter_congr
        intro k hk
        rw [decide_eq_true (by simpa using hk), Bool.true_and]
      · rw [ih (by omega), List.range_succ, List.filter_append]
        have : decide (m < n) = false := decide_eq_false (by omega)
        simp [this]
  rw [key a (max a b) f (by omega), key b (max a b) g (by omega)]
  apply List.filter_congr
  intro k _
  rw [Bool.eq_iff_iff]
  simpa using h k
theorem ansTo_filter (q : ProgD) : ∀ n, ansTo q n = ((List.range n).filter fun k => ansB q (setN k)).map setN
  | 0 => rfl
  | n + 1 => by
    have ih := ansTo_filter q n
    rw [List.range_succ, List.filter_append, List.map_append, ← ih]
    cases h : ansB q (setN n)
    · rw [ansTo_no h]; simp [h]
    · rw [ansTo_yes h]; simp [h]

/-! ### Subs2 -/
theorem pow_atomsN {n : Int} (h0 : 0 ≤ n) (h1 : n ≤ 12) : 2 ^ n.toNat ≤ 4096 := by
  have : (2 : Nat) ^ n.toNat ≤ 2 ^ 12 := Nat.pow_le_pow_right (by omega) (by omega)
  omega
theorem rises_lt : ∀ {xs : List Int}, Rises xs → ∀ (i j : Nat), i < j → (hj : j < xs.length) → el xs i < el xs j
  | [], _, _, _, _, hj => absurd hj (by simp)
  | x :: r, h, i, 0, hij, _ => absurd hij (by omega)
  | x :: r, h, 0, j + 1, _, hj => by
    have hj' : j < r.length := by simpa using hj
    have e1 : el (x :: r) 0 = x := rfl
    have e2 : el (x :: r) (j + 1) = el r j := rfl
    rw [e1, e2]
    exact h.1 _ (el_mem hj')
  | x :: r, h, i + 1, j + 1, hij, hj => by
    have e1 : el (x :: r) (i + 1) = el r i := rfl
    have e2 : el (x :: r) (j + 1) = el r j := rfl
    rw [e1, e2]
    exact rises_lt h.2 i j (by omega) (by simpa using hj)
theorem setOk_rises {xs : List Int} {n : Int} (h0 : 0 ≤ n ∧ n ≤ 12) (h : Rises xs) (hb : ∀ y ∈ xs, 1 ≤ y ∧ y ≤ n) : setOkB xs n = true := by
  rw [setOkB_in h0]
  have : ∀ k, k ≤ xs.length → okTo xs n k = true := by
    intro k
    induction k with
    | zero => intro _; rfl
    | succ k ih =>
      intro hk
      have hs : okStep xs n k = true := by
        by_cases hz : k = 0
        · exact okStep_B (hb _ (el_mem (by omega))) hz
        · exact okStep_C (hb _ (el_mem (by omega))) (rises_lt h (k - 1) k (by omega) (by omega))
      simp only [okTo, ih (by omega), hs, Bool.and_self]
  exact this _ (Nat.le_refl _)

theorem hasM_sub {k h : Nat} {a : Int} (hs : SubM k h) (ha : 1 ≤ a ∧ a ≤ 12) (hk : hasM k a = true) : hasM h a = true := by
  have := hasM_and (a := k) (b := h) ha
  rw [show k &&& h = k from hs, hk] at this
  simpa using this.symm
theorem subM_has {k h : Nat} (hk : k < 4096) (hs : ∀ a : Int, 1 ≤ a → a ≤ 12 → hasM k a = true → hasM h a = true) : SubM k h := by
  have e : mset (k &&& h) = mset k := pickTo_congr fun a h1 h2 => by
    rw [hasM_and ⟨h1, by omega⟩]
    cases hh : hasM k a
    · rfl
    · rw [hs a h1 (by omega) hh]; rfl
  have h1 := mask_mset (m := k &&& h) (Nat.lt_of_le_of_lt Nat.and_le_left hk)
  rw [e, mask_mset hk] at h1
  exact h1.symm
theorem mask_small {k n : Nat} (hk : k < 4096) (hn : n ≤ 12) (h : ∀ a : Int, 1 ≤ a → a ≤ 12 → hasM k a = true → a ≤ n) : k < 2 ^ n := by
  have h1 := sum_bits k 12 (by omega)
  rw [Nat.mod_eq_of_lt (show k < 2 ^ 12 by omega)] at h1
  have h2 : ∀ m : Nat, n ≤ m → m ≤ 12 → sumTo (hasM k) m = sumTo (hasM k) n := by
    intro m h3 h4
    induction m with
    | zero => rw [show n = 0 by omega]
    | succ m ih =>
      rcases Nat.eq_or_lt_of_le h3 with rfl | h5
      · rfl
      · rw [← ih (by omega) (by omega)]
        have : hasM k ((m : Int) + 1) = false := by
          cases hh : hasM k ((m : Int) + 1)
          · rfl
          · have := h _ (by omega) (by omega) hh; omega
        simp [sumTo, this]
  rw [← h1, h2 12 hn (by omega), sum_bits k n hn]
  exact Nat.mod_lt _ (Nat.two_pow_pos n)

theorem heads_mem {rs : List RuleD} {a : Int} (ha : 1 ≤ a ∧ a ≤ 12) : ∀ {n : Nat}, n ≤ rs.length → (hasM (headsM rs n) a = true ↔ ∃ i, i < n ∧ hasB (nth rs i).heads a = true)
  | 0, _ => by simp [headsM, hasM]
  | n + 1, h => by
    have ih := heads_mem (rs := rs) ha (n := n) (by omega)
    rw [headsM, hasM_or ha, Bool.or_eq_true, ih, hasM_maskOf _ _ ha]
    constructor
    · rintro (⟨i, hi, hh⟩ | hh)
      · exact ⟨i, by omega, hh⟩
      · exact ⟨n, by omega, hh⟩
    · rintro ⟨i, hi, hh⟩
      rcases Nat.lt_or_ge i n with hin | hin
      · exact .inl ⟨i, hin, hh⟩
      · obtain rfl : i = n := by omega
        exact .inr hh
theorem least_heads {rs : List RuleD} {xs : List Int} (hw : Wts rs) : Sub (leastL rs xs false) (mset (headsM rs rs.length)) := by
  refine least_min hw fun r hr _ a h1 h2 ha => ?_
  obtain ⟨i, hi, rfl⟩ := List.getElem_of_mem hr
  rw [← nth_eq hi] at ha
  rw [hasB_mset ⟨h1, h2⟩, heads_mem ⟨h1, h2⟩ (Nat.le_refl _)]
  refine ⟨i, hi, ?_⟩
  cases hc : (nth rs i).choice
  · rwa [putL_F (by rw [hc]; rfl)] at ha
  · rw [putL_T (by rw [hc]; rfl), hasB_meet ⟨h1, h2⟩, Bool.and_eq_true] at ha
    exact ha.1

theorem setN_mset {k : Nat} (hk : k < 4096) : setN k = mset k := by
  unfold setN mset
  rw [← of_same]
  unfold setOf
  rw [if_pos ⟨by omega, by omega⟩, Int.toNat_natCast]
/-- The answers, as the program goes through them. -/
def ansP (q : ProgD) : List Nat := (subsTo (headsM q.rules q.rules.length) (headsM q.rules q.rules.length + 1)).filter fun k => ansQ q (mset k)
theorem ansP_eq {q : ProgD} (hok : progOkB q = true) : ansTo q (2 ^ q.atoms.toNat) = (ansP q).map mset := by
  obtain ⟨ha0, ha1⟩ := progOk_atoms hok
  have hpw := pow_atomsN ha0 ha1
  have hH := headsM_lt q.rules q.rules.length
  have hw := wts_ok (rules12 hok)
  have hle : ∀ a : Int, 1 ≤ a → a ≤ 12 → hasM (headsM q.rules q.rules.length) a = true → a ≤ q.atoms := by
    intro a h1 h2 h3
    obtain ⟨i, hi, hh⟩ := (heads_mem ⟨h1, h2⟩ (Nat.le_refl _)).1 h3
    have hr := (progOk_rules hok).2 _ (nth_mem hi)
    have hs : setOkB (nth q.rules i).heads q.atoms = true := by
      simp only [ruleOkB, headsB, Bool.and_eq_true] at hr
      exact hr.1.1
    rw [setOkB_in ⟨ha0, ha1⟩] at hs
    have := (okTo_take (Nat.le_refl _) hs).2.1 a (by rw [List.take_length]; exact of_decide_eq_true hh)
    exact this.2
  rw [ansTo_filter]
  unfold ansP subsTo
  rw [List.filter_filter]
  have e : (List.range (2 ^ q.atoms.toNat)).filter (fun k => ansB q (setN k)) = (List.range (headsM q.rules q.rules.length + 1)).filter (fun k => ansQ q (mset k) && decide (SubM k (headsM q.rules q.rules.length))) := by
    refine range_filter fun k => ?_
    constructor
    · rintro ⟨h1, h2⟩
      have hk : k < 4096 := by omega
      rw [setN_mset hk] at h2
      have hset : setOkB (mset k) q.atoms = true := by
        cases hh : setOkB (mset k) q.atoms
        · rw [ansB_A hh] at h2; cases h2
        · rfl
      rw [ansB_Q hset] at h2
      have h3 := h2
      simp only [ansQ, Bool.and_eq_true, decide_eq_true_eq] at h3
      have hsub : SubM k (headsM q.rules q.rules.length) := subM_has hk fun a a1 a2 hh => by
        have := least_heads (xs := mset k) hw a a1 a2 (by rw [h3.2, hasB_mset ⟨a1, a2⟩]; exact hh)
        rwa [hasB_mset ⟨a1, a2⟩] at this
      have := subM_le hsub
      exact ⟨by omega, by rw [h2, decide_eq_true hsub]; rfl⟩
    · rintro ⟨h1, h2⟩
      rw [Bool.and_eq_true, decide_eq_true_eq] at h2
      have hk : k < 4096 := by omega
      have hat : ∀ a : Int, 1 ≤ a → a ≤ 12 → hasM k a = true → a ≤ q.atoms := fun a a1 a2 hh => hle a a1 a2 (hasM_sub h2.2 ⟨a1, a2⟩ hh)
      have hset : setOkB (mset k) q.atoms = true := setOk_rises ⟨ha0, ha1⟩ (rises_pickTo _ _) fun y hy => by
        obtain ⟨y1, y2, y3⟩ := (mem_pickTo _ _ _).1 hy
        exact ⟨y1, hat y y1 (by omega) y3⟩
      refine ⟨mask_small hk (by omega) fun a a1 a2 hh => by have := hat a a1 a2 hh; omega, ?_⟩
      rw [setN_mset hk, ansB_Q hset]
      exact h2.1
  rw [e]
  apply List.map_congr_left
  intro k hk
  have hk := List.mem_range.1 (List.mem_filter.1 hk).1
  exact setN_mset (by omega)

end Go.Proofs.YtleimijgpmoifaaGreat
