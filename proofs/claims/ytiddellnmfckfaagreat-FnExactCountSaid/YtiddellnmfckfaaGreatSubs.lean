/-
  The parts of a set, one behind the other: pure. No condition of its own.
-/
import Derived.Test.YtiddellnmfckfaaGreatMadeD
import Derived.Test.YtiddellnmfckfaaGreatAnsD
import Derived.Test.YtiddellnmfckfaaGreatAnsS
namespace Go.Proofs.YtiddellnmfckfaaGreat
set_option linter.unusedVariables false
set_option linter.unusedSimpArgs false
open Go.RowKit
set_option maxRecDepth 100000

theorem bit_and (a b x y : Nat) (hx : x < 2) (hy : y < 2) : (2 * a + x) &&& (2 * b + y) = 2 * (a &&& b) + (if x = 1 ∧ y = 1 then 1 else 0) := by
  have h1 : ((2 * a + x) &&& (2 * b + y)) / 2 = a &&& b := by rw [Nat.and_div_two, show (2 * a + x) / 2 = a by omega, show (2 * b + y) / 2 = b by omega]
  have h2 := Nat.and_mod_two_eq_one (a := 2 * a + x) (b := 2 * b + y)
  rw [show (2 * a + x) % 2 = x by omega, show (2 * b + y) % 2 = y by omega] at h2
  split
  · rename_i h; have := h2.2 h; omega
  · rename_i h; have : ¬ ((2 * a + x) &&& (2 * b + y)) % 2 = 1 := fun k => h (h2.1 k); omega
theorem bit_or (a b x y : Nat) (hx : x < 2) (hy : y < 2) : (2 * a + x) ||| (2 * b + y) = 2 * (a ||| b) + (if x = 1 ∨ y = 1 then 1 else 0) := by
  have h1 : ((2 * a + x) ||| (2 * b + y)) / 2 = a ||| b := by rw [Nat.or_div_two, show (2 * a + x) / 2 = a by omega, show (2 * b + y) / 2 = b by omega]
  have h2 := Nat.or_mod_two_eq_one (a := 2 * a + x) (b := 2 * b + y)
  rw [show (2 * a + x) % 2 = x by omega, show (2 * b + y) % 2 = y by omega] at h2
  split
  · rename_i h; have := h2.2 h; omega
  · rename_i h; have : ¬ ((2 * a + x) ||| (2 * b + y)) % 2 = 1 := fun k => h (h2.1 k); omega
/-- p is a part of s, in bits. -/
def SubM (p s : Nat) : Prop := p &&& s = p
instance (p s : Nat) : Decidable (SubM p s) := by unfold SubM; infer_instance
theorem subM_bits {a b x y : Nat} (hx : x < 2) (hy : y < 2) : SubM (2 * a + x) (2 * b + y) ↔ SubM a b ∧ (x = 1 → y = 1) := by
  unfold SubM
  rw [bit_and a b x y hx hy]
  split <;> omega
def nxtX (K s p : Nat) : Nat := (p ||| (2 ^ K - 1 - s)) + 1
def nxtM (K s p : Nat) : Nat := nxtX K s p &&& s
theorem or_and_part {p c s : Nat} (h : SubM p s) (hc : c &&& s = 0) : (p ||| c) &&& s = p := by
  rw [Nat.and_comm, Nat.and_or_distrib_left, Nat.and_comm s p, Nat.and_comm s c, hc, h]; simp
theorem compl_and {K s : Nat} (h : s < 2 ^ K) : (2 ^ K - 1 - s) &&& s = 0 := by
  apply Nat.eq_of_testBit_eq
  intro i
  rw [Nat.testBit_and, show 2 ^ K - 1 - s = 2 ^ K - (s + 1) by omega, Nat.testBit_two_pow_sub_succ h]
  cases Nat.testBit s i <;> simp
theorem nxt_spec : ∀ (K s p : Nat), s < 2 ^ K → p < 2 ^ K → SubM p s → p ≠ s → nxtX K s p < 2 ^ K ∧ p < nxtM K s p ∧ SubM (nxtM K s p) s ∧ ∀ t, p < t → t < nxtM K s p → ¬ SubM t s
  | 0, s, p, hs, hp, _, hne => by simp at hs hp; omega
  | K + 1, s, p, hs, hp, hsub, hne => by
    obtain ⟨s', b, hb, rfl⟩ : ∃ s' b, b < 2 ∧ s = 2 * s' + b := ⟨s / 2, s % 2, by omega, by omega⟩
    obtain ⟨p', e, he, rfl⟩ : ∃ p' e, e < 2 ∧ p = 2 * p' + e := ⟨p / 2, p % 2, by omega, by omega⟩
    rw [Nat.pow_succ] at hs hp
    have hs' : s' < 2 ^ K := by omega
    have hp' : p' < 2 ^ K := by omega
    obtain ⟨hsub', hbe⟩ := (subM_bits he hb).1 hsub
    have hC : 2 ^ (K + 1) - 1 - (2 * s' + b) = 2 * (2 ^ K - 1 - s') + (1 - b) := by rw [Nat.pow_succ]; omega
    have hor : p' ||| (2 ^ K - 1 - s') < 2 ^ K := Nat.or_lt_two_pow hp' (by have := Nat.two_pow_pos K; omega)
    have ht : ∀ n' : Nat, (∀ t, p' < t → t < n' → ¬ SubM t s') → ∀ t, 2 * p' + e < t → t < 2 * n' → (b = 0 ∨ e = 1) → ¬ SubM t (2 * s' + b) := fun n' h t h1 h2 h3 h4 => by
      obtain ⟨t', f, hf, rfl⟩ : ∃ t' f, f < 2 ∧ t = 2 * t' + f := ⟨t / 2, t % 2, by omega, by omega⟩
      obtain ⟨k1, k2⟩ := (subM_bits hf hb).1 h4
      exact h t' (by omega) (by omega) k1
    unfold nxtM nxtX
    rw [hC, Nat.pow_succ, bit_or _ _ _ _ he (by omega)]
    by_cases hcase : b = 0 ∨ e = 1
    · obtain ⟨i1, i2, i3, i4⟩ := nxt_spec K s' p' hs' hp' hsub' (by omega)
      unfold nxtM nxtX at i2 i3 i4
      unfold nxtX at i1
      have hX : 2 * (p' ||| (2 ^ K - 1 - s')) + (if e = 1 ∨ 1 - b = 1 then 1 else 0) + 1 = 2 * ((p' ||| (2 ^ K - 1 - s')) + 1) + 0 := by
        rw [if_pos (by omega)]; omega
      rw [hX, bit_and _ _ _ _ (by omega) hb]
      simp only [show ¬ ((0 : Nat) = 1 ∧ b = 1) by omega, if_false, Nat.add_zero]
      generalize ((p' ||| (2 ^ K - 1 - s')) + 1) &&& s' = n' at *
      refine ⟨by omega, by omega, ?_, fun t h1 h2 => ht n' i4 t h1 h2 hcase⟩
      have := (subM_bits (a := n') (b := s') (x := 0) (y := b) (by omega) hb).2 ⟨i3, by omega⟩
      exact this
    · obtain rfl : b = 1 := by omega
      obtain rfl : e = 0 := by omega
      have hX : 2 * (p' ||| (2 ^ K - 1 - s')) + (if (0 : Nat) = 1 ∨ 1 - 1 = 1 then 1 else 0) + 1 = 2 * (p' ||| (2 ^ K - 1 - s')) + 1 := by
        rw [if_neg (by omega)]
      rw [hX, bit_and _ _ _ _ (by omega) (by omega), if_pos ⟨rfl, rfl⟩, or_and_part hsub' (compl_and hs')]
      refine ⟨by omega, by omega, (subM_bits (by omega) (by omega)).2 ⟨hsub', fun _ => rfl⟩, fun t h1 h2 => by omega⟩

/-- The parts of s that are less than n. -/
def subsTo (s n : Nat) : List Nat := (List.range n).filter fun m => decide (SubM m s)
theorem subsTo_succ {s n : Nat} (h : SubM n s) : subsTo s (n + 1) = subsTo s n ++ [n] := by
  unfold subsTo; rw [List.range_succ, List.filter_append]; simp [h]
theorem subsTo_skip {s n : Nat} : ∀ {m : Nat}, n ≤ m → (∀ t, n ≤ t → t < m → ¬ SubM t s) → subsTo s m = subsTo s n
  | 0, h, _ => by rw [show n = 0 by omega]
  | m + 1, h, k => by
    rcases Nat.eq_or_lt_of_le h with rfl | h
    · rfl
    · have := subsTo_skip (n := n) (m := m) (by omega) fun t h1 h2 => k t h1 (by omega)
      rw [← this]
      unfold subsTo
      rw [List.range_succ, List.filter_append]
      simp [k m (by omega) (by omega)]
theorem subM_le {p s : Nat} (h : SubM p s) : p ≤ s := by rw [← h]; exact Nat.and_le_right
theorem subM_self (s : Nat) : SubM s s := Nat.and_self s
theorem subM_zero (s : Nat) : SubM 0 s := Nat.zero_and s
theorem subsTo_len (s n : Nat) : (subsTo s n).length ≤ n := by unfold subsTo; exact Nat.le_trans (List.length_filter_le _ _) (by simp)

/-- Two ways to sieve the numbers. -/
theorem range_filter {a b : Nat} {f g : Nat → Bool} (h : ∀ k, (k < a ∧ f k = true) ↔ (k < b ∧ g k = true)) : (List.range a).filter f = (List.range b).filter g := by
  have key : ∀ (n m : Nat) (f : Nat → Bool), n ≤ m → (List.range n).filter f = (List.range m).filter (fun k => decide (k < n) && f k) := by
    intro n m f hnm
    induction m with
    | zero => obtain rfl : n = 0 := by omega
              rfl
    | succ m ih =>
      rcases Nat.eq_or_lt_of_le hnm with rfl | hlt
      · apply List.filter_congr
        intro k hk
        rw [decide_eq_true (by simpa using hk), Bool.true_and]
      · rw [ih (by omega), List.range_succ, List.filter_append]
        have : decide (m < n) = false := decide_eq_false (by omega)
        simp [this]
  rw [key a (max a b) f (by omega), key b (max a b) g (by omega)]
  apply List.filter_congr
  intro k _
  rw [Bool.eq_iff_iff]
  simpa using h k
theorem ansTo_filter (q : ProgD) : ∀ n, ansTo q n = ((List.range n).filter fun k => ansB q (setN k)).map setN
  | 0 => rfl
  | n + 1 => by
    have ih := ansTo_filter q n
    rw [List.range_succ, List.filter_append, List.map_append, ← ih]
    cases h : ansB q (setN n)
    · rw [ansTo_no h]; simp [h]
    · rw [ansTo_yes h]; simp [h]

end Go.Proofs.YtiddellnmfckfaaGreat
