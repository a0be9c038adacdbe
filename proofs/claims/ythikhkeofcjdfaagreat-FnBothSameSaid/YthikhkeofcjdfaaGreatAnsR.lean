/-
 The parts of a set and the answers among the parts of the heads (pure); ranges over a function; the answers as the program lists them. No condition of its own.
-/
import Derived.Test.YthikhkeofcjdfaaGreatMak
import Derived.Test.YthikhkeofcjdfaaGreatAnsD
import Derived.Test.YthikhkeofcjdfaaGreatAnsU
import Derived.Test.YthikhkeofcjdfaaGreatAnsJ
import Derived.Test.YthikhkeofcjdfaaGreatSeq
import Derived.Test.YthikhkeofcjdfaaGreatAppend
import Derived.Maps.AppendAt
import Derived.StillTailTactics
import Derived.Test.YthikhkeofcjdfaaGreatOwnR
namespace Go.Proofs.YthikhkeofcjdfaaGreat
set_option linter.unusedVariables false
set_option linter.unusedSimpArgs false
open Go.RowKit Go.Shelf
set_option maxRecDepth 100000

theorem bit_and (a b x y : Nat) (hx : x < 2) (hy : y < 2) : (2 * a + x) &&& (2 * b + y) = 2 * (a &&& b) + (if x = 1 ∧ y = 1 then 1 else 0) := by
 have h1 : ((2 * a + x) &&& (2 * b + y)) / 2 = a &&& b := by rw [Nat.and_div_two, show (2 * a + x) / 2 = a by omega, show (2 * b + y) / 2 = b by omega]
 have h2 := Nat.and_mod_two_eq_one (a := 2 * a + x) (b := 2 * b + y)
 rw [show (2 * a + x) % 2 = x by omega, show (2 * b + y) % 2 = y by omega] at h2
 split
 ·rename_i h; have := h2.2 h; omega
 ·rename_i h; have : ¬ ((2 * a + x) &&& (2 * b + y)) % 2 = 1 := fun k => h (h2.1 k); omega
theorem bit_or (a b x y : Nat) (hx : x < 2) (hy : y < 2) : (2 * a + x) ||| (2 * b + y) = 2 * (a ||| b) + (if x = 1 ∨ y = 1 then 1 else 0) := by
 have h1 : ((2 * a + x) ||| (2 * b + y)) / 2 = a ||| b := by rw [Nat.or_div_two, show (2 * a + x) / 2 = a by omega, show (2 * b + y) / 2 = b by omega]
 have h2 := Nat.or_mod_two_eq_one (a := 2 * a + x) (b := 2 * b + y)
 rw [show (2 * a + x) % 2 = x by omega, show (2 * b + y) % 2 = y by omega] at h2
 split
 ·rename_i h; have := h2.2 h; omega
 ·rename_i h; have : ¬ ((2 * a + x) ||| (2 * b + y)) % 2 = 1 := fun k => h (h2.1 k); omega
def SubM (p s : Nat) : Prop := p &&& s = p
instance (p s : Nat) : Decidable (SubM p s) := by unfold SubM; infer_instance
theorem subM_bits {a b x y : Nat} (hx : x < 2) (hy : y < 2) : SubM (2 * a + x) (2 * b + y) ↔ SubM a b ∧ (x = 1 → y = 1) := by
 unfold SubM
 rw [bit_and a b x y hx hy]
 split <;> omega
def nxtX (K s p : Nat) : Nat := (p ||| (2 ^ K - 1 - s)) + 1
def nxtM (K s p : Nat) : Nat := nxtX K s p &&& s
theorem or_and_part {p c s : Nat} (h : SubM p s) (hc : c &&& s = 0) : (p ||| c) &&& s = p := by
 rw [Nat.and_comm, Nat.and_or_distrib_left, Nat.and_comm s p, Nat.and_comm s c, hc, h]; simp
theorem compl_and {K s : Nat} (h : s < 2 ^ K) : (2 ^ K - 1 - s) &&& s = 0 := by
 apply Nat.eq_of_testBit_eq
 intro i
 rw [Nat.testBit_and, show 2 ^ K - 1 - s = 2 ^ K - (s + 1) by omega, Nat.testBit_two_pow_sub_succ h]
 cases Nat.testBit s i <;> simp
theorem nxt_spec : ∀ (K s p : Nat), s < 2 ^ K → p < 2 ^ K → SubM p s → p ≠ s → nxtX K s p < 2 ^ K ∧ p < nxtM K s p ∧ SubM (nxtM K s p) s ∧ ∀ t, p < t → t < nxtM K s p → ¬ SubM t s
 | 0, s, p, hs, hp, _, hne => by simp at hs hp; omega
 | K + 1, s, p, hs, hp, hsub, hne => by
  obtain ⟨s', b, hb, rfl⟩ : ∃ s' b, b < 2 ∧ s = 2 * s' + b := ⟨s / 2, s % 2, by omega, by omega⟩
  obtain ⟨p', e, he, rfl⟩ : ∃ p' e, e < 2 ∧ p = 2 * p' + e := ⟨p / 2, p % 2, by omega, by omega⟩
  rw [Nat.pow_succ] at hs hp
  have hs' : s' < 2 ^ K := by omega
  have hp' : p' < 2 ^ K := by omega
  obtain ⟨hsub', hbe⟩ := (subM_bits he hb).1 hsub
  have hC : 2 ^ (K + 1) - 1 - (2 * s' + b) = 2 * (2 ^ K - 1 - s') + (1 - b) := by rw [Nat.pow_succ]; omega
  have hor : p' ||| (2 ^ K - 1 - s') < 2 ^ K := Nat.or_lt_two_pow hp' (by have := Nat.two_pow_pos K; omega)
  have ht : ∀ n' : Nat, (∀ t, p' < t → t < n' → ¬ SubM t s') → ∀ t, 2 * p' + e < t → t < 2 * n' → (b = 0 ∨ e = 1) → ¬ SubM t (2 * s' + b) := fun n' h t h1 h2 h3 h4 => by
   obtain ⟨t', f, hf, rfl⟩ : ∃ t' f, f < 2 ∧ t = 2 * t' + f := ⟨t / 2, t % 2, by omega, by omega⟩
   obtain ⟨k1, k2⟩ := (subM_bits hf hb).1 h4
   exact h t' (by omega) (by omega) k1
  unfold nxtM nxtX
  rw [hC, Nat.pow_succ, bit_or _ _ _ _ he (by omega)]
  by_cases hcase : b = 0 ∨ e = 1
  ·obtain ⟨i1, i2, i3, i4⟩ := nxt_spec K s' p' hs' hp' hsub' (by omega)
   unfold nxtM nxtX at i2 i3 i4
   unfold nxtX at i1
   have hX : 2 * (p' ||| (2 ^ K - 1 - s')) + (if e = 1 ∨ 1 - b = 1 then 1 else 0) + 1 = 2 * ((p' ||| (2 ^ K - 1 - s')) + 1) + 0 := by
    rw [if_pos (by omega)]; omega
   rw [hX, bit_and _ _ _ _ (by omega) hb]
   simp only [show ¬ ((0 : Nat) = 1 ∧ b = 1) by omega, if_false, Nat.add_zero]
   generalize ((p' ||| (2 ^ K - 1 - s')) + 1) &&& s' = n' at *
   refine ⟨by omega, by omega, ?_, fun t h1 h2 => ht n' i4 t h1 h2 hcase⟩
   have := (subM_bits (a := n') (b := s') (x := 0) (y := b) (by omega) hb).2 ⟨i3, by omega⟩
   exact this
  ·obtain rfl : b = 1 := by omega
   obtain rfl : e = 0 := by omega
   have hX : 2 * (p' ||| (2 ^ K - 1 - s')) + (if (0 : Nat) = 1 ∨ 1 - 1 = 1 then 1 else 0) + 1 = 2 * (p' ||| (2 ^ K - 1 - s')) + 1 := by
    rw [if_neg (by omega)]
   rw [hX, bit_and _ _ _ _ (by omega) (by omega), if_pos ⟨rfl, rfl⟩, or_and_part hsub' (compl_and hs')]
   refine ⟨by omega, by omega, (subM_bits (by omega) (by omega)).2 ⟨hsub', fun _ => rfl⟩, fun t h1 h2 => by omega⟩

def subsTo (s n : Nat) : List Nat := (List.range n).filter fun m => decide (SubM m s)
theorem subsTo_succ {s n : Nat} (h : SubM n s) : subsTo s (n + 1) = subsTo s n ++ [n] := by
 unfold subsTo; rw [List.range_succ, List.filter_append]; simp [h]
theorem subsTo_skip {s n : Nat} : ∀ {m : Nat}, n ≤ m → (∀ t, n ≤ t → t < m → ¬ SubM t s) → subsTo s m = subsTo s n
 | 0, h, _ => by rw [show n = 0 by omega]
 | m + 1, h, k => by
  rcases Nat.eq_or_lt_of_le h with rfl | h
  ·rfl
  ·have := subsTo_skip (n := n) (m := m) (by omega) fun t h1 h2 => k t h1 (by omega)
   rw [← this]
   unfold subsTo
   rw [List.range_succ, List.filter_append]
   simp [k m (by omega) (by omega)]
theorem subM_le {p s : Nat} (h : SubM p s) : p ≤ s := by rw [← h]; exact Nat.and_le_right
theorem subM_zero (s : Nat) : SubM 0 s := Nat.zero_and s
theorem subsTo_len (s n : Nat) : (subsTo s n).length ≤ n := by unfold subsTo; exact Nat.le_trans (List.length_filter_le _ _) (by simp)

theorem range_filter {a b : Nat} {f g : Nat → Bool} (h : ∀ k, (k < a ∧ f k = true) ↔ (k < b ∧ g k = true)) : (List.range a).filter f = (List.range b).filter g := by
 have key : ∀ (n m : Nat) (f : Nat → Bool), n ≤ m → (List.range n).filter f = (List.range m).filter (fun k => decide (k < n) && f k) := by
  intro n m f hnm
  induction m with
  | zero =>
    obtain rfl : n = 0 := by omega
    rfl
  | succ m ih =>
   rcases Nat.eq_or_lt_of_le hnm with rfl | hlt
   ·apply List.filter_congr
    intro k hk
    rw [decide_eq_true (by simpa using hk), Bool.true_and]
   ·rw [ih (by omega), List.range_succ, List.filter_append]
    have : decide (m < n) = false := decide_eq_false (by omega)
    simp [this]
 rw [key a (max a b) f (by omega), key b (max a b) g (by omega)]
 apply List.filter_congr
 intro k _
 rw [Bool.eq_iff_iff]
 simpa using h k
theorem ansTo_filter (q : ProgD) : ∀ n, ansTo q n = ((List.range n).filter fun k => ansB q (setN k)).map setN
 | 0 => rfl
 | n + 1 => by
  have ih := ansTo_filter q n
  rw [List.range_succ, List.filter_append, List.map_append, ← ih]
  cases h : ansB q (setN n)
  ·rw [ansTo_no h]; simp [h]
  ·rw [ansTo_yes h]; simp [h]

theorem pow_atomsN {n : Int} (h0 : 0 ≤ n) (h1 : n ≤ 12) : 2 ^ n.toNat ≤ 4096 := by
 have : (2 : Nat) ^ n.toNat ≤ 2 ^ 12 := Nat.pow_le_pow_right (by omega) (by omega)
 omega
theorem rises_lt : ∀ {xs : List Int}, Rises xs → ∀ (i j : Nat), i < j → (hj : j < xs.length) → el xs i < el xs j
 | [], _, _, _, _, hj => absurd hj (by simp)
 | x :: r, h, i, 0, hij, _ => absurd hij (by omega)
 | x :: r, h, 0, j + 1, _, hj => by
  have hj' : j < r.length := by simpa using hj
  have e1 : el (x :: r) 0 = x := rfl
  have e2 : el (x :: r) (j + 1) = el r j := rfl
  rw [e1, e2]
  exact h.1 _ (el_mem hj')
 | x :: r, h, i + 1, j + 1, hij, hj => by
  have e1 : el (x :: r) (i + 1) = el r i := rfl
  have e2 : el (x :: r) (j + 1) = el r j := rfl
  rw [e1, e2]
  exact rises_lt h.2 i j (by omega) (by simpa using hj)
theorem setOk_rises {xs : List Int} {n : Int} (h0 : 0 ≤ n ∧ n ≤ 12) (h : Rises xs) (hb : ∀ y ∈ xs, 1 ≤ y ∧ y ≤ n) : setOkB xs n = true := by
 rw [setOkB_in h0]
 have : ∀ k, k ≤ xs.length → okTo xs n k = true := by
  intro k
  induction k with
  | zero => intro _; rfl
  | succ k ih =>
   intro hk
   have hs : okStep xs n k = true := by
    by_cases hz : k = 0
    ·exact okStep_B (hb _ (el_mem (by omega))) hz
    ·exact okStep_C (hb _ (el_mem (by omega))) (rises_lt h (k - 1) k (by omega) (by omega))
   simp only [okTo, ih (by omega), hs, Bool.and_self]
 exact this _ (Nat.le_refl _)

theorem hasM_sub {k h : Nat} {a : Int} (hs : SubM k h) (ha : 1 ≤ a ∧ a ≤ 12) (hk : hasM k a = true) : hasM h a = true := by
 have := hasM_and (a := k) (b := h) ha
 rw [show k &&& h = k from hs, hk] at this
 simpa using this.symm
theorem subM_has {k h : Nat} (hk : k < 4096) (hs : ∀ a : Int, 1 ≤ a → a ≤ 12 → hasM k a = true → hasM h a = true) : SubM k h := by
 have e : mset (k &&& h) = mset k := pickTo_congr fun a h1 h2 => by
  rw [hasM_and ⟨h1, by omega⟩]
  cases hh : hasM k a
  ·rfl
  ·rw [hs a h1 (by omega) hh]; rfl
 have h1 := mask_mset (m := k &&& h) (Nat.lt_of_le_of_lt Nat.and_le_left hk)
 rw [e, mask_mset hk] at h1
 exact h1.symm
theorem mask_small {k n : Nat} (hk : k < 4096) (hn : n ≤ 12) (h : ∀ a : Int, 1 ≤ a → a ≤ 12 → hasM k a = true → a ≤ n) : k < 2 ^ n := by
 have h1 := sum_bits k 12 (by omega)
 rw [Nat.mod_eq_of_lt (show k < 2 ^ 12 by omega)] at h1
 have h2 : ∀ m : Nat, n ≤ m → m ≤ 12 → sumTo (hasM k) m = sumTo (hasM k) n := by
  intro m h3 h4
  induction m with
  | zero => rw [show n = 0 by omega]
  | succ m ih =>
   rcases Nat.eq_or_lt_of_le h3 with rfl | h5
   ·rfl
   ·rw [← ih (by omega) (by omega)]
    have : hasM k ((m : Int) + 1) = false := by
     cases hh : hasM k ((m : Int) + 1)
     ·rfl
     ·have := h _ (by omega) (by omega) hh; omega
    simp [sumTo, this]
 rw [← h1, h2 12 hn (by omega), sum_bits k n hn]
 exact Nat.mod_lt _ (Nat.two_pow_pos n)

theorem heads_mem {rs : List RuleD} {a : Int} (ha : 1 ≤ a ∧ a ≤ 12) : ∀ {n : Nat}, n ≤ rs.length → (hasM (headsM rs n) a = true ↔ ∃ i, i < n ∧ hasB (nth rs i).heads a = true)
 | 0, _ => by simp [headsM, hasM]
 | n + 1, h => by
  have ih := heads_mem (rs := rs) ha (n := n) (by omega)
  rw [headsM, hasM_or ha, Bool.or_eq_true, ih, hasM_maskOf _ _ ha]
  constructor
  ·rintro (⟨i, hi, hh⟩ | hh)
   ·exact ⟨i, by omega, hh⟩
   ·exact ⟨n, by omega, hh⟩
  ·rintro ⟨i, hi, hh⟩
   rcases Nat.lt_or_ge i n with hin | hin
   ·exact .inl ⟨i, hin, hh⟩
   ·obtain rfl : i = n := by omega
    exact .inr hh
theorem least_heads {rs : List RuleD} {xs : List Int} (hw : Wts rs) : Sub (leastL rs xs false) (mset (headsM rs rs.length)) := by
 refine least_min hw fun r hr _ a h1 h2 ha => ?_
 obtain ⟨i, hi, rfl⟩ := List.getElem_of_mem hr
 rw [← nth_eq hi] at ha
 rw [hasB_mset ⟨h1, h2⟩, heads_mem ⟨h1, h2⟩ (Nat.le_refl _)]
 refine ⟨i, hi, ?_⟩
 cases hc : (nth rs i).choice
 ·rwa [putL_F (by rw [hc]; rfl)] at ha
 ·rw [putL_T (by rw [hc]; rfl), hasB_meet ⟨h1, h2⟩, Bool.and_eq_true] at ha
  exact ha.1

theorem setN_mset {k : Nat} (hk : k < 4096) : setN k = mset k := by
 unfold setN mset
 rw [← of_same]
 unfold setOf
 rw [if_pos ⟨by omega, by omega⟩, Int.toNat_natCast]
def ansP (q : ProgD) : List Nat := (subsTo (headsM q.rules q.rules.length) (headsM q.rules q.rules.length + 1)).filter fun k => ansQ q (mset k)
theorem ansP_eq {q : ProgD} (hok : progOkB q = true) : ansTo q (2 ^ q.atoms.toNat) = (ansP q).map mset := by
 obtain ⟨ha0, ha1⟩ := progOk_atoms hok
 have hpw := pow_atomsN ha0 ha1
 have hH := headsM_lt q.rules q.rules.length
 have hw := wts_ok (rules12 hok)
 have hle : ∀ a : Int, 1 ≤ a → a ≤ 12 → hasM (headsM q.rules q.rules.length) a = true → a ≤ q.atoms := by
  intro a h1 h2 h3
  obtain ⟨i, hi, hh⟩ := (heads_mem ⟨h1, h2⟩ (Nat.le_refl _)).1 h3
  have hr := (progOk_rules hok).2 _ (nth_mem hi)
  have hs : setOkB (nth q.rules i).heads q.atoms = true := by
   simp only [ruleOkB, headsB, Bool.and_eq_true] at hr
   exact hr.1.1
  rw [setOkB_in ⟨ha0, ha1⟩] at hs
  have := (okTo_take (Nat.le_refl _) hs).2.1 a (by rw [List.take_length]; exact of_decide_eq_true hh)
  exact this.2
 rw [ansTo_filter]
 unfold ansP subsTo
 rw [List.filter_filter]
 have e : (List.range (2 ^ q.atoms.toNat)).filter (fun k => ansB q (setN k)) = (List.range (headsM q.rules q.rules.length + 1)).filter (fun k => ansQ q (mset k) && decide (SubM k (headsM q.rules q.rules.length))) := by
  refine range_filter fun k => ?_
  constructor
  ·rintro ⟨h1, h2⟩
   have hk : k < 4096 := by omega
   rw [setN_mset hk] at h2
   have hset : setOkB (mset k) q.atoms = true := by
    cases hh : setOkB (mset k) q.atoms
    ·rw [ansB_A hh] at h2; cases h2
    ·rfl
   rw [ansB_Q hset] at h2
   have h3 := h2
   simp only [ansQ, Bool.and_eq_true, decide_eq_true_eq] at h3
   have hsub : SubM k (headsM q.rules q.rules.length) := subM_has hk fun a a1 a2 hh => by
    have := least_heads (xs := mset k) hw a a1 a2 (by rw [h3.2, hasB_mset ⟨a1, a2⟩]; exact hh)
    rwa [hasB_mset ⟨a1, a2⟩] at this
   have := subM_le hsub
   exact ⟨by omega, by rw [h2, decide_eq_true hsub]; rfl⟩
  ·rintro ⟨h1, h2⟩
   rw [Bool.and_eq_true, decide_eq_true_eq] at h2
   have hk : k < 4096 := by omega
   have hat : ∀ a : Int, 1 ≤ a → a ≤ 12 → hasM k a = true → a ≤ q.atoms := fun a a1 a2 hh => hle a a1 a2 (hasM_sub h2.2 ⟨a1, a2⟩ hh)
   have hset : setOkB (mset k) q.atoms = true := setOk_rises ⟨ha0, ha1⟩ (rises_pickTo _ _) fun y hy => by
    obtain ⟨y1, y2, y3⟩ := (mem_pickTo _ _ _).1 hy
    exact ⟨y1, hat y y1 (by omega) y3⟩
   refine ⟨mask_small hk (by omega) fun a a1 a2 hh => by have := hat a a1 a2 hh; omega, ?_⟩
   rw [setN_mset hk, ansB_Q hset]
   exact h2.1
 rw [e]
 apply List.map_congr_left
 intro k hk
 have hk := List.mem_range.1 (List.mem_filter.1 hk).1
 exact setN_mset (by omega)

theorem below_grown {A B : World} (h : Below A.heap.size A B) : A.grownBy B none := ⟨h.os, h.tape, h.output, h.size, fun k hk _ => h.block k hk⟩

def ZOk (n0 : Nat) (Z : World → Nat → Prop) : Prop :=
 ∀ (A B : World) (row : Option Nat), n0 ≤ A.heap.size → A.grownBy B row → (∀ r, row = some r → n0 ≤ r ∧ ∃ o : Obj, A.heap[r]? = some o ∧ o.isCells = false) → ∀ g, Z B g → Z A g
def ZB (Z : World → Nat → Prop) (W : World) : Prop := ∀ g, Z W g → ∃ o : Obj, W.heap[g]? = some o ∧ o.isCells = true
structure KpZ (Z : World → Nat → Prop) (n0 : Nat) (A B : World) : Prop where
 size : A.heap.size ≤ B.heap.size
 same : ∀ g o, n0 ≤ g → A.heap[g]? = some o → ¬ Z A g → B.heap[g]? = some o
 z : ∀ g, Z B g → Z A g ∨ A.heap.size ≤ g
 zb : ZB Z B

theorem ZB.turn {n0 : Nat} {Z : World → Nat → Prop} (hZ : ZOk n0 Z) {A B : World} {row : Option Nat} (h : ZB Z A) (hn : n0 ≤ A.heap.size) (hg : A.grownBy B row) (hr : ∀ r, row = some r → n0 ≤ r ∧ ∃ o : Obj, A.heap[r]? = some o ∧ o.isCells = false) : ZB Z B := fun g hz => by
 obtain ⟨o, h1, h2⟩ := h g (hZ A B row hn hg hr g hz)
 refine ⟨o, (hg.block g (Array.getElem?_eq_some_iff.1 h1).1 fun e => ?_).trans h1, h2⟩
 obtain ⟨_, o', h3, h4⟩ := hr g e.symm
 rw [h1] at h3
 rw [← Option.some.inj h3, h2] at h4
 cases h4
theorem ZB.not {Z : World → Nat → Prop} {W : World} (h : ZB Z W) {g : Nat} {o : Obj} (hg : W.heap[g]? = some o) (ho : o.isCells = false) : ¬ Z W g := fun hz => by
 obtain ⟨o', h1, h2⟩ := h g hz
 rw [hg] at h1
 rw [Option.some.inj h1, h2] at ho
 cases ho
theorem ZB.lt {Z : World → Nat → Prop} {W : World} (h : ZB Z W) {g : Nat} (hg : Z W g) : g < W.heap.size := by
 obtain ⟨o', h1, _⟩ := h g hg
 exact (Array.getElem?_eq_some_iff.1 h1).1

def SeqN {α : Type} (F : Fence) (n : Nat) (P : Program) (g : Nat) (lb : Array Value) (encs : α → Array Value) (S : List α → Prop) (N m0 : Nat) (w : World) : Prop :=
 ∀ (Z : World → Nat → Prop) (l : Nat) (J : List α → World → Prop) (W : World), Below w.heap.size w W → ZOk W.heap.size Z → ZB Z W → (∀ g, m0 ≤ g → ¬ Z W g) → m0 ≤ W.heap.size → OwnFrom W.heap.size J →
  (∀ pre x W1, J pre W1 → ZB Z W1 → W.heap.size ≤ W1.heap.size → pre.length < N → YieldAt F (n - 1) P l (encs x) W1 fun e W' => e = .returned (.bool true) ∧ J (pre ++ [x]) W' ∧ KpZ Z m0 W1 W') →
  J [] W →
  CallsIn F n P g (#[.func (.yield l) #[] #[]] ++ lb) W fun e W' => (∃ v, e = .returned v) ∧ ∃ xs, S xs ∧ J xs W' ∧ W.heap.size ≤ W'.heap.size

def recN (fn : FuncId) (tmps : Array Value) (ps : Array Tmp) (assign body : Code) (B : Nat) (st : LoopState) : Loop :=
 { state := st, pending := none, fn := fn, tmps := tmps, params := ps, assign := assign, body := body, defers := B }

section
variable {F : Fence} {n : Nat} {P : Program}
theorem wpIn_rangeFunc_N {α : Type} {g : Operand} {ps : Array Tmp} {assign body : Code} {Q : Exit → Act → World → Prop} {a : Act} {w : World}
  (hro : F.round = none) (h1 : 1 ≤ n) {gf : Nat} {lb : Array Value} (hg : a.eval g = .func (.func gf) #[] lb) (hFg : F.fn gf) (eg : ∀ args w, (callFunc gf args).run P w = .ok (.enter gf args) w)
  {encs : α → Array Value} {S : List α → Prop} {N m0 : Nat} {w0 : World} (hseq : SeqN F (n - 1) P gf lb encs S N m0 w0) (hm0 : m0 ≤ w.heap.size) (hb0 : Below w0.heap.size w0 w) (hps : ∀ x, (encs x).size = ps.size)
  (Z : World → Nat → Prop) (hZ : ZOk w.heap.size Z) (hZB : ZB Z w) (hz0 : ∀ g, m0 ≤ g → ¬ Z w g) (I : List α → World → Prop) (hI : OwnFrom w.heap.size I) (h0 : I [] w) (a₁ : α → Act)
  (hassign : ∀ (l : Nat) (x : α) (W : World) (K : Act → World → Prop), K (a₁ x) W →
   assign.wpIn (F.inRound l) (n - 1 - 1) P (Exit.then K (fun _ _ _ => False)) { tmps := (ps.zip (encs x)).foldl (fun t (p, v) => t.setIfInBounds p v) a.tmps, defers := [] } W)
  (hbody : ∀ (l : Nat) (pre : List α) (x : α) (W : World), I pre W → pre.length < N → ZB Z W → w.heap.size ≤ W.heap.size →
   body.wpIn (F.inRound l) (n - 1 - 1) P (fun e _ W' => e = .normal ∧ KpZ Z m0 W W' ∧ I (pre ++ [x]) W') (a₁ x) W)
  (hdone : ∀ (D : Nat) (xs : List α) (W : World), w.heap.size ≤ D → S xs → I xs W → W.heap[D]? = some (.deferred (some [])) → Q .normal { a with defers := { target := .collected D, args := #[] } :: a.defers } W) :
  (Code.rangeFunc g ps assign body).wpIn F n P Q a w := by
 refine wpIn_rangeFunc fun fn hfn => ?_
 rw [hro]
 obtain ⟨R, hR⟩ : ∃ R, R = recN fn a.tmps ps assign body w.heap.size := ⟨_, rfl⟩
 obtain ⟨V, hV⟩ : ∃ V, V = (w.alloc (.deferred (some []))).alloc (.loop (R .ready)) := ⟨_, rfl⟩
 have gV : w.grownBy (w.alloc (.deferred (some []))) none := World.grownBy_alloc _ _ _
 have gV2 : (w.alloc (.deferred (some []))).grownBy V none := by rw [hV]; exact World.grownBy_alloc _ _ _
 have nr : ∀ {A : World} (r : Nat), (none : Option Nat) = some r → w.heap.size ≤ r ∧ ∃ o : Obj, A.heap[r]? = some o ∧ o.isCells = false := fun r e => by cases e
 have zV : V.heap.size = w.heap.size + 2 := by rw [hV, World.size_alloc, World.size_alloc]
 have dV : V.heap[w.heap.size]? = some (.deferred (some [])) := (gV2.block w.heap.size (by rw [World.size_alloc]; omega) (by simp)).trans (World.alloc_heap_new w _)
 have lV : V.heap[w.heap.size + 1]? = some (.loop (R .ready)) := by
  have := World.alloc_heap_new (w.alloc (.deferred (some []))) (.loop (R .ready))
  rw [World.size_alloc] at this
  rw [hV]; exact this
 have bV : ZB Z V := (hZB.turn hZ (Nat.le_refl _) gV nr).turn hZ (by rw [World.size_alloc]; omega) gV2 nr
 have iV : I [] V := by rw [hV]; exact hI.alloc _ (hI.alloc _ h0)
 have belV : Below w.heap.size w V := by rw [hV]; exact ((Below.refl _ _).alloc (Nat.le_refl _) _).alloc (by simp) _
 refine ⟨w.heap.size + 1, [{ target := .collected w.heap.size, args := #[] }], V, { target := .fn (.func gf) lb, args := #[.func (.yield (w.heap.size + 1)) #[] #[]] }, V, gf,
  #[.func (.yield (w.heap.size + 1)) #[] #[]] ++ lb, V, by rw [hV, hR]; exact run_enterLoop_outer _ _ _ _ _, by simp only [resolve, hg]; simp [go_sem],
  fun f' hf' => by simp [Target.leads] at hf'; subst hf'; exact hFg, by simp [invoke, go_sem, eg], fun _ => h1, ?_⟩
 refine (hseq Z (w.heap.size + 1) (fun pre W => I pre W ∧ W.heap[w.heap.size + 1]? = some (.loop (R .ready)) ∧ W.heap[w.heap.size]? = some (.deferred (some [])))
  V (hb0.trans (belV.mono hb0.size)) (fun A B row hn hg' hr => hZ A B row (by omega) hg' fun r e => ⟨by have := (hr r e).1; omega, (hr r e).2⟩) bV (fun g hg h => hz0 g hg (hZ w _ _ (Nat.le_refl _) gV nr g (hZ _ V _ (by rw [World.size_alloc]; omega) gV2 nr g h))) (by omega) ?own ?round ⟨iV, lV, dV⟩).mono ?fin
 case own =>
  intro s A B row hs hg' hr
  have hne : ∀ k, k < w.heap.size + 2 → some k ≠ row := fun k hk e => by have := (hr k e.symm).1; omega
  exact ⟨hI s A B row hs.1 hg' fun r e => ⟨by have := (hr r e).1; omega, (hr r e).2⟩, (hg'.block _ (Array.getElem?_eq_some_iff.1 hs.2.1).1 (hne _ (by omega))).trans hs.2.1, (hg'.block _ (Array.getElem?_eq_some_iff.1 hs.2.2).1 (hne _ (by omega))).trans hs.2.2⟩
 case round =>
  rintro pre x W ⟨hi, hl, hk⟩ hz hsz hlen
  have hlt := (Array.getElem?_eq_some_iff.1 hl).1
  have hy := run_yield (P := P) (args := encs x) hl (by rw [hR]; exact hps x)
  rw [hR] at hy
  refine ⟨fn, _, assign, body, hy, roundIn_of_wpIn hfn (hassign _ x W _ ⟨_, run_beginRound hl (by rw [hR]; rfl), ?_⟩)⟩
  have eB : ({ R .ready with state := .busy } : Loop) = R .busy := by rw [hR]; rfl
  rw [eB]
  have gB := grownBy_putObj' W (w.heap.size + 1) (.loop (R .busy))
  have rB : ∀ r, some (w.heap.size + 1) = some r → w.heap.size ≤ r ∧ ∃ o : Obj, W.heap[r]? = some o ∧ o.isCells = false := fun r e => by cases e; exact ⟨by omega, _, hl, rfl⟩
  have zB := hz.turn hZ (by omega) gB rB
  have lB : (W.putObj (w.heap.size + 1) (.loop (R .busy))).heap[w.heap.size + 1]? = some (.loop (R .busy)) := World.putObj_heap_same hlt
  have dB : (W.putObj (w.heap.size + 1) (.loop (R .busy))).heap[w.heap.size]? = some (.deferred (some [])) := (World.putObj_heap_other (by omega)).trans hk
  refine wpIn_mono (hbody _ pre x _ (hI.putObj _ hi (by omega) hl rfl) hlen zB (Nat.le_trans (by omega) gB.size)) ?_
  rintro e a3 X ⟨rfl, kp, iX⟩
  have lX := kp.same _ _ (by omega) lB (zB.not lB rfl)
  have dX := kp.same _ _ hm0 dB (zB.not dB rfl)
  have eX : ({ R .busy with state := if (none : Option Code).isNone then .ready else .done, pending := none } : Loop) = R .ready := by rw [hR]; rfl
  have hend := run_endRound (P := P) none lX
  rw [eX] at hend
  have gX := grownBy_putObj' X (w.heap.size + 1) (.loop (R .ready))
  have rX : ∀ r, some (w.heap.size + 1) = some r → w.heap.size ≤ r ∧ ∃ o : Obj, X.heap[r]? = some o ∧ o.isCells = false := fun r e => by cases e; exact ⟨by omega, _, lX, rfl⟩
  have sX := kp.size
  have sB := gB.size
  have zX := kp.zb.turn hZ (by omega) gX rX
  refine ⟨_, _, hend, rfl, ⟨hI.putObj _ iX (by omega) lX rfl, World.putObj_heap_same (Array.getElem?_eq_some_iff.1 lX).1, (World.putObj_heap_other (by omega)).trans dX⟩, ⟨Nat.le_trans sB (Nat.le_trans sX gX.size), fun g o hg ho hnz => ?_, fun g hgz => ?_, zX⟩⟩
  ·by_cases hgl : g = w.heap.size + 1
   ·subst hgl
    rw [hl] at ho
    rw [← ho]
    exact World.putObj_heap_same (Array.getElem?_eq_some_iff.1 lX).1
   have g1 : (W.putObj (w.heap.size + 1) (.loop (R .busy))).heap[g]? = some o := (World.putObj_heap_other (by omega)).trans ho
   have g2 := kp.same g o (by omega) g1 fun hzz => hnz (hZ W _ _ (by omega) gB rB g hzz)
   exact (World.putObj_heap_other (by omega)).trans g2
  ·rcases kp.z g (hZ X _ _ (by omega) gX rX g hgz) with h | h
   ·exact .inl (hZ W _ _ (by omega) gB rB g h)
   ·exact .inr (Nat.le_trans sB h)
 case fin =>
  rintro e X ⟨⟨v, rfl⟩, xs, hS, ⟨hi, hl, hk⟩, _⟩
  have hend := run_endLoop (P := P) hl (by rw [hR]; simp [recN])
  have hp : (R .ready).pending = none := by rw [hR]; rfl
  rw [hp] at hend
  refine ⟨none, _, hend, hdone _ xs _ (Nat.le_refl _) hS (hI.putObj _ hi (by omega) hl rfl) ((World.putObj_heap_other (by omega)).trans hk)⟩
end

attribute [local go_sem] Oper.semAt_some

abbrev MaskI := { m : Nat // m < 4096 }

theorem all_xor {s : Nat} (hs : s < 65536) : 65535 ^^^ s = 2 ^ 16 - 1 - s := by
 apply Nat.eq_of_testBit_eq
 intro i
 rw [Nat.testBit_xor, show (65535 : Nat) = 2 ^ 16 - 1 from rfl, Nat.testBit_two_pow_sub_one, show 2 ^ 16 - 1 - s = 2 ^ 16 - (s + 1) by omega, Nat.testBit_two_pow_sub_succ (by omega)]
 by_cases h : i < 16
 ·rw [decide_eq_true h]; cases s.testBit i <;> rfl
 ·rw [decide_eq_false h, Nat.testBit_lt_two_pow (Nat.lt_of_lt_of_le hs (Nat.pow_le_pow_right (n := 2) (by omega) (show 16 ≤ i by omega)))]; rfl
theorem nxt_word {s p : Nat} (hs : s < 4096) (hp : p ≤ 4096) (hx : nxtX 16 s p < 2 ^ 16) :
  bits .and .u16 (IntKind.u16.wrap (bits .or .u16 (p : Int) (bits .xor .u16 (if IntKind.u16.signed = true then -1 else IntKind.u16.max) (s : Int)) + 1)) (s : Int) = ((nxtM 16 s p : Nat) : Int) := by
 rw [show (if IntKind.u16.signed = true then -1 else IntKind.u16.max : Int) = ((65535 : Nat) : Int) from rfl, u16_xor_nat 65535 s (by omega) (by omega), all_xor (by omega), u16_or_nat p _ (by omega) (by omega)]
 have e : ((p ||| (2 ^ 16 - 1 - s) : Nat) : Int) + 1 = ((nxtX 16 s p : Nat) : Int) := by unfold nxtX; omega
 rw [e, IntKind.wrap_u16, Int.emod_eq_of_lt (by omega) (by omega), u16_and_nat _ s (by omega) (by omega)]
 rfl

set_option maxHeartbeats 2000000 in
theorem parts_stops {F : Fence} (hF : F = Fence.wide) (n : Nat) (hn : 2 ≤ n) (s : Nat) (hs : s < 4096) (w : World) (Bn : Nat) (hb : Boxed w Bn 106 (.int .u16 (s : Int))) :
  SeqStopsK F n Tryz.prog 213 #[.pointer (some ⟨Bn, 0, none⟩)] (fun x : MaskI => #[Value.int .u16 (x.1 : Int)]) (KpB Bn 106 (.int .u16 (s : Int))) (fun ys => ys.map (·.1) = subsTo s (s + 1)) (fun _ => True) 4096 w := fun l J Jx W hW hJ hJx hY h0 => by
 have hbW : Boxed W Bn 106 (.int .u16 (s : Int)) := (hW.block Bn hb.lt).trans hb
 have hro := wideR hF
 have hn1 : 1 ≤ n - 1 := by omega
 have hn0 : 1 ≤ n := by omega
 refine callsIn_of_wp Tryz.func213 rfl (wideF hF _) ?_ hro
 clear hF
 simp only [Tryz.ntmps213, List.size_toArray, List.length_cons, List.length_nil, Nat.reduceAdd, Nat.reduceSub, Array.replicate_succ, Array.replicate_zero, List.push_toArray, List.append_toArray, List.nil_append, List.cons_append]
 gi_wp2
 gi_loopw [3] (fun i wr => ∃ (p : Nat) (pre : List MaskI), p ≤ s ∧ i = .int .u16 (p : Int) ∧ SubM p s ∧ pre.map (·.1) = subsTo s p ∧ J pre wr ∧ Boxed wr Bn 106 (.int .u16 (s : Int))) (fun i _ => 4097 - natOf i)
 case atStart => exact ⟨0, [], Nat.zero_le _, rfl, subM_zero s, rfl, h0, hbW⟩
 case round =>
  obtain ⟨p, pre, hps, rfl, hsub, hp, hJs, hB⟩ := hrel
  have hlen : pre.length < 4096 := by
   have h1 := congrArg List.length hp
   rw [List.length_map] at h1
   have h2 := subsTo_len s p
   omega
  obtain ⟨fn, tmps, assign, body, hy, hR⟩ := hY pre ⟨p, by omega⟩ wr hJs hlen
  have hp' := Lib.hid (show (pre ++ [(⟨p, by omega⟩ : MaskI)]).map (·.1) = subsTo s (p + 1) by rw [subsTo_succ hsub, List.map_append, hp]; rfl)
  dsimp only at hy
  gi_wp2
  refine hR.mono ?_
  rintro e W3 (⟨rfl, hJ3, hk3⟩ | ⟨rfl, hJx3⟩)
  ·have hB3 := hk3 hB
   have hc3 := hB3.cell
   by_cases he : p = s
   ·subst he
    gi_wp2
    go_end0
    exact ⟨⟨_, rfl⟩, .inl ⟨_, hp'.out, hJ3⟩⟩
   ·have hne : ((p : Int) != (s : Int)) = true := by simp; omega
    obtain ⟨q1, q2, q3, q4⟩ := nxt_spec 16 s p (by omega) (by omega) hsub he
    gi_wp2
    have hE := nxt_word hs (Nat.le_trans hps (Nat.le_of_lt hs)) q1
    have hsk := subsTo_skip (s := s) (n := p + 1) (m := nxtM 16 s p) (by omega) fun t h1 h2 => q4 t (by omega) h2
    have hps' := subM_le q3
    go_roundw
    case rel => exact ⟨nxtM 16 s p, _, hps', by rw [hE], q3, by rw [hsk]; exact hp'.out, hJ3, hB3⟩
    case measure => rw [hE]; simp only [natOf, Int.toNat_natCast]; omega
  ·gi_wp2
   go_end0
   exact ⟨⟨_, rfl⟩, .inr ⟨_, trivial, hJx3⟩⟩

theorem zok_up {n0 n1 : Nat} {Z : World → Nat → Prop} (h : ZOk n0 Z) (hn : n0 ≤ n1) : ZOk n1 Z := fun A B row h1 hg hr => h A B row (by omega) hg fun r e => ⟨by have := (hr r e).1; omega, (hr r e).2⟩
theorem roundIn_any {F : Fence} (hd : F.depth = none) (lc : Nat) {m m' : Nat} {P : Program} {l : Nat} {f : FuncId} {tmps : Array Value} {assign body : Code} {w : World} {R : Ending → World → Prop}
  (h : RoundIn F m P l f tmps assign body w R) : RoundIn (F.inRound lc) m' P l f tmps assign body w R := ⟨h.1, fun c cs _ => h.2 c cs (fun d hh => by rw [hd] at hh; cases hh)⟩
theorem kpZ_below {n0 m0 : Nat} {Z : World → Nat → Prop} {A B : World} (hZ : ZOk n0 Z) (hn : n0 ≤ A.heap.size) (hz : ZB Z A) (h : Below A.heap.size A B) : KpZ Z m0 A B :=
 ⟨h.size, fun g o _ ho _ => (h.block g (Array.getElem?_eq_some_iff.1 ho).1).trans ho, fun g hg => .inl (hZ A B none hn (below_grown h) (fun r e => by cases e) g hg), hz.turn hZ hn (below_grown h) fun r e => by cases e⟩
theorem KpZ.trans {m0 : Nat} {Z : World → Nat → Prop} {A B C : World} (h : KpZ Z m0 A B) (k : KpZ Z m0 B C) : KpZ Z m0 A C :=
 ⟨Nat.le_trans h.size k.size, fun g o hg ho hn => k.same g o hg (h.same g o hg ho hn) fun hz => (h.z g hz).elim hn fun h' => by have := (Array.getElem?_eq_some_iff.1 ho).1; omega,
  fun g hg => (k.z g hg).elim (fun h' => h.z g h') fun h' => .inr (Nat.le_trans h.size h'), k.zb⟩
theorem KpZ.up {m0 m1 : Nat} {Z : World → Nat → Prop} {A B : World} (h : KpZ Z m0 A B) (hm : m0 ≤ m1) : KpZ Z m1 A B := ⟨h.size, fun g o hg => h.same g o (Nat.le_trans hm hg), h.z, h.zb⟩

theorem parts_seq {F : Fence} (hF : F = Fence.wide) (n : Nat) (hn : 2 ≤ n) (s : Nat) (hs : s < 4096) (w : World) (Bn : Nat) (hb : Boxed w Bn 106 (.int .u16 (s : Int))) (m0 : Nat) (hm : m0 ≤ Bn) :
  SeqN F n Tryz.prog 213 #[.pointer (some ⟨Bn, 0, none⟩)] (fun x : MaskI => #[Value.int .u16 (x.1 : Int)]) (fun ys => ys.map (·.1) = subsTo s (s + 1)) 4096 m0 w := fun Z l J W hW hZ hZB hz0 hmW hJ hY h0 => by
 have hbl := hb.lt
 have hwl := hW.size
 refine (parts_stops hF n hn s hs w Bn hb l (fun pre X => J pre X ∧ ZB Z X ∧ ¬ Z X Bn ∧ W.heap.size ≤ X.heap.size) (fun _ _ => False) W hW ?_ (fun _ _ _ _ h _ _ => h) ?_ ⟨h0, hZB, hz0 Bn hm, Nat.le_refl _⟩).mono ?_
 ·rintro s A B row ⟨h1, h2, h3, h4⟩ hg hr
  have hr' : ∀ r, row = some r → W.heap.size ≤ r ∧ ∃ o : Obj, A.heap[r]? = some o ∧ o.isCells = false := fun r e => by obtain ⟨k1, o, k2, k3⟩ := hr r e; exact ⟨k1, o, k2, Obj.not_cells_of_walk k3⟩
  exact ⟨hJ s A B row h1 hg hr', h2.turn hZ h4 hg hr', fun h => h3 (hZ A B row h4 hg hr' Bn h), Nat.le_trans h4 hg.size⟩
 ·rintro pre x X ⟨h1, h2, h3, h4⟩ hlen
  refine (hY pre x X h1 h2 h4 hlen).mono ?_
  rintro e X' ⟨rfl, k1, k2⟩
  refine .inl ⟨rfl, ⟨k1, k2.zb, fun h => ?_, Nat.le_trans h4 k2.size⟩, fun hbx => k2.same Bn _ hm hbx h3⟩
  rcases k2.z Bn h with h | h
  ·exact h3 h
  ·omega
 ·rintro e X ⟨hv, ⟨xs, hS, h1, _, _, h4⟩ | ⟨_, _, h⟩⟩
  ·exact ⟨hv, xs, hS, h1, h4⟩
  ·exact h.elim

theorem partsSeq_calls (m : Nat) (w : World) :
  Calls Tryz.prog 135 #[.int .u16 (m : Int)] w fun e w' => e = .returned (.func (.func 213) #[] #[.pointer (some ⟨w.heap.size, 0, none⟩)]) ∧ w' = w.alloc (.cells #[.int .u16 (m : Int)] 106) := by
 have hmf : ∀ (fn : Fn) (first cap : Array Value) (w : World), (Instr.makeFunc fn first cap).run Tryz.prog w = .ok (.func fn first cap) w := fun _ _ _ _ => rfl
 go_enter Tryz.func135, Tryz.ntmps135
 go_wp2
 go_ret
 exact ⟨rfl, rfl⟩
theorem answersSeq_calls (p0 p1 p2 p3 p4 p5 p6 p7 : Value) (w : World) :
  Calls Tryz.prog 80 #[.agg #[p0, p1, p2, p3, p4, p5, p6, p7]] w fun e w' => e = .returned (.func (.func 169) #[] #[.pointer (some ⟨w.heap.size, 0, none⟩)]) ∧ w' = w.alloc (.cells #[p0, p1, p2, p3, p4, p5, p6, p7] 30) := by
 have hmf : ∀ (fn : Fn) (first cap : Array Value) (w : World), (Instr.makeFunc fn first cap).run Tryz.prog w = .ok (.func fn first cap) w := fun _ _ _ _ => rfl
 go_enter Tryz.func80, Tryz.ntmps80
 go_wp2
 go_ret
 exact ⟨rfl, rfl⟩

attribute [local go_sem] Oper.semAt_some

def ansN (p : ProgD) : List Nat := if foldB p then ansP (foldD p) else []
theorem ansN_no {p : ProgD} (h : foldB p = false) : ansN p = [] := by simp [ansN, h]
theorem ansN_yes {p : ProgD} (h : foldB p = true) : ansN p = ansP (foldD p) := by simp [ansN, h]
theorem wideD {F : Fence} (hF : F = Fence.wide) : F.depth = none := by subst hF; rfl
def flA (q : ProgD) (xs : List MaskI) : List MaskI := xs.filter fun x => ansQ q (mset x.1)
theorem flA_yes {q : ProgD} {xs : List MaskI} {x : MaskI} (h : ansQ q (mset x.1) = true) : flA q (xs ++ [x]) = flA q xs ++ [x] := by simp [flA, h]
theorem flA_no {q : ProgD} {xs : List MaskI} {x : MaskI} (h : ansQ q (mset x.1) = false) : flA q (xs ++ [x]) = flA q xs := by simp [flA, h]
theorem flA_len (q : ProgD) (xs : List MaskI) : (flA q xs).length ≤ xs.length := List.length_filter_le _ _
theorem flA_all {q : ProgD} {xs : List MaskI} (h : xs.map (·.1) = subsTo (headsM q.rules q.rules.length) (headsM q.rules q.rules.length + 1)) : (flA q xs).map (·.1) = ansP q := by
 unfold ansP flA
 rw [← h, List.filter_map]
 rfl
def Fr (Z : World → Nat → Prop) (n0 : Nat) (A X : World) : Prop := A.heap.size ≤ X.heap.size ∧ ∀ g, n0 ≤ g → g < A.heap.size → X.heap[g]? = A.heap[g]? ∧ ¬ Z X g
theorem Fr.turn {Z : World → Nat → Prop} {n0 : Nat} {A X Y : World} {row : Option Nat} (h : Fr Z n0 A X) (hZ : ZOk n0 Z) (hn : n0 ≤ A.heap.size) (hg : X.grownBy Y row) (hr : ∀ r, row = some r → A.heap.size ≤ r ∧ ∃ o : Obj, X.heap[r]? = some o ∧ o.isCells = false) : Fr Z n0 A Y :=
 ⟨Nat.le_trans h.1 hg.size, fun g h1 h2 => ⟨(hg.block g (by have := h.1; omega) fun e => by have := (hr g e.symm).1; omega).trans (h.2 g h1 h2).1,
  fun hz => (h.2 g h1 h2).2 (hZ X Y row (Nat.le_trans hn h.1) hg (fun r e => ⟨by have := (hr r e).1; omega, (hr r e).2⟩) g hz)⟩⟩
theorem Fr.kp {Z : World → Nat → Prop} {n0 : Nat} {A X Y : World} (h : Fr Z n0 A X) (k : KpZ Z n0 X Y) : Fr Z n0 A Y :=
 ⟨Nat.le_trans h.1 k.size, fun g h1 h2 => by
  obtain ⟨e1, e2⟩ := h.2 g h1 h2
  have hl := h.1
  have hx : X.heap[g]? = some X.heap[g] := Array.getElem?_eq_getElem (by omega)
  refine ⟨?_, fun hz => (k.z g hz).elim e2 fun h' => by omega⟩
  rw [k.same g _ h1 hx e2, ← e1, hx]⟩

set_option maxHeartbeats 4000000 in
theorem answers_seq {F : Fence} (hF : F = Fence.wide) (n : Nat) (hn : 6 ≤ n) {cs : List Value} {p : ProgD} (w : World) (Bp : Nat) (hR : Rd.R w cs p) (hb : Cells w Bp 0 cs) (m0 : Nat) :
  SeqN F n Tryz.prog 169 #[.pointer (some ⟨Bp, 0, none⟩)] (fun x : MaskI => #[Value.int .u16 (x.1 : Int)]) (fun ys => ys.map (·.1) = ansN p) 4096 m0 w := fun Z l J W hW hZ hZB hz0 hmW hJ hY h0 => by
 have hro := wideR hF
 have hd := wideD hF
 have hn1 : 1 ≤ n - 1 := by omega
 have hn0 : 1 ≤ n := by omega
 have hbW := hb.later hW
 have hRW := Rd.mono hW hR
 obtain ⟨p0, p1, p2, p3, p4, p5, p6, p7, rfl⟩ := list8 (Rd.len hR)
 obtain ⟨y0, y1, y2, y3, y4, y5, y6, y7⟩ := cells8 hbW
 have hbl := hbW.lt
 have bA : Below W.heap.size W (W.alloc (.cells #[.func (.yield l) #[] #[]] 104)) := (Below.refl _ _).alloc (Nat.le_refl _) _
 have hFo := fun (k : Nat) => Lib.hid (wideC (n := k) hF (implFold_calls (w := W.alloc (.cells #[.func (.yield l) #[] #[]] 104)) (Rd.mono bA hRW)))
 have hHe := fun (k : Nat) (cs : List Value) (w : World) (h : Rd.R w cs (foldD p)) => Lib.hid (wideC (n := k) hF (heads_calls h))
 have hPa := fun (k : Nat) (m : Nat) (w : World) => Lib.hid (wideC (n := k) hF (partsSeq_calls m w))
 have hf1 : F.fn 93 := wideF hF _
 have hf2 : F.fn 170 := wideF hF _
 have hf3 : F.fn 135 := wideF hF _
 have hf4 : F.fn 98 := wideF hF _
 have hf5 : F.fn 213 := wideF hF _
 have HF := Lib.hid hF
 refine callsIn_of_wp_marks Tryz.func169 rfl (wideF hF _) ?_ hro
 clear hF
 simp only [Tryz.ntmps169, List.size_toArray, List.length_cons, List.length_nil, Nat.reduceAdd, Nat.reduceSub, Array.replicate_succ, Array.replicate_zero, List.push_toArray, List.append_toArray, List.nil_append, List.cons_append]
 cases hB : foldB p
 ·have hNo := Lib.hid (ansN_no hB)
  gi_wp2_with (gi_at_call 93; refine (hFo _).out.mono ?_; rintro e w1 ⟨cs1, he, o1, b1⟩; rw [hB] at he; subst he; have t1 := bA.step b1; have l1 := Rd.one o1.rd; obtain ⟨x0, x1, x2, x3, x4, x5, x6, x7, rfl⟩ := list8 (Rd.len o1.rd); have st0 := sto Tryz.prog (l1 x0 (by simp)); have st1 := sto Tryz.prog (l1 x1 (by simp)); have st2 := sto Tryz.prog (l1 x2 (by simp)); have st3 := sto Tryz.prog (l1 x3 (by simp)); have st4 := sto Tryz.prog (l1 x4 (by simp)); have st5 := sto Tryz.prog (l1 x5 (by simp)); have st6 := sto Tryz.prog (l1 x6 (by simp)); have st7 := sto Tryz.prog (l1 x7 (by simp)); clear l1)
  have t2 := t1.alloc t1.size (.cells #[x0, x1, x2, x3, x4, x5, x6, x7] 30)
  exact ⟨_, results_none rfl _ _ _, ⟨_, rfl⟩, [], by rw [hNo.out]; rfl, hJ [] W _ none h0 (below_grown t2) (fun r e => by cases e), t2.size⟩
 ·have hYes := Lib.hid (ansN_yes hB)
  have hok : progOkB (foldD p) = true := foldR_ok hB
  have hfo : Hid (foldR p = foldD p) := foldR_yes hB
  have hH := headsM_lt (foldD p).rules (foldD p).rules.length
  gi_wp2_with (first | (gi_at_call 93; refine (hFo _).out.mono ?_; rintro e w1 ⟨cs1, he, o1, b1⟩; rw [hB] at he; rw [hfo.out] at o1; subst he; have t1 := bA.step b1; have l1 := Rd.one o1.rd; obtain ⟨x0, x1, x2, x3, x4, x5, x6, x7, rfl⟩ := list8 (Rd.len o1.rd); have st0 := sto Tryz.prog (l1 x0 (by simp)); have st1 := sto Tryz.prog (l1 x1 (by simp)); have st2 := sto Tryz.prog (l1 x2 (by simp)); have st3 := sto Tryz.prog (l1 x3 (by simp)); have st4 := sto Tryz.prog (l1 x4 (by simp)); have st5 := sto Tryz.prog (l1 x5 (by simp)); have st6 := sto Tryz.prog (l1 x6 (by simp)); have st7 := sto Tryz.prog (l1 x7 (by simp)); clear l1; have o2 := o1.alloc (.cells #[x0, x1, x2, x3, x4, x5, x6, x7] 30); have cq := Cells.new w1 [x0, x1, x2, x3, x4, x5, x6, x7] 30; have t2 := t1.alloc t1.size (.cells #[x0, x1, x2, x3, x4, x5, x6, x7] 30); obtain ⟨q0, q1, q2, q3, q4, q5, q6, q7⟩ := cells8 cq) |
   (gi_at_call 170; refine (hHe _ _ _ o2.rd).out.mono ?_; rintro e w3 ⟨rfl, b3⟩; have t3 := t2.step b3; have o3 := o2.later b3; have c3 := cq.later b3) |
   (gi_at_call 135; refine (hPa _ _ _).out.mono ?_; rintro e w4 ⟨rfl, e4⟩))
  have hZ4 : w3.heap.size < w4.heap.size := by rw [e4, World.size_alloc]; omega
  have b34 : Below w3.heap.size w3 w4 := by rw [e4]; exact (Below.refl _ _).alloc (Nat.le_refl _) _
  have hbx : Boxed w4 w3.heap.size 106 (.int .u16 (headsM (foldD p).rules (foldD p).rules.length : Int)) := by rw [e4]; exact Boxed.new _ _ _
  have t4 := t3.step b34
  have s4 := t4.size
  have s3 := t3.size
  have o4 := o3.later b34
  have c4 := c3.later b34
  have s1 := b1.size
  rw [World.size_alloc] at s1
  have hyb : Boxed w4 W.heap.size 104 (.func (.yield l) #[] #[]) := by
   have h1 := Boxed.new W 104 (.func (.yield l) #[] #[])
   have h2 : Boxed w1 W.heap.size 104 (.func (.yield l) #[] #[]) := (b1.block W.heap.size (by rw [World.size_alloc]; omega)).trans h1
   have h3 := h2.alloc (.cells #[x0, x1, x2, x3, x4, x5, x6, x7] 30)
   have h4 : Boxed w3 W.heap.size 104 (.func (.yield l) #[] #[]) := (b3.block W.heap.size h3.lt).trans h3
   exact (b34.block W.heap.size h4.lt).trans h4
  have g4 : W.grownBy w4 none := below_grown t4
  have nr : ∀ (r : Nat), (none : Option Nat) = some r → W.heap.size ≤ r ∧ ∃ o : Obj, W.heap[r]? = some o ∧ o.isCells = false := fun r e => by cases e
  have zb4 : ZB Z w4 := hZB.turn hZ (Nat.le_refl _) g4 nr
  have zn4 : ∀ g, W.heap.size ≤ g → ¬ Z w4 g := fun g hg hz => hz0 g (Nat.le_trans hmW hg) (hZ W w4 none (Nat.le_refl _) g4 nr g hz)
  have fr4 : Fr Z W.heap.size w4 w4 := ⟨Nat.le_refl _, fun g h1 _ => ⟨rfl, zn4 g h1⟩⟩
  have hJ4 : J [] w4 := hJ [] W w4 none h0 g4 nr
  have hK : Hid (∀ X, Fr Z W.heap.size w4 X → Rd.R X [x0, x1, x2, x3, x4, x5, x6, x7] (foldD p) ∧ Cells X w1.heap.size 0 [x0, x1, x2, x3, x4, x5, x6, x7] ∧ Boxed X W.heap.size 104 (.func (.yield l) #[] #[])) := by
   intro X hX
   obtain ⟨fp, k1, k2⟩ := o4
   exact ⟨Ow.rd (Ow.kept k1 fun g hg => (hX.2 g (by have := k2 g hg; rw [World.size_alloc] at this; omega) (Ow.lt k1 g hg)).1), c4.kept (hX.2 _ (by omega) c4.lt).1, (hX.2 _ (Nat.le_refl _) hyb.lt).1.trans hyb⟩
  have hAn := fun (k : Nat) (x : MaskI) (X : World) (h : Rd.R X [x0, x1, x2, x3, x4, x5, x6, x7] (foldD p)) => Lib.hid (wideC (n := k) HF.out (by
   have := answerP_calls (mset x.1) h hok (mset_isP _)
   rw [mask_mset x.2] at this
   exact this))
  have hps := parts_seq HF.out (n - 1) (by omega) _ hH w4 w3.heap.size hbx W.heap.size (by omega)
  rw [← e4]
  clear o1 o2 o3 o4 cq c3 b1 b3 b34 q0 q1 q2 q3 q4 q5 q6 q7 st0 st1 st2 st3 st4 st5 st6 st7 e4 y0 y1 y2 y3 y4 y5 y6 y7 t1 t2 t3 hFo hHe hPa HF
  refine wpIn_rangeFunc_N hro hn0 (gf := 213) (lb := #[.pointer (some ⟨w3.heap.size, 0, none⟩)]) rfl hf5 (enters_of Tryz.func213 (by kernel_rfl) rfl)
   hps s4 (Below.refl _ _) (fun _ => rfl) Z (zok_up hZ s4) zb4 zn4
   (fun pre X => J (flA (foldD p) pre) X ∧ Fr Z W.heap.size w4 X)
   ?own ⟨hJ4, fr4⟩
   (fun x => { tmps := #[.func (.yield l) #[] #[], .pointer (some ⟨Bp, 0, none⟩), .pointer (some ⟨W.heap.size, 0, none⟩), .pointer (some ⟨w1.heap.size, 0, none⟩), .bool true, .int .u16 (x.1 : Int), .tuple #[.agg #[x0, x1, x2, x3, x4, x5, x6, x7], .bool true], .agg #[p0, p1, p2, p3, p4, p5, p6, p7], .tuple #[.agg #[x0, x1, x2, x3, x4, x5, x6, x7], .bool true], .agg #[x0, x1, x2, x3, x4, x5, x6, x7], .bool true, .bool true, .bool false, .agg #[x0, x1, x2, x3, x4, x5, x6, x7], .int .u16 (headsM (foldD p).rules (foldD p).rules.length : Int), .func (.func 213) #[] #[.pointer (some ⟨w3.heap.size, 0, none⟩)], .int .u16 (x.1 : Int), undef, undef, undef, undef, undef, undef, undef, undef, undef], defers := [] }) ?assign ?body ?done
  case own =>
   rintro s A B row ⟨h1, h2⟩ hg hr
   exact ⟨hJ _ A B row h1 hg fun r e => ⟨by have := (hr r e).1; omega, (hr r e).2⟩, h2.turn hZ s4 hg hr⟩
  case assign =>
   intro lc x X K hK
   gi_wp2
   exact hK
  case body =>
   rintro lc pre x X ⟨hj, hfr⟩ hlen hzb hsX
   obtain ⟨hRX, hcX, hyX⟩ := hK.out X hfr
   obtain ⟨q0, q1, q2, q3, q4, q5, q6, q7⟩ := cells8 hcX
   have hsW : W.heap.size ≤ X.heap.size := Nat.le_trans s4 hsX
   have hm1 : 1 ≤ n - 1 - 1 := by omega
   have nrX : ∀ (r : Nat), (none : Option Nat) = some r → W.heap.size ≤ r ∧ ∃ o : Obj, X.heap[r]? = some o ∧ o.isCells = false := fun r e => by cases e
   cases hA : ansQ (foldD p) (mset x.1)
   ·have hfl := Lib.hid (flA_no (xs := pre) hA)
    gi_wp2_with (gi_at_call 98; refine (CallsIn.inRound lc (hAn _ x X hRX).out).mono ?_; rintro e X2 ⟨he, b2⟩; rw [hA] at he; subst he)
    refine ⟨fun _ h => (by cases h), ?_⟩
    gi_wp2
    have kb := kpZ_below (m0 := W.heap.size) hZ hsW hzb b2
    exact ⟨kb, by rw [hfl.out]; exact hJ _ X X2 none hj (below_grown b2) nrX, hfr.kp kb⟩
   ·have hfl := Lib.hid (flA_yes (xs := pre) hA)
    have hlA := flA_len (foldD p) pre
    gi_wp2_with (gi_at_call 98; refine (CallsIn.inRound lc (hAn _ x X hRX).out).mono ?_; rintro e X2 ⟨he, b2⟩; rw [hA] at he; subst he; have kb := kpZ_below (m0 := W.heap.size) hZ hsW hzb b2; have fr2 := hfr.kp kb; have hc2 := (hK.out X2 fr2).2.2.cell; obtain ⟨fn, tmps, assign, body, hy, hR2⟩ := hY (flA (foldD p) pre) x X2 (hJ _ X X2 none hj (below_grown b2) nrX) kb.zb (Nat.le_trans hsW kb.size) (by omega))
    refine (roundIn_any hd lc hR2).mono ?_
    rintro e X3 ⟨rfl, hj3, k3⟩
    have k3' := k3.up hmW
    gi_wp2
    exact ⟨kb.trans k3', by rw [hfl.out]; exact hj3, fr2.kp k3'⟩
  case done =>
   rintro D xs X hD hS ⟨hj, hfr⟩ hK2
   gi_wp2
   have hfa := flA_all hS
   refine ⟨by simp, .inl ⟨_, _, rfl, run_takeDeferred hK2, ?_⟩⟩
   have gD := grownBy_putObj' X D (.deferred none)
   exact ⟨_, results_none rfl _ _ _, ⟨_, rfl⟩, flA (foldD p) xs, by rw [hYes.out]; exact hfa, hJ _ X _ (some D) hj gD (fun r e => by cases e; exact ⟨Nat.le_trans s4 hD, _, hK2, rfl⟩), Nat.le_trans (Nat.le_trans s4 hfr.1) gD.size⟩

attribute [local go_sem] Oper.semAt_some

theorem answersL_N (p : ProgD) : answersL p = (ansN p).map mset := by
 cases h : foldB p
 ·rw [answersL_no h, ansN_no h]; rfl
 ·rw [answersL_yes h, ansN_yes h]
  exact ansP_eq (foldR_ok h)
def zNo : World → Nat → Prop := fun _ _ => False

attribute [local go_sem] Oper.semAt_some



def zBox (Bs : Nat) (t : TypeId) : World → Nat → Prop := fun W g => ∃ v, Boxed W Bs t v ∧ v.ownBlock = some g
theorem zBox_ok {Bs n0 : Nat} {t : TypeId} (h : Bs < n0) : ZOk n0 (zBox Bs t) := fun A B row hn hg hr g ⟨v, h1, h2⟩ =>
 ⟨v, (hg.block Bs (by omega) fun e => by have := (hr Bs e.symm).1; omega).symm.trans h1, h2⟩

attribute [local go_sem] Oper.semAt_some


section
attribute [local go_sem] Oper.semAt_some

theorem wpListIn_append_ofM {F : Fence} {n : Nat} {P : Program} {ops : Array Oper} {rest : List Oper} {o : Oper} {a : Act} {Q : Exit → Act → World → Prop} {w w' : World} {t : TypeId} {v x v' : Value} (hg : o.guard = none) (s y : Operand)
  (hop : o.op = .call { callee := .builtin .append, args := #[s, y], argTypes := #[t, t] }) (hs : a.eval s = v) (hx : a.eval y = x)
  (hrun : (Builtin.append_ #[t, t] o.type #[v, x]).run P w = .ok v' w') (hK : wpListIn F n P ops Q rest (a.put o.dst v') w') : wpListIn F n P ops Q (o :: rest) a w := by
 refine wpListIn_plain hg fun K hK' => ?_
 unfold Oper.wpIn
 refine ⟨?_, ?_⟩
 ·simp [Oper.about, hop, resolve, Target.leads, Sem.run_pure]
 ·rw [Oper.semAt_plain F _ _ (by rw [hop]; intro c hc'; cases hc')]
  simp [execOp, hop, resolve, invoke, builtin, hs, hx, hrun, Result.andThen]
  exact hK' _ _ hK

abbrev OwnM (lo : Nat) (w : World) (v : Value) (ms : List Nat) : Prop := w.ownsRow lo 106 1 v ms.length (ms.map fun m : Nat => Value.int .u16 ((m : Nat) : Int))
theorem info_as : (Tryz.prog.info? 106).map (fun i => (i.zero, i.size, i.bytes)) = some (some (.int .u16 0), 1, 2) := by kernel_rfl
theorem own_masks {lo lo' : Nat} {W : World} {v : Value} {xs : List MaskI} {L : List Nat} (h : W.ownsRow lo' 106 1 v xs.length (xs.map fun x => Value.int .u16 (x.1 : Int))) (hS : xs.map (·.1) = L) (hlo : lo ≤ lo') : OwnM lo W v L := by
 subst hS
 show W.ownsRow lo 106 1 v (xs.map (·.1)).length ((xs.map (·.1)).map fun m : Nat => Value.int .u16 ((m : Nat) : Int))
 rw [List.length_map, List.map_map]
 exact ⟨h.1, h.2.imp id fun ⟨g, cap, cur, e1, e2, r⟩ => ⟨g, cap, cur, e1, Nat.le_trans hlo e2, r⟩⟩
theorem own_slice {lo : Nat} {W : World} {v : Value} {ms : List Nat} (h : OwnM lo W v ms) : ∃ a c, v = .slice a ms.length c := by
 rcases h.2 with ⟨rfl, hn⟩ | ⟨g, cap, cur, rfl, _⟩
 ·exact ⟨none, 0, by rw [hn]⟩
 ·exact ⟨_, _, rfl⟩
theorem own_cell {lo : Nat} {W : World} {v : Value} {ms : List Nat} (h : OwnM lo W v ms) (hne : 0 < ms.length) : ∃ g c, v = .slice (some ⟨g, 0, none⟩) ms.length c ∧ ∀ k, k < ms.length → W.cell? ⟨g, k, none⟩ = some (.int .u16 ((nth ms k : Nat) : Int)) := by
 have h0 := h
 rcases h.2 with ⟨rfl, hn⟩ | ⟨g, cap, cur, rfl, _⟩
 ·omega
 ·refine ⟨g, cap, rfl, fun k hk => ?_⟩
  rw [h0.cellAt _ (by omega), List.getElem?_map, List.getElem?_eq_getElem hk, nth_eq hk]
  rfl
theorem ownM_kept {lo : Nat} {w w' : World} {v : Value} {ms : List Nat} (h : OwnM lo w v ms) (hb : Below w.heap.size w w') : OwnM lo w' v ms :=
 ⟨h.1, h.2.imp id fun ⟨g, cap, cur, e1, e2, e3, r⟩ => ⟨g, cap, cur, e1, e2, (hb.block g (block_lt e3)).trans e3, r⟩⟩

set_option maxHeartbeats 8000000 in
theorem appendSeqM_calls {cs : List Value} {p : ProgD} (w : World) (Bp : Nat) (hR : Rd.R w cs p) (hb : Cells w Bp 0 cs) :
  Calls Tryz.prog 168 #[.slice none 0 0, .func (.func 169) #[] #[.pointer (some ⟨Bp, 0, none⟩)]] w fun e w' => ∃ v, e = .returned v ∧ OwnM w.heap.size w' v (ansN p) ∧ Below w.heap.size w w' := by
 obtain ⟨i0, hi, hz0, hz1, hz2⟩ := info_parts info_as
 obtain ⟨p0, p1, p2, p3, p4, p5, p6, p7, rfl⟩ := list8 (Rd.len hR)
 refine (callsIn_wide (n := 9)).1 ?_
 obtain ⟨F, hF⟩ : ∃ F, F = Fence.wide := ⟨_, rfl⟩
 rw [← hF]
 have hro := wideR hF
 have hf1 : F.fn 169 := wideF hF _
 have HF := Lib.hid hF
 refine callsIn_of_wp_marks Tryz.func168 rfl (wideF hF _) ?_ hro
 clear hF
 simp only [Tryz.ntmps168, List.size_toArray, List.length_cons, List.length_nil, Nat.reduceAdd, Nat.reduceSub, Array.replicate_succ, Array.replicate_zero, List.push_toArray, List.append_toArray, List.nil_append, List.cons_append]
 gi_wp2
 have bO := Boxed.new w 109 (.slice none 0 0)
 have tO : Below w.heap.size w (w.alloc (.cells #[.slice none 0 0] 109)) := (Below.refl _ w).alloc (Nat.le_refl _) _
 have tR : Below w.heap.size w (w.alloc (.cells #[.slice none 0 0] 109)) := tO
 have zO : (w.alloc (.cells #[.slice none 0 0] 109)).heap.size = w.heap.size + 1 := by simp
 generalize w.alloc (.cells #[.slice none 0 0] 109) = wq at *
 have HZ := Lib.hid zO
 have hzl : w.heap.size < wq.heap.size := by omega
 clear zO
 have hseq := answers_seq HF.out 8 (by omega) wq Bp (Rd.mono tO hR) (hb.later tO) wq.heap.size
 have boxEq : ∀ {X : World} {v v' : Value}, Boxed X w.heap.size 109 v → Boxed X w.heap.size 109 v' → v = v' := fun h1 h2 => by
  unfold Boxed at h1 h2
  rw [h1] at h2
  simpa using h2
 have zw : ∀ g, ¬ zBox w.heap.size 109 wq g := by
  rintro g ⟨v, h1, h2⟩
  rw [← boxEq bO h1] at h2
  cases h2
 clear HF hR hb tR
 refine wpIn_rangeFunc_N hro (by omega) (gf := 169) (lb := #[.pointer (some ⟨Bp, 0, none⟩)]) rfl hf1 (enters_of Tryz.func169 (by kernel_rfl) rfl)
  hseq (Nat.le_refl _) (Below.refl _ _) (fun _ => rfl) (zBox w.heap.size 109) (zBox_ok (by omega)) (fun g hg => absurd hg (zw g)) (fun g _ => zw g)
  (fun pre X => (∃ v, Boxed X w.heap.size 109 v ∧ X.ownsRow wq.heap.size 106 1 v pre.length (pre.map fun x => Value.int .u16 (x.1 : Int)) ∧ True) ∧ Below w.heap.size w X)
  (OwnFrom.and (Own.from (holdsRow_own wq.heap.size w.heap.size 109 106 1 (fun pre : List MaskI => pre.length) (fun pre => pre.map fun x => Value.int .u16 (x.1 : Int)) (fun _ _ => True)) _) (ownFrom_below (Nat.le_refl _) (by omega)))
  ⟨⟨_, bO, World.ownsRow_nil _ _ _ _, trivial⟩, tO⟩
  (fun x => { tmps := #[.slice none 0 0, .func (.func 169) #[] #[.pointer (some ⟨Bp, 0, none⟩)], .pointer (some ⟨w.heap.size, 0, none⟩), undef, .slice none 0 0, .int .u16 (x.1 : Int), .func (.func 169) #[] #[.pointer (some ⟨Bp, 0, none⟩)], .int .u16 (x.1 : Int), undef, undef, undef, undef, undef], defers := [] }) ?assign ?body ?done
 case assign =>
  intro lc x X K hK
  gi_wp2
  exact hK
 case body =>
  rintro lc pre x X ⟨⟨v, hv, hrow, _⟩, hB⟩ hlen hzb hsX
  have hc := hv.cell
  have hvl := hv.lt
  have hrow1 := hrow.alloc (.cells #[.int .u16 (x.1 : Int)] 106)
  have zA : (X.alloc (.cells #[.int .u16 (x.1 : Int)] 106)).heap.size = X.heap.size + 1 := by simp
  obtain ⟨v', w1, r1, r2, r3, _, r5⟩ := run_append_own_at (P := Tryz.prog) (w := X.alloc (.cells #[.int .u16 (x.1 : Int)] 106)) wq.heap.size 109 109 106 i0 (.int .u16 0) 1 2 Tryz.underlying109 hi hz0 hz1 hz2 rfl (by decide) v pre.length _ hrow1 ⟨X.heap.size, 0, none⟩ 1 1 [.int .u16 (x.1 : Int)] rfl (cell_one_new _ _ _) (by simp [Value.oneCell']) (by unfold maxLen; omega) (by omega) (by omega)
  obtain ⟨g', cap', rfl⟩ := ownsRow_succ r2
  have hv1 := (hv.alloc (.cells #[.int .u16 (x.1 : Int)] 106)).kept r3 (fun e => by have := (hrow.lt _ e.symm).1; omega)
  have hc1 := hv1.cell
  have hz1' := hv1.frozen
  have hset := hv1.set (.slice (some ⟨g', 0, none⟩) (pre.length + 1) cap')
  have gS := grownBy_setCell' w1 w.heap.size (.slice (some ⟨g', 0, none⟩) (pre.length + 1) cap')
  have s1 := r3.size
  have hLeaf : Hid (KpZ (zBox w.heap.size 109) wq.heap.size X (w1.setCell ⟨w.heap.size, 0, none⟩ (.slice (some ⟨g', 0, none⟩) (pre.length + 1) cap')) ∧ (∃ v, Boxed (w1.setCell ⟨w.heap.size, 0, none⟩ (.slice (some ⟨g', 0, none⟩) (pre.length + 1) cap')) w.heap.size 109 v ∧ (w1.setCell ⟨w.heap.size, 0, none⟩ (.slice (some ⟨g', 0, none⟩) (pre.length + 1) cap')).ownsRow wq.heap.size 106 1 v (pre ++ [x]).length ((pre ++ [x]).map fun x => Value.int .u16 (x.1 : Int)) ∧ True) ∧ Below w.heap.size w (w1.setCell ⟨w.heap.size, 0, none⟩ (.slice (some ⟨g', 0, none⟩) (pre.length + 1) cap'))) := by
   refine ⟨⟨by have := gS.size; omega, fun g o hg ho hnz => ?_, fun g ⟨v', h1, h2⟩ => ?_, fun g ⟨v', h1, h2⟩ => ?_⟩, ⟨_, hset, ?_, trivial⟩, ?_⟩
   ·have hgl := (Array.getElem?_eq_some_iff.1 ho).1
    have e1 := gS.block g (by omega) (fun e => by have := Option.some.inj e; omega)
    have e2 := r3.block g (by omega) (fun e => hnz ⟨_, hv, e.symm⟩)
    exact e1.trans (e2.trans ((Below.heap_alloc _ _ _ hgl).trans ho))
   ·have e := boxEq h1 hset
    subst e
    rcases r5 with e | e
    ·exact .inl ⟨_, hv, e ▸ h2⟩
    ·rw [e] at h2
     have := Option.some.inj h2
     exact .inr (by omega)
   ·have e := boxEq h1 hset
    subst e
    rcases r2.2 with ⟨hn, _⟩ | ⟨g2, c2, cur2, e2, hg2, hh2, _⟩
    ·cases hn
    ·simp only [Value.slice.injEq, Option.some.injEq, Addr.mk.injEq] at e2
     have hgg : g' = g := by simpa [Value.ownBlock] using h2
     obtain rfl : g2 = g := by omega
     exact ⟨_, (gS.block _ (block_lt hh2) (fun e => by have := Option.some.inj e; omega)).trans hh2, rfl⟩
   ·rw [List.length_append, List.map_append]
    exact ownsRow_setCell_below r2 (show w.heap.size < wq.heap.size by omega) _
   ·exact ((hB.alloc hB.size _).grown r3 (by omega) (fun k hk => by have := (hrow1.lt k hk).1; omega)).setCell (p := ⟨w.heap.size, 0, none⟩) (by show w.heap.size ≤ w.heap.size; omega) _
  clear hset gS r2 r3 r5 hv1 hrow1 hrow
  gi_wp2_with (gi_at_builtin; refine wpListIn_append_ofM rfl _ _ rfl rfl rfl r1 ?_)
  obtain ⟨k1, ⟨v9, b9, r9, _⟩, k3⟩ := hLeaf.out
  exact ⟨k1, ⟨v9, b9, by simpa using r9⟩, k3⟩
 case done =>
  rintro D xs X hD hS ⟨⟨v, hv, hrow, _⟩, hB⟩ hK2
  have hc := hv.cell
  gi_wp2
  refine ⟨by simp, .inl ⟨_, _, rfl, run_takeDeferred hK2, ?_⟩⟩
  exact ⟨_, results_tmp rfl _ _ _, v, rfl, own_masks (ownsRow_putObj hrow _ hK2 rfl) hS (by omega), hB.trans (belowK_b (w := w) (Nat.le_refl _) X D _ _ (by omega) hK2 rfl rfl)⟩

theorem collectM_calls {cs : List Value} {p : ProgD} (w : World) (Bp : Nat) (hR : Rd.R w cs p) (hb : Cells w Bp 0 cs) :
  Calls Tryz.prog 79 #[.func (.func 169) #[] #[.pointer (some ⟨Bp, 0, none⟩)]] w fun e w' => ∃ v, e = .returned v ∧ OwnM w.heap.size w' v (ansN p) ∧ Below w.heap.size w w' := by
 go_enter Tryz.func79, Tryz.ntmps79
 go_wp2_with fail
 refine (appendSeqM_calls w Bp hR hb).mono ?_
 rintro e w2 ⟨v, rfl, ho, hB⟩
 obtain ⟨a, c, rfl⟩ := own_slice ho
 go_wp2
 go_ret
 exact ⟨_, rfl, ho, hB⟩

end

theorem map_take_nth {f : Nat → List Int} {ms : List Nat} {k : Nat} (hk : k < ms.length) : (ms.take (k + 1)).map f = (ms.take k).map f ++ [f (nth ms k)] := by
 rw [take_nth hk, List.map_append]; rfl
set_option maxHeartbeats 4000000 in
theorem setsOf_calls {lo : Nat} {w : World} {v : Value} {ms : List Nat} (h : OwnM lo w v ms) (hm : ∀ m ∈ ms, m < 4096) (hl : ms.length ≤ 4096) :
  Calls Tryz.prog 78 #[v] w fun e w' => ∃ u, e = .returned u ∧ Own w.heap.size w' [u] (ms.map mset) ∧ Below w.heap.size w w' := by
 obtain ⟨i0, hi, hz0, hz1, hz2⟩ := info_parts info_set
 obtain ⟨am, cm, rfl⟩ := own_slice h
 have hlen : (ms.length : Int) ≤ 4096 := by omega
 have HM := Lib.hid hm
 clear hm
 go_enter Tryz.func78, Tryz.ntmps78
 go_wp2_with (at_make; refine wpList_make_own _ rfl _ _ 40 rfl w.heap.size 44 i0 (.agg #[.slice none 0 0]) 1 Tryz.underlying40 hi hz0 hz1 _ _ _ ms.length rfl rfl rfl ?c1 ?c2 ?c3 ?_)
 case c1 => rw [hz2]; omega
 case c2 => unfold maxLen; omega
 case c3 => exact Nat.le_refl _
 intro w1 hown hgrow
 have ho1 : OwnR (α := List Int) w.heap.size 44 w1 (.slice (some ⟨w.heap.size, 0, none⟩) 0 ms.length) [] := OwnR.start hown
 have hb1 : Below w.heap.size w w1 := (Below.refl _ _).grown hgrow (Nat.le_refl _) (fun k hk => by cases hk)
 clear hown hgrow
 go_wp2
 go_loopw [3, 11] (fun v i wr => ∃ k : Nat, k ≤ ms.length ∧ i = .int .i64 k ∧ OwnR (α := List Int) w.heap.size 44 wr v ((ms.take k).map mset) ∧ Below w.heap.size w wr) (fun _ i _ => ms.length - (intOf i).toNat)
 case atStart => exact ⟨0, Nat.zero_le _, rfl, by rw [List.take_zero]; exact ho1, hb1⟩
 case round =>
  obtain ⟨k, hk, rfl, ho, hb⟩ := hrel
  clear ho1 hb1
  have hsz := hb.size
  by_cases hlt : k < ms.length
  ·obtain ⟨g, c, hv, hc⟩ := own_cell (ownM_kept h hb) (by omega)
   simp only [Value.slice.injEq, true_and] at hv
   obtain ⟨rfl, rfl⟩ := hv
   have hck := hc k hlt
   have hmk := HM.out _ (nth_mem hlt)
   have hst := Lib.hid (map_take_nth (f := mset) hlt)
   have htl : ((ms.take k).map mset).length = k := by rw [List.length_map, List.length_take]; omega
   have hl12 : (mset (nth ms k)).length ≤ 12 := pickTo_len _ _
   generalize nth ms k = m at *
   clear hc
   go_wp2_with fail
   refine (list_calls _ _ hmk).mono ?_
   rintro e w2 ⟨v2, rfl, ho2, hb2⟩
   obtain ⟨a2, n2, rfl, _, _⟩ := ho2.open
   have hCn := Cells.new w2 [.slice a2 (pickTo (hasM m) 12).length n2] 44
   have ho2' := ho2.own.alloc (.cells #[.slice a2 (pickTo (hasM m) 12).length n2] 44)
   have hb3 := ((Below.refl _ _).step hb2).alloc hb2.size (.cells #[.slice a2 (pickTo (hasM m) 12).length n2] 44)
   have hbN := (hb.step hb2).alloc (by have := hb2.size; omega) (.cells #[.slice a2 (pickTo (hasM m) 12).length n2] 44)
   go_wp2_with (at_builtin; refine wpList_append_one (α := List Int) rfl _ _ rfl i0 (.agg #[.slice none 0 0]) 24 Tryz.underlying40 hi hz0 hz1 hz2 rfl (by decide) rfl rfl ho (Nat.le_refl _) hb3 hCn ho2' (by rw [htl]; omega) (by omega) hsz ?_; intro v3 w3 ho3 hb4 hg4)
   go_roundw
   case rel => exact ⟨k + 1, by omega, by go_num, by rw [hst.out]; exact ho3, hbN.trans hb4⟩
   case measure => simp [intOf]; omega
  ·have hkx : Hid ((ms.take k).map mset = ms.map mset) := by show _ = _; rw [List.take_of_length_le (by omega)]
   rw [hkx.out] at ho
   clear hkx
   go_wp2
   go_ret
   exact ⟨_, rfl, ho.own, hb⟩

theorem ansN_ok (p : ProgD) : (∀ m ∈ ansN p, m < 4096) ∧ (ansN p).length ≤ 4096 := by
 unfold ansN
 split
 ·have hH := headsM_lt (foldD p).rules (foldD p).rules.length
  unfold ansP subsTo
  refine ⟨fun m hm => ?_, ?_⟩
  ·have h1 := (List.mem_filter.1 (List.mem_filter.1 hm).1).1
   have := List.mem_range.1 h1
   omega
  ·refine Nat.le_trans (List.length_filter_le _ _) (Nat.le_trans (List.length_filter_le _ _) ?_)
   rw [List.length_range]
   omega
 ·simp
set_option maxHeartbeats 4000000 in
theorem implAnswers_calls {cs : List Value} {p : ProgD} {w : World} (h : Rd.R w cs p) :
  Calls Tryz.prog 20 #[.agg cs.toArray] w fun e w' => ∃ u, e = .returned u ∧ Own w.heap.size w' [u] (answersL p) ∧ Below w.heap.size w w' := by
 obtain ⟨p0, p1, p2, p3, p4, p5, p6, p7, rfl⟩ := list8 (Rd.len h)
 have t0 : Below w.heap.size w (w.alloc (.cells #[p0, p1, p2, p3, p4, p5, p6, p7] 30)) := (Below.refl _ _).alloc (by simp) _
 obtain ⟨hm, hl⟩ := ansN_ok p
 have HM := Lib.hid hm
 clear hm
 have HA := Lib.hid (answersL_N p)
 go_enter Tryz.func20, Tryz.ntmps20
 go_wp2_with fail
 refine (answersSeq_calls p0 p1 p2 p3 p4 p5 p6 p7 _).mono ?_
 rintro e w4 ⟨rfl, e4⟩
 have CX := Cells.new (w.alloc (.cells #[p0, p1, p2, p3, p4, p5, p6, p7] 30)) [p0, p1, p2, p3, p4, p5, p6, p7] 30
 have t4 : Below w.heap.size w w4 := by rw [e4]; exact t0.alloc t0.size _
 rw [← e4, World.size_alloc] at CX
 rw [World.size_alloc]
 clear e4
 go_wp2_with fail
 refine (collectM_calls w4 _ (Rd.mono t4 h) CX).mono ?_
 rintro e w5 ⟨v5, rfl, o5, b5⟩
 have t5 := t4.step b5
 go_wp2_with fail
 refine (setsOf_calls o5 HM.out hl).mono ?_
 rintro e w6 ⟨u6, rfl, o6, b6⟩
 go_wp2
 go_ret
 exact ⟨_, rfl, by rw [HA.out]; exact o6.mono t5.size, t5.step b6⟩

end Go.Proofs.YthikhkeofcjdfaaGreat
