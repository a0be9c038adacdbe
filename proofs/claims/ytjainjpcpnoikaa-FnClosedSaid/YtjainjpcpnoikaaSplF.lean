/-
  What is closed splits the program, and is the least such set: pure. No condition of its own.
-/
import Derived.Test.YtjainjpcpnoikaaSplD
import Derived.Test.YtjainjpcpnoikaaAnsD
namespace Go.Proofs.Ytjainjpcpnoikaa
set_option linter.unusedVariables false
set_option linter.unusedSimpArgs false
open Go.RowKit
set_option maxRecDepth 100000

theorem riseS_lt : ∀ {xs : List Int}, Rises xs → ∀ (i j : Nat), i < j → (hj : j < xs.length) → el xs i < el xs j
  | [], _, _, _, _, hj => absurd hj (by simp)
  | x :: r, h, i, 0, hij, _ => absurd hij (by omega)
  | x :: r, h, 0, j + 1, _, hj => by
    have hj' : j < r.length := by simpa using hj
    have e1 : el (x :: r) 0 = x := rfl
    have e2 : el (x :: r) (j + 1) = el r j := rfl
    rw [e1, e2]
    exact h.1 _ (el_mem hj')
  | x :: r, h, i + 1, j + 1, hij, hj => by
    have e1 : el (x :: r) (i + 1) = el r i := rfl
    have e2 : el (x :: r) (j + 1) = el r j := rfl
    rw [e1, e2]
    exact riseS_lt h.2 i j (by omega) (by simpa using hj)
theorem setOk_riseS {xs : List Int} {n : Int} (h0 : 0 ≤ n ∧ n ≤ 12) (h : Rises xs) (hb : ∀ y ∈ xs, 1 ≤ y ∧ y ≤ n) : setOkB xs n = true := by
  rw [setOkB_in h0]
  have : ∀ k, k ≤ xs.length → okTo xs n k = true := by
    intro k
    induction k with
    | zero => intro _; rfl
    | succ k ih =>
      intro hk
      have hs : okStep xs n k = true := by
        by_cases hz : k = 0
        · exact okStep_B (hb _ (el_mem (by omega))) hz
        · exact okStep_C (hb _ (el_mem (by omega))) (riseS_lt h (k - 1) k (by omega) (by omega))
      simp only [okTo, ih (by omega), hs, Bool.and_self]
  exact this _ (Nat.le_refl _)
theorem hasB_pickTo_S (f : Int → Bool) (n : Nat) (a : Int) : hasB (pickTo f n) a = (decide (1 ≤ a ∧ a ≤ n) && f a) := by
  unfold hasB
  rw [Bool.eq_iff_iff, Bool.and_eq_true, decide_eq_true_eq, decide_eq_true_eq, mem_pickTo]
  constructor
  · rintro ⟨h1, h2, h3⟩; exact ⟨⟨h1, h2⟩, h3⟩
  · rintro ⟨⟨h1, h2⟩, h3⟩; exact ⟨h1, h2, h3⟩
theorem hasM_upToS {n : Nat} {x : Int} (h : 1 ≤ x ∧ x ≤ 12) : hasM (2 ^ n - 1) x = decide (x ≤ n) := by
  rw [hasM_bit _ _ h, Nat.testBit_two_pow_sub_one, decide_eq_decide]
  omega
/-- As the program makes it. -/
theorem setOk_mem {xs : List Int} {n : Int} (h : setOkB xs n = true) : ∀ y ∈ xs, 1 ≤ y ∧ y ≤ n := by
  rw [setOkB_in (setOkB_n h)] at h
  have := (okTo_take (Nat.le_refl _) h).2.1
  rwa [List.take_length] at this
theorem mset_mem {m : Nat} {a : Int} : a ∈ mset m ↔ (1 ≤ a ∧ a ≤ 12) ∧ hasM m a = true := by
  unfold mset
  rw [mem_pickTo]
  exact ⟨fun h => ⟨⟨h.1, h.2.1⟩, h.2.2⟩, fun h => ⟨h.1.1, h.1.2, h.2⟩⟩
theorem setOk_mset {m n : Nat} (hn : n ≤ 12) (h : ∀ x : Int, 1 ≤ x → x ≤ 12 → hasM m x = true → x ≤ n) : setOkB (mset m) (n : Int) = true :=
  setOk_riseS ⟨by omega, by omega⟩ (rises_pickTo _ _) fun y hy => ⟨(mset_mem.1 hy).1.1, h y (mset_mem.1 hy).1.1 (mset_mem.1 hy).1.2 (mset_mem.1 hy).2⟩
/-- The atoms of a rule are no greater than what it is right for. -/
theorem evM_le {r : RuleD} {n : Int} (h : ruleOkB r n = true) (hn : n ≤ 12) {x : Int} (h1 : 1 ≤ x) (h2 : x ≤ 12) (hx : hasM (evM r) x = true) : x ≤ n := by
  have hf := fits_ruleOk (ruleOkB_mono h hn (by omega))
  have hm : hasB (atomsB r) x = true := by rw [← evM_atoms hf, hasB_mset ⟨h1, h2⟩]; exact hx
  have h3 : hasB (r.heads ++ r.body.map fun p => atomS p.1) x = true := by
    have := hasB_pickTo (f := hasB (r.heads ++ r.body.map fun p => atomS p.1)) ⟨h1, h2⟩
    rw [← this]; exact hm
  unfold hasB at h3
  rw [decide_eq_true_eq, List.mem_append, List.mem_map] at h3
  simp only [ruleOkB, headsB, bodyB, wlitB, Bool.and_eq_true, List.all_eq_true] at h
  rcases h3 with h3 | ⟨p, hp, rfl⟩
  · exact (setOk_mem h.1.1 x h3).2
  · have h4 := (h.2.2 p hp).1.1
    simp only [litB, btwB, Bool.or_eq_true, decide_eq_true_eq] at h4
    unfold atomS
    split <;> omega
/-- The closure is in each closed set that has what it was made of. -/
theorem and_zero_mono {X T H : Nat} (hX : X < 4096) (hs : ∀ x : Int, 1 ≤ x → x ≤ 12 → hasM X x = true → hasM T x = true) (h : T &&& H = 0) : X &&& H = 0 :=
  zero_of_bits (Nat.lt_of_le_of_lt Nat.and_le_left hX) fun x h1 h2 => by
    have h3 := hasM_and (a := T) (b := H) ⟨h1, h2⟩
    rw [h] at h3
    rw [hasM_and ⟨h1, h2⟩]
    cases hx : hasM X x
    · rfl
    · rw [hs x h1 h2 hx, Bool.true_and] at h3
      rw [Bool.true_and, ← h3]
      simp [hasM]
theorem clR_min {X T : Nat} {r : RuleD} (hX : X < 4096) (hT : T < 4096) (hc : clB T r = true) (hs : ∀ x : Int, 1 ≤ x → x ≤ 12 → hasM X x = true → hasM T x = true) : ∀ x : Int, 1 ≤ x → x ≤ 12 → hasM (clR X r) x = true → hasM T x = true := by
  intro x h1 h2 hx
  unfold clR at hx
  split at hx
  · exact hs x h1 h2 hx
  · rename_i hz
    rw [hasM_or ⟨h1, h2⟩, Bool.or_eq_true] at hx
    rcases hx with hx | hx
    · exact hs x h1 h2 hx
    · unfold clB at hc
      rw [Bool.or_eq_true, decide_eq_true_eq, decide_eq_true_eq] at hc
      rcases hc with hc | hc
      · exact absurd (and_zero_mono hX hs hc) hz
      · exact (or_eq_iff hT (evM_lt r)).1 hc x h1 h2 hx
theorem clTo_min {rs : List RuleD} {X T : Nat} (hX : X < 4096) (hT : T < 4096) (hc : rs.all (clB T) = true) (hs : ∀ x : Int, 1 ≤ x → x ≤ 12 → hasM X x = true → hasM T x = true) : ∀ k, k ≤ rs.length → ∀ x : Int, 1 ≤ x → x ≤ 12 → hasM (clTo rs X k) x = true → hasM T x = true
  | 0, _ => hs
  | k + 1, hk => clR_min (clTo_lt hX k) hT (List.all_eq_true.1 hc _ (nth_mem hk)) (clTo_min hX hT hc hs k (by omega))
theorem clN_min {rs : List RuleD} {X T : Nat} (hX : X < 4096) (hT : T < 4096) (hc : rs.all (clB T) = true) (hs : ∀ x : Int, 1 ≤ x → x ≤ 12 → hasM X x = true → hasM T x = true) : ∀ n, ∀ x : Int, 1 ≤ x → x ≤ 12 → hasM (clN rs X n) x = true → hasM T x = true
  | 0 => hs
  | n + 1 => clTo_min (clN_lt hX n) hT hc (clN_min hX hT hc hs n) _ (Nat.le_refl _)
theorem clN_sub {rs : List RuleD} {m : Nat} {x : Int} (h : 1 ≤ x ∧ x ≤ 12) (hx : hasM m x = true) : ∀ n, hasM (clN rs m n) x = true
  | 0 => hx
  | n + 1 => clTo_sub h (clN_sub h hx n) _
section
variable {p : ProgD} {xs : List Int} {n : Nat}
/-- What the closure is made of. -/
def withM (n : Nat) (xs : List Int) : Nat := maskOf xs &&& (2 ^ n - 1)
theorem pow_lt12 (hn : n ≤ 12) : 2 ^ n - 1 < 4096 := by
  have h1 : 2 ^ n ≤ 2 ^ 12 := Nat.pow_le_pow_right (by omega) hn
  have h2 : 0 < 2 ^ n := Nat.two_pow_pos _
  omega
theorem withM_lt (n : Nat) (xs : List Int) : withM n xs < 4096 := Nat.lt_of_le_of_lt Nat.and_le_left (maskOf_lt xs)
theorem withM_le {x : Int} (hn : n ≤ 12) (h : 1 ≤ x ∧ x ≤ 12) (hx : hasM (withM n xs) x = true) : x ≤ n := by
  unfold withM at hx
  rw [hasM_and h, Bool.and_eq_true, hasM_upToS h, decide_eq_true_eq] at hx
  exact hx.2
theorem up_closed (hF : foldB p = true) (hn : (foldD p).atoms = (n : Int)) (hn12 : n ≤ 12) : (foldD p).rules.all (clB (2 ^ n - 1)) = true := by
  rw [List.all_eq_true]
  intro r hr
  have hok := (progOk_rules (foldR_ok hF)).2 r hr
  rw [hn] at hok
  refine clB_iff.2 ?_
  unfold clR
  split
  · rfl
  · refine (or_eq_iff (pow_lt12 hn12) (evM_lt r)).2 fun x h1 h2 hx => ?_
    rw [hasM_upToS ⟨h1, h2⟩, decide_eq_true_eq]
    exact evM_le hok (by omega) h1 h2 hx
theorem cls_M (hn : (foldD p).atoms = (n : Int)) : clsM p xs = clL (foldD p).rules (withM n xs) := by
  unfold clsM withM
  rw [hn, Int.toNat_natCast]
theorem cls_lt (hn : (foldD p).atoms = (n : Int)) : clsM p xs < 4096 := by rw [cls_M hn]; exact clL_lt (withM_lt n xs)
theorem cls_le (hF : foldB p = true) (hn : (foldD p).atoms = (n : Int)) (hn12 : n ≤ 12) {x : Int} (h1 : 1 ≤ x) (h2 : x ≤ 12) (hx : hasM (clsM p xs) x = true) : x ≤ n := by
  rw [cls_M hn] at hx
  have := clN_min (rs := (foldD p).rules) (withM_lt n xs) (pow_lt12 hn12) (up_closed hF hn hn12) (fun x h1 h2 hx => by rw [hasM_upToS ⟨h1, h2⟩, decide_eq_true_eq]; exact withM_le hn12 ⟨h1, h2⟩ hx) 13 x h1 h2 hx
  rwa [hasM_upToS ⟨h1, h2⟩, decide_eq_true_eq] at this
theorem cls_fix (hn : (foldD p).atoms = (n : Int)) : clL (foldD p).rules (clsM p xs) = clsM p xs := by
  rw [cls_M hn]; exact clL_of_fix (clL_fix (withM_lt n xs))
/-- It splits the program. -/
theorem cls_split (hF : foldB p = true) (hn : (foldD p).atoms = (n : Int)) (hn12 : n ≤ 12) : splB p (clsR p xs) = true := by
  have hS : setOkB (clsR p xs) (foldD p).atoms = true := by rw [clsR_yes hF, hn]; exact setOk_mset hn12 fun x h1 h2 hx => cls_le hF hn hn12 h1 h2 hx
  rw [splB_yes hF, splQ_B hS, ← spl_eq (by rw [clsR_yes hF]; exact mset_isP _) fun r hr => fits_ruleOk (rules12 (foldR_ok hF) r hr), clsR_yes hF, mask_mset (cls_lt hn), cls_fix hn, decide_eq_true_eq]
/-- It is its own closure. -/
theorem cls_twice (hF : foldB p = true) (hn : (foldD p).atoms = (n : Int)) (hn12 : n ≤ 12) : clsR p (clsR p xs) = clsR p xs := by
  have h1 : withM n (clsR p xs) = clsM p xs := by
    rw [clsR_yes hF]
    unfold withM
    rw [mask_mset (cls_lt hn)]
    refine mset_inj (Nat.lt_of_le_of_lt Nat.and_le_left (cls_lt hn)) (cls_lt hn) (pickTo_congr fun x h1 h2 => ?_)
    rw [hasM_and ⟨h1, by omega⟩]
    cases hx : hasM (clsM p xs) x
    · rfl
    · rw [Bool.true_and, hasM_upToS ⟨h1, by omega⟩, decide_eq_true_eq]
      exact cls_le hF hn hn12 h1 (by omega) hx
  rw [clsR_yes (us := clsR p xs) hF, cls_M (xs := clsR p xs) hn, h1, cls_fix hn, ← clsR_yes hF]
/-- What it was made of is in it. -/
theorem less_nil {a b : Nat} (h : ∀ x : Int, 1 ≤ x → x ≤ 12 → hasM a x = true → hasM b x = true) : pickTo (pickL (mset a) (mset b)) 12 = [] := by
  have : pickTo (pickL (mset a) (mset b)) 12 = pickTo (fun _ => false) 12 := pickTo_congr fun x h1 h2 => by
    unfold pickL pickF
    rw [hasB_mset ⟨h1, by omega⟩, hasB_mset ⟨h1, by omega⟩]
    cases hx : hasM a x
    · cases hasM b x <;> rfl
    · rw [h x h1 (by omega) hx]; rfl
  rw [this]
  decide
theorem nil_less {xs ys : List Int} (h : (pickTo (pickL xs ys) 12).length = 0) {x : Int} (h1 : 1 ≤ x) (h2 : x ≤ 12) (hx : hasB xs x = true) : hasB ys x = true := by
  have e := List.length_eq_zero_iff.1 h
  cases hy : hasB ys x
  · have : x ∈ pickTo (pickL xs ys) 12 := (mem_pickTo _ _ _).2 ⟨h1, by omega, by unfold pickL pickF; rw [hx, hy]; rfl⟩
    rw [e] at this
    cases this
  · rfl
theorem cls_has (hF : foldB p = true) (hn : (foldD p).atoms = (n : Int)) : ((pickTo (pickL (mset (withM n xs)) (clsR p xs)) 12).length : Int) = 0 := by
  rw [clsR_yes hF, less_nil fun x h1 h2 hx => by rw [cls_M hn]; exact clN_sub ⟨h1, h2⟩ hx 13]
  rfl
/-- Without any other atom it splits no more. -/
theorem cls_least (hF : foldB p = true) (hn : (foldD p).atoms = (n : Int)) {a : Int} (ha : a ∈ clsR p xs) (hw : ((pickTo (pickL (mset (withM n xs)) (pickTo (pickL (clsR p xs) [a]) 12)) 12).length : Int) = 0) : splB p (pickTo (pickL (clsR p xs) [a]) 12) = false := by
  cases hs : splB p (pickTo (pickL (clsR p xs) [a]) 12)
  · rfl
  exfalso
  rw [splB_yes hF] at hs
  cases hS : setOkB (pickTo (pickL (clsR p xs) [a]) 12) (foldD p).atoms
  · rw [splQ_A hS] at hs; cases hs
  have hV : IsP (pickTo (pickL (clsR p xs) [a]) 12) := isP_pick _
  rw [splQ_B hS, ← spl_eq hV fun r hr => fits_ruleOk (rules12 (foldR_ok hF) r hr), decide_eq_true_eq] at hs
  have hs' : clL (foldD p).rules (maskOf (pickTo (pickL (clsR p xs) [a]) 12)) = maskOf (pickTo (pickL (clsR p xs) [a]) 12) := by omega
  have hc := (clL_iff (maskOf_lt _)).1 hs'
  rw [clsR_yes hF] at ha
  obtain ⟨⟨h1, h2⟩, hx⟩ := mset_mem.1 ha
  rw [cls_M hn] at hx
  have h3 := clN_min (rs := (foldD p).rules) (withM_lt n xs) (maskOf_lt _) hc (fun x h1 h2 hx => by
    rw [hasM_maskOf _ _ ⟨h1, h2⟩]
    exact nil_less (Int.ofNat_inj.1 hw) h1 h2 (by rw [hasB_mset ⟨h1, h2⟩]; exact hx)) 13 a h1 h2 hx
  rw [hasM_maskOf _ _ ⟨h1, h2⟩, hasB_pickTo ⟨h1, h2⟩] at h3
  unfold pickL pickF at h3
  rw [show hasB [a] a = true from by unfold hasB; simp] at h3
  revert h3
  cases hasB (clsR p xs) a <;> simp
end
end Go.Proofs.Ytjainjpcpnoikaa
