/-
  Why an atom is there: reasons, told of lists. No condition of its own.
-/
import Derived.Test.YtleimijgpmoifaaGreatSupD
namespace Go.Proofs.YtleimijgpmoifaaGreat
set_option linter.unusedVariables false
set_option linter.unusedSimpArgs false
open Go.RowKit
set_option maxRecDepth 100000

/-- Does the i-th rule give a, where the atoms of ts are there? -/
def givB (rs : List RuleD) (ts xs : List Int) (a : Int) (i : Nat) : Bool := hasB (nth rs i).heads a && reachB (nth rs i) (h2B ts xs)
/-- The least of the first k rules that gives a. -/
def rulTo (rs : List RuleD) (ts xs : List Int) (a : Int) : Nat → Option Nat
  | 0 => none
  | k + 1 => match rulTo rs ts xs a k with
    | some i => some i
    | none => if givB rs ts xs a k then some k else none
def rulF (rs : List RuleD) (ts xs : List Int) (a : Int) : Option Nat := rulTo rs ts xs a rs.length
section
variable {rs : List RuleD} {ts xs : List Int} {a : Int}
theorem rulTo_no {k : Nat} (h : rulTo rs ts xs a k = none) (hg : givB rs ts xs a k = false) : rulTo rs ts xs a (k + 1) = none := by simp [rulTo, h, hg]
theorem rulTo_yes {k : Nat} (h : rulTo rs ts xs a k = none) (hg : givB rs ts xs a k = true) : rulTo rs ts xs a (k + 1) = some k := by simp [rulTo, h, hg]
theorem rulTo_stay {k i : Nat} (h : rulTo rs ts xs a k = some i) : ∀ n, k ≤ n → rulTo rs ts xs a n = some i
  | 0, hn => by obtain rfl : k = 0 := by omega
                exact h
  | n + 1, hn => by
    rcases Nat.lt_or_ge n k with hk | hk
    · obtain rfl : k = n + 1 := by omega
      exact h
    · simp [rulTo, rulTo_stay h n hk]
theorem rulF_at {k : Nat} (hk : k < rs.length) (h : rulTo rs ts xs a k = none) (hg : givB rs ts xs a k = true) : rulF rs ts xs a = some k := rulTo_stay (rulTo_yes h hg) _ hk
theorem rulTo_lt : ∀ {k i : Nat}, rulTo rs ts xs a k = some i → i < k ∧ givB rs ts xs a i = true
  | 0, _, h => by simp [rulTo] at h
  | k + 1, i, h => by
    cases hr : rulTo rs ts xs a k
    · cases hg : givB rs ts xs a k
      · rw [rulTo_no hr hg] at h; cases h
      · rw [rulTo_yes hr hg] at h
        obtain rfl := Option.some.inj h
        exact ⟨by omega, hg⟩
    · have := rulTo_stay hr (k + 1) (by omega)
      rw [h] at this
      obtain rfl := Option.some.inj this
      obtain ⟨h1, h2⟩ := rulTo_lt hr
      exact ⟨by omega, h2⟩
end
/-- The number that spec's helper answers: -1 of none. -/
def rulI (o : Option Nat) : Int := match o with | some i => (i : Int) | none => -1

/-- What an atom gives. -/
def nxA (rs : List RuleD) (ts xs : List Int) (a : Int) : Option (Int × Int) := (rulF rs ts xs a).map fun i => (a, (i : Int))
/-- The atoms of a list that are not there. -/
def outL (ts l : List Int) : List Int := l.filter fun a => !hasB ts a
/-- The next Reason, of the first k atoms. -/
def nxTo (rs : List RuleD) (ts xs : List Int) (k : Nat) : Option (Int × Int) := (outL ts (xs.take k)).findSome? (nxA rs ts xs)
def nxt (rs : List RuleD) (ts xs : List Int) : Option (Int × Int) := (outL ts xs).findSome? (nxA rs ts xs)
section
variable {rs : List RuleD} {ts xs : List Int}
theorem nxTo_all {k : Nat} (h : xs.length ≤ k) : nxTo rs ts xs k = nxt rs ts xs := by unfold nxTo nxt; rw [List.take_of_length_le h]
theorem nxTo_succ {k : Nat} (hk : k < xs.length) : nxTo rs ts xs (k + 1) = (nxTo rs ts xs k).or (if hasB ts (el xs k) then none else nxA rs ts xs (el xs k)) := by
  unfold nxTo outL
  rw [take_el hk, List.filter_append, List.findSome?_append]
  congr 1
  cases h : hasB ts (el xs k) <;> simp [h]
theorem nxTo_in {k : Nat} (hk : k < xs.length) (h : nxTo rs ts xs k = none) (hh : hasB ts (el xs k) = true) : nxTo rs ts xs (k + 1) = none := by rw [nxTo_succ hk, h, hh]; rfl
theorem nxTo_no {k : Nat} (hk : k < xs.length) (h : nxTo rs ts xs k = none) (hr : rulF rs ts xs (el xs k) = none) : nxTo rs ts xs (k + 1) = none := by
  rw [nxTo_succ hk, h]
  cases hh : hasB ts (el xs k) <;> simp [nxA, hr]
theorem nxTo_stay {k : Nat} {q : Int × Int} (h : nxTo rs ts xs k = some q) : nxt rs ts xs = some q := by
  unfold nxTo at h
  unfold nxt
  have e : outL ts xs = outL ts (xs.take k) ++ outL ts (xs.drop k) := by unfold outL; rw [← List.filter_append, List.take_append_drop]
  rw [e, List.findSome?_append, h]; rfl
theorem nxTo_yes {k i : Nat} (hk : k < xs.length) (h : nxTo rs ts xs k = none) (hh : hasB ts (el xs k) = false) (hr : rulF rs ts xs (el xs k) = some i) : nxt rs ts xs = some (el xs k, (i : Int)) := by
  refine nxTo_stay (k := k + 1) ?_
  rw [nxTo_succ hk, h, hh]
  simp [nxA, hr]
theorem nxt_mem {q : Int × Int} (h : nxt rs ts xs = some q) : q.1 ∈ xs ∧ hasB ts q.1 = false ∧ 0 ≤ q.2 ∧ q.2.toNat < rs.length ∧ givB rs ts xs q.1 q.2.toNat = true := by
  unfold nxt at h
  obtain ⟨a, ha, hq⟩ := List.exists_of_findSome?_eq_some h
  unfold outL at ha
  rw [List.mem_filter] at ha
  unfold nxA at hq
  cases hr : rulF rs ts xs a
  · rw [hr] at hq; cases hq
  · rename_i i
    rw [hr] at hq
    obtain rfl := Option.some.inj hq
    obtain ⟨h1, h2⟩ := rulTo_lt hr
    exact ⟨ha.1, by simpa using ha.2, by show (0 : Int) ≤ (i : Int); omega, by show (i : Int).toNat < _; rw [Int.toNat_natCast]; exact h1, by show givB rs ts xs a (i : Int).toNat = true; rw [Int.toNat_natCast]; exact h2⟩
end
abbrev fsts (l : List (Int × Int)) : List Int := l.map Prod.fst
theorem fsts_snoc (l : List (Int × Int)) (q : Int × Int) : fsts (l ++ [q]) = fsts l ++ [q.1] := by simp [fsts]
theorem fsts_len (l : List (Int × Int)) : (fsts l).length = l.length := by simp [fsts]
theorem nodup_le : ∀ {l m : List Int}, l.Nodup → (∀ a ∈ l, a ∈ m) → l.length ≤ m.length
  | [], _, _, _ => by simp
  | a :: l, m, hn, hs => by
    rw [List.nodup_cons] at hn
    have ha := hs a (List.mem_cons_self ..)
    have ih := nodup_le (l := l) (m := m.erase a) hn.2 fun b hb => by
      have hne : b ≠ a := fun e => by subst e; exact hn.1 hb
      exact (List.mem_erase_of_ne hne).2 (hs b (List.mem_cons_of_mem _ hb))
    rw [List.length_erase_of_mem ha] at ih
    have hp : 0 < m.length := List.length_pos_of_mem ha
    simp only [List.length_cons]
    omega
/-- The Reasons after k turns. -/
def whyK (rs : List RuleD) (xs : List Int) : Nat → List (Int × Int)
  | 0 => []
  | k + 1 => match nxt rs (fsts (whyK rs xs k)) xs with
    | none => whyK rs xs k
    | some q => whyK rs xs k ++ [q]
def whyF (rs : List RuleD) (xs : List Int) : List (Int × Int) := whyK rs xs xs.length
section
variable {rs : List RuleD} {xs : List Int}
theorem whyK_none {k : Nat} (h : nxt rs (fsts (whyK rs xs k)) xs = none) : whyK rs xs (k + 1) = whyK rs xs k := by simp [whyK, h]
theorem whyK_some {k : Nat} {q : Int × Int} (h : nxt rs (fsts (whyK rs xs k)) xs = some q) : whyK rs xs (k + 1) = whyK rs xs k ++ [q] := by simp [whyK, h]
theorem whyK_nodup : ∀ k, (fsts (whyK rs xs k)).Nodup ∧ ∀ q ∈ whyK rs xs k, q.1 ∈ xs ∧ 0 ≤ q.2 ∧ q.2.toNat < rs.length
  | 0 => by simp [whyK, fsts]
  | k + 1 => by
    obtain ⟨h1, h2⟩ := whyK_nodup k
    cases hn : nxt rs (fsts (whyK rs xs k)) xs
    · rw [whyK_none hn]; exact ⟨h1, h2⟩
    · rename_i q
      obtain ⟨ha, hb, hc, hd, _⟩ := nxt_mem hn
      rw [whyK_some hn, fsts_snoc]
      refine ⟨?_, fun r hr => ?_⟩
      · rw [List.nodup_append]
        refine ⟨h1, by simp, fun a h3 b h4 e => ?_⟩
        rw [List.mem_singleton] at h4
        subst e
        subst h4
        exact absurd h3 (of_decide_eq_false hb)
      · rcases List.mem_append.1 hr with hr | hr
        · exact h2 r hr
        · rw [List.mem_singleton.1 hr]; exact ⟨ha, hc, hd⟩
theorem whyK_le (k : Nat) : (whyK rs xs k).length ≤ xs.length := by
  obtain ⟨h1, h2⟩ := whyK_nodup (rs := rs) (xs := xs) k
  have := nodup_le h1 (m := xs) fun a ha => by
    obtain ⟨q, hq, rfl⟩ := List.mem_map.1 ha
    exact (h2 q hq).1
  rwa [fsts_len] at this
theorem whyK_stop {k : Nat} (h : nxt rs (fsts (whyK rs xs k)) xs = none) : ∀ n, k ≤ n → whyK rs xs n = whyK rs xs k
  | 0, hn => by obtain rfl : k = 0 := by omega
                rfl
  | n + 1, hn => by
    rcases Nat.lt_or_ge n k with hk | hk
    · obtain rfl : k = n + 1 := by omega
      rfl
    · have ih := whyK_stop h n hk
      have h' : nxt rs (fsts (whyK rs xs n)) xs = none := by rw [ih]; exact h
      rw [whyK_none h', ih]
theorem whyF_end {k : Nat} (hl : (whyK rs xs k).length = k) (h : nxt rs (fsts (whyK rs xs k)) xs = none) : whyF rs xs = whyK rs xs k := by
  have := whyK_le (rs := rs) (xs := xs) k
  exact whyK_stop h _ (by omega)
theorem whyK_go {k : Nat} {q : Int × Int} (hl : (whyK rs xs k).length = k) (h : nxt rs (fsts (whyK rs xs k)) xs = some q) : (whyK rs xs (k + 1)).length = k + 1 ∧ k < xs.length := by
  have h1 := whyK_le (rs := rs) (xs := xs) (k + 1)
  rw [whyK_some h, List.length_append, hl] at h1 ⊢
  simp at h1 ⊢
  omega
theorem whyF_le : (whyF rs xs).length ≤ xs.length := whyK_le _
theorem whyF_mem {q : Int × Int} (h : q ∈ whyF rs xs) : q.1 ∈ xs ∧ 0 ≤ q.2 ∧ q.2.toNat < rs.length := (whyK_nodup _).2 q h
end
/-- Is x a set of the folded program's atoms? -/
def whyB (p : ProgD) (xs : List Int) : Bool := foldB p && setOkB xs (foldD p).atoms
def whyR (p : ProgD) (xs : List Int) : List (Int × Int) := if whyB p xs then whyF (foldD p).rules xs else []
theorem whyB_A {p : ProgD} {xs : List Int} (h : foldB p = false) : whyB p xs = false := by simp only [whyB, h, Bool.false_and]
theorem whyB_B {p : ProgD} {xs : List Int} (h : foldB p = true) : whyB p xs = setOkB xs (foldD p).atoms := by simp only [whyB, h, Bool.true_and]
theorem whyB_fold {p : ProgD} {xs : List Int} (h : whyB p xs = true) : foldB p = true ∧ setOkB xs (foldD p).atoms = true := by simpa only [whyB, Bool.and_eq_true] using h
theorem whyR_no {p : ProgD} {xs : List Int} (h : whyB p xs = false) : whyR p xs = [] := by simp [whyR, h]
theorem whyR_yes {p : ProgD} {xs : List Int} (h : whyB p xs = true) : whyR p xs = whyF (foldD p).rules xs := by simp [whyR, h]
theorem whyB_isP {p : ProgD} {xs : List Int} (h : whyB p xs = true) : IsP xs := progOk_len (whyB_fold h).2 (progOk_atoms (foldR_ok (whyB_fold h).1))
theorem whyR_len (p : ProgD) (xs : List Int) : (whyR p xs).length ≤ 12 := by
  cases h : whyB p xs
  · rw [whyR_no h]; simp
  · rw [whyR_yes h]
    exact Nat.le_trans whyF_le (whyB_isP h).le
/-- May a Reason come behind those whose atoms are ts? -/
def alwB (rs : List RuleD) (ts xs : List Int) (q : Int × Int) : Bool := (hasB xs q.1 && !hasB ts q.1) && (btwB q.2 0 ((rs.length : Int) - 1) && givB rs ts xs q.1 q.2.toNat)
theorem alwB_A {rs : List RuleD} {ts xs : List Int} {q : Int × Int} (h : (hasB xs q.1 && !hasB ts q.1) = false) : alwB rs ts xs q = false := by simp only [alwB, h, Bool.false_and]
theorem alwB_B {rs : List RuleD} {ts xs : List Int} {q : Int × Int} (h : btwB q.2 0 ((rs.length : Int) - 1) = false) : alwB rs ts xs q = false := by simp only [alwB, h, Bool.false_and, Bool.and_false]
theorem alwB_C {rs : List RuleD} {ts xs : List Int} {q : Int × Int} (h : (hasB xs q.1 && !hasB ts q.1) = true) (h' : btwB q.2 0 ((rs.length : Int) - 1) = true) : alwB rs ts xs q = givB rs ts xs q.1 q.2.toNat := by simp only [alwB, h, h', Bool.true_and]
/-- Are the first k of the Reasons right? -/
def alwTo (rs : List RuleD) (xs : List Int) (l : List (Int × Int)) : Nat → Bool := toB fun k => alwB rs (fsts (l.take k)) xs (nth l k)
def reaQ (rs : List RuleD) (xs : List Int) (l : List (Int × Int)) : Bool := decide (l.length = xs.length) && alwTo rs xs l l.length
def reaB (p : ProgD) (xs : List Int) (l : List (Int × Int)) : Bool := whyB p xs && reaQ (foldD p).rules xs l
theorem reaB_A {p : ProgD} {xs : List Int} {l : List (Int × Int)} (h : whyB p xs = false) : reaB p xs l = false := by simp only [reaB, h, Bool.false_and]
theorem reaB_B {p : ProgD} {xs : List Int} {l : List (Int × Int)} (h : whyB p xs = true) : reaB p xs l = reaQ (foldD p).rules xs l := by simp only [reaB, h, Bool.true_and]
theorem reaQ_no {rs : List RuleD} {xs : List Int} {l : List (Int × Int)} {k : Nat} (hk : k < l.length) (h : alwB rs (fsts (l.take k)) xs (nth l k) = false) : reaQ rs xs l = false := by
  unfold reaQ alwTo
  rw [toB_no (f := fun k => alwB rs (fsts (l.take k)) xs (nth l k)) h hk, Bool.and_false]
theorem alwTo_step {rs : List RuleD} {xs : List Int} {l : List (Int × Int)} {k : Nat} (h0 : alwTo rs xs l k = true) (h : alwB rs (fsts (l.take k)) xs (nth l k) = true) : alwTo rs xs l (k + 1) = true := toB_yes h0 h
theorem alwTo_nodup {rs : List RuleD} {xs : List Int} {l : List (Int × Int)} : ∀ {k : Nat}, k ≤ l.length → alwTo rs xs l k = true → (fsts (l.take k)).Nodup ∧ ∀ a ∈ fsts (l.take k), a ∈ xs
  | 0, _, _ => by simp [fsts]
  | k + 1, hk, h => by
    have h0 : alwTo rs xs l k = true := by
      unfold alwTo at h ⊢
      simp only [toB, Bool.and_eq_true] at h
      first | exact h.1 | exact h.2
    have h1 : alwB rs (fsts (l.take k)) xs (nth l k) = true := toB_at (f := fun k => alwB rs (fsts (l.take k)) xs (nth l k)) h (by omega)
    obtain ⟨i1, i2⟩ := alwTo_nodup (by omega) h0
    rw [take_nth (by omega), fsts_snoc]
    simp only [alwB, Bool.and_eq_true, hasB, decide_eq_true_eq, Bool.not_eq_true', decide_eq_false_iff_not] at h1
    refine ⟨?_, fun a ha => ?_⟩
    · rw [List.nodup_append]
      refine ⟨i1, by simp, fun a h3 b h4 e => ?_⟩
      rw [List.mem_singleton] at h4
      subst e
      subst h4
      exact h1.1.2 h3
    · rcases List.mem_append.1 ha with ha | ha
      · exact i2 a ha
      · rw [List.mem_singleton.1 ha]; exact h1.1.1
theorem isP_nodup (f : Int → Bool) : ∀ n, (pickTo f n).Nodup
  | 0 => by simp [pickTo]
  | n + 1 => by
    have ih := isP_nodup f n
    cases h : f ((n : Int) + 1)
    · rw [pickTo_no h]; exact ih
    · rw [pickTo_yes h, List.nodup_append]
      refine ⟨ih, by simp, fun a h3 b h4 e => ?_⟩
      rw [List.mem_singleton] at h4
      subst e
      subst h4
      have := ((mem_pickTo f _ n).1 h3).2.1
      omega
/-- What the program asks at the end: no atom of x is lacking. -/
theorem lack_end {rs : List RuleD} {xs : List Int} {l : List (Int × Int)} (hx : IsP xs) (h : alwTo rs xs l l.length = true) :
    ((((maskOf xs &&& (65535 - maskOf (fsts l)) : Nat) : Int)) == 0) = reaQ rs xs l := by
  obtain ⟨h1, h2⟩ := alwTo_nodup (Nat.le_refl _) h
  rw [List.take_length] at h1 h2
  have hr : reaQ rs xs l = decide (l.length = xs.length) := by unfold reaQ; rw [h, Bool.and_true]
  rw [hr]
  have hxm : ∀ a ∈ xs, 1 ≤ a ∧ a ≤ 12 := fun a ha => by
    rw [hx] at ha
    have := (mem_pickTo _ _ _).1 ha
    omega
  have hl := nodup_le h1 h2
  rw [fsts_len] at hl
  by_cases hz : (maskOf xs &&& (65535 - maskOf (fsts l)) : Nat) = 0
  · have hs : ∀ a ∈ xs, a ∈ fsts l := fun a ha => by
      have hb := less_bit xs (fsts l) a (hxm a ha)
      rw [hz, hasM_zero] at hb
      cases hh : hasB (fsts l) a
      · rw [hh, show hasB xs a = true from decide_eq_true ha] at hb; cases hb
      · exact of_decide_eq_true hh
    have hn : xs.Nodup := by rw [hx]; exact isP_nodup _ _
    have hg := nodup_le hn hs
    rw [fsts_len] at hg
    rw [hz, decide_eq_true (show l.length = xs.length by omega)]
    rfl
  · have hne : l.length ≠ xs.length := fun e => hz (by
      refine zero_of_bits (Nat.lt_of_le_of_lt Nat.and_le_left (maskOf_lt _)) fun a ha1 ha2 => ?_
      rw [less_bit xs (fsts l) a ⟨ha1, ha2⟩]
      cases hh : hasB xs a
      · rfl
      · cases hf : hasB (fsts l) a
        · have hn : (a :: fsts l).Nodup := List.nodup_cons.2 ⟨of_decide_eq_false hf, h1⟩
          have := nodup_le hn (m := xs) fun b hb => by
            rcases List.mem_cons.1 hb with rfl | hb
            · exact of_decide_eq_true hh
            · exact h2 b hb
          rw [List.length_cons, fsts_len] at this
          omega
        · rfl)
    rw [decide_eq_false hne]
    exact beq_eq_false_iff_ne.2 (by omega)
/-- The atoms that are lacking, as the program comes by them. -/
theorem lack_list {ts xs : List Int} (hx : IsP xs) : pickTo (hasM (maskOf xs &&& (65535 - maskOf ts))) 12 = outL ts xs := by
  rw [pickTo_congr (g := fun a => hasB xs a && !hasB ts a) fun a h1 h2 => less_bit xs ts a ⟨h1, by omega⟩]
  have h : ∀ n, pickTo (fun a => hasB xs a && !hasB ts a) n = outL ts (pickTo (hasB xs) n) := fun n => by
    induction n with
    | zero => rfl
    | succ n ih =>
      cases hb : hasB xs ((n : Int) + 1)
      · rw [pickTo_no (f := hasB xs) hb, pickTo_no (by simp [hb]), ih]
      · cases ht : hasB ts ((n : Int) + 1)
        · rw [pickTo_yes (f := hasB xs) hb, pickTo_yes (by simp [hb, ht]), ih]; simp [outL, ht]
        · rw [pickTo_yes (f := hasB xs) hb, pickTo_no (by simp [ht]), ih]; simp [outL, ht]
  rw [h 12, ← hx]

/-- What tells against a set. -/
def agaN (p : ProgD) (xs : List Int) : Int := if whyB p xs then (if (brkR p xs).length = 0 then (if (unfR p xs).length = 0 then 0 else 2) else 1) else -1
def agaL (p : ProgD) (xs : List Int) : List Int := if whyB p xs then (if (brkR p xs).length = 0 then unfR p xs else [el (brkR p xs) 0]) else []
theorem aga_A {p : ProgD} {xs : List Int} (h : whyB p xs = false) : agaN p xs = -1 ∧ agaL p xs = [] := by simp [agaN, agaL, h]
theorem aga_B {p : ProgD} {xs : List Int} (h : whyB p xs = true) (hb : (brkR p xs).length ≠ 0) : agaN p xs = 1 ∧ agaL p xs = [el (brkR p xs) 0] := by simp [agaN, agaL, h, hb]
theorem aga_C {p : ProgD} {xs : List Int} (h : whyB p xs = true) (hb : (brkR p xs).length = 0) (hu : (unfR p xs).length ≠ 0) : agaN p xs = 2 ∧ agaL p xs = unfR p xs := by simp [agaN, agaL, h, hb, hu]
theorem aga_D {p : ProgD} {xs : List Int} (h : whyB p xs = true) (hb : (brkR p xs).length = 0) (hu : (unfR p xs).length = 0) : agaN p xs = 0 ∧ agaL p xs = [] := by
  have : unfR p xs = [] := List.eq_nil_of_length_eq_zero hu
  simp [agaN, agaL, h, hb, this]
theorem agaL_len (p : ProgD) (xs : List Int) : (agaL p xs).length ≤ 12 := by
  unfold agaL
  split
  · split
    · exact unfR_len p xs
    · simp
  · simp

end Go.Proofs.YtleimijgpmoifaaGreat
