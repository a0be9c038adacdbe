/-
  Consequences: pure, of both sides. No condition of its own.
-/
import Derived.Test.YtleimijgpmoifaaGreatRange
import Derived.Test.YtleimijgpmoifaaGreatValF
import Derived.Test.YtleimijgpmoifaaGreatAnsT
import Derived.Test.YtleimijgpmoifaaGreatSetsB
import Derived.Test.YtleimijgpmoifaaGreatVal
namespace Go.Proofs.YtleimijgpmoifaaGreat
set_option linter.unusedVariables false
set_option linter.unusedSimpArgs false
open Go.RowKit
set_option maxRecDepth 100000

/-! ### ConD -/
set_option linter.unusedVariables false
set_option linter.unusedSimpArgs false

/-- Does a set agree with values? In bits. -/
def agM (t f m : Nat) : Bool := inM t m && (((f &&& m : Nat) : Int) == 0)
def conS (t f : Nat) (ms : List MaskI) : Nat := ms.foldl (fun s m => if agM t f m.1 then s ||| m.1 else s) 0
def conA (t f : Nat) (ms : List MaskI) : Nat := ms.foldl (fun s m => if agM t f m.1 then s &&& m.1 else s) 4095
def conO (t f : Nat) (ms : List MaskI) : Bool := ms.any fun m => agM t f m.1
section
variable {t f : Nat} {ms : List MaskI} {m : MaskI}
theorem conS_yes (h : agM t f m.1 = true) : conS t f (ms ++ [m]) = conS t f ms ||| m.1 := by simp [conS, List.foldl_append, h]
theorem conS_no (h : agM t f m.1 = false) : conS t f (ms ++ [m]) = conS t f ms := by simp [conS, List.foldl_append, h]
theorem conA_yes (h : agM t f m.1 = true) : conA t f (ms ++ [m]) = conA t f ms &&& m.1 := by simp [conA, List.foldl_append, h]
theorem conA_no (h : agM t f m.1 = false) : conA t f (ms ++ [m]) = conA t f ms := by simp [conA, List.foldl_append, h]
theorem conO_yes (h : agM t f m.1 = true) : conO t f (ms ++ [m]) = true := by simp [conO, h]
theorem conO_no (h : agM t f m.1 = false) : conO t f (ms ++ [m]) = conO t f ms := by simp [conO, h]
end
theorem snoc_ind {α : Type} {P : List α → Prop} (h0 : P []) (h1 : ∀ xs x, P xs → P (xs ++ [x])) (xs : List α) : P xs := by
  have : ∀ n (xs : List α), xs.length = n → P xs := by
    intro n
    induction n with
    | zero => intro xs h; obtain rfl := List.eq_nil_of_length_eq_zero h; exact h0
    | succ n ih =>
      intro xs h
      have hne : xs ≠ [] := by intro e; subst e; simp at h
      rw [← List.dropLast_concat_getLast hne]
      exact h1 _ _ (ih _ (by simp; omega))
  exact this _ xs rfl
theorem conS_lt (t f : Nat) (ms : List MaskI) : conS t f ms < 4096 := by
  refine snoc_ind (P := fun ms => conS t f ms < 4096) ?_ ?_ ms
  · show (0 : Nat) < 4096; omega
  · intro xs x ih
    cases h : agM t f x.1
    · rw [conS_no h]; exact ih
    · rw [conS_yes h]; exact Nat.or_lt_two_pow (n := 12) ih x.2
theorem conA_lt (t f : Nat) (ms : List MaskI) : conA t f ms < 4096 := by
  refine snoc_ind (P := fun ms => conA t f ms < 4096) ?_ ?_ ms
  · show (4095 : Nat) < 4096; omega
  · intro xs x ih
    cases h : agM t f x.1
    · rw [conA_no h]; exact ih
    · rw [conA_yes h]; exact Nat.lt_of_le_of_lt Nat.and_le_left ih
theorem agM_nil (m : Nat) : agM 0 0 m = true := by
  unfold agM inM
  simp
theorem mset_or (a b : Nat) (ha : a < 4096) (hb : b < 4096) : mset (a ||| b) = pickTo (pickJ (mset a) (mset b)) 12 := by
  have := join_same (mset a) (mset b)
  rw [mask_mset ha, mask_mset hb] at this
  exact this
theorem mset_and (a b : Nat) (ha : a < 4096) (hb : b < 4096) : mset (a &&& b) = pickTo (pickM (mset a) (mset b)) 12 := by
  have := meet_same (mset a) (mset b)
  rw [mask_mset ha, mask_mset hb] at this
  exact this
theorem mset_sub (a b : Nat) (ha : a < 4096) (hb : b < 4096) : mset (a &&& (65535 - b)) = pickTo (pickL (mset a) (mset b)) 12 := by
  have := less_same (mset a) (mset b)
  rw [mask_mset ha, mask_mset hb] at this
  exact this

theorem ansN_lt {p : ProgD} {m : Nat} (h : m ∈ ansN p) : m < 4096 := by
  cases hF : foldB p
  · rw [ansN_no hF] at h; cases h
  · rw [ansN_yes hF] at h
    unfold ansP subsTo at h
    rw [List.mem_filter, List.mem_filter, List.mem_range] at h
    have := headsM_lt (foldD p).rules (foldD p).rules.length
    omega
theorem ansN_ms (p : ProgD) : ∃ ms : List MaskI, ms.map (·.1) = ansN p := ⟨(ansN p).attach.map fun x => ⟨x.1, ansN_lt x.2⟩, by simp⟩

/-! ### Brave -/
def brTo (xs : List (List Int)) : Nat → List Int
  | 0 => []
  | k + 1 => pickTo (pickJ (brTo xs k) (nth xs k)) 12
theorem brTo_succ (xs : List (List Int)) (k : Nat) : brTo xs (k + 1) = pickTo (pickJ (brTo xs k) (nth xs k)) 12 := rfl
theorem brTo_len (xs : List (List Int)) : ∀ k, (brTo xs k).length ≤ 12
  | 0 => by simp [brTo]
  | k + 1 => pickTo_len _ _
theorem take_snoc {α : Type} [Inhabited α] {xs : List α} {k : Nat} (h : k < xs.length) : xs.take (k + 1) = xs.take k ++ [nth xs k] := take_nth h
theorem map_nth {α β : Type} [Inhabited α] [Inhabited β] {xs : List α} {k : Nat} (f : α → β) (h : k < xs.length) : nth (xs.map f) k = f (nth xs k) := by
  rw [nth_eq (by simpa using h), nth_eq h]; simp
instance : Inhabited MaskI := ⟨⟨0, by omega⟩⟩
def mls (ms : List MaskI) : List (List Int) := ms.map fun m => mset m.1
theorem mls_nth {ms : List MaskI} {k : Nat} (h : k < ms.length) : nth (mls ms) k = mset (nth ms k).1 := map_nth _ h
theorem mls_len (ms : List MaskI) : (mls ms).length = ms.length := by simp [mls]
theorem br_mask (ms : List MaskI) : ∀ k, k ≤ ms.length → brTo (mls ms) k = mset (conS 0 0 (ms.take k))
  | 0, _ => by simp [brTo, conS, mset_zero]
  | k + 1, h => by
    have ih := br_mask ms k (by omega)
    rw [brTo_succ, ih, mls_nth (by omega), take_snoc (by omega), conS_yes (agM_nil _), mset_or _ _ (conS_lt _ _ _) (nth ms k).2]
def braveR (p : ProgD) : List Int := brTo (answersL p) (answersL p).length
def someB (p : ProgD) : Bool := decide (0 < (answersL p).length)
theorem braveR_len (p : ProgD) : (braveR p).length ≤ 12 := brTo_len _ _
theorem brave_mask {p : ProgD} {ms : List MaskI} (h : ms.map (·.1) = ansN p) : mset (conS 0 0 ms) = braveR p := by
  have hl : answersL p = mls ms := by rw [answersL_N, ← h, List.map_map]; rfl
  unfold braveR
  rw [hl, mls_len, br_mask ms _ (Nat.le_refl _), List.take_length]
theorem some_mask {p : ProgD} {ms : List MaskI} (h : ms.map (·.1) = ansN p) : conO 0 0 ms = someB p := by
  have hl : answersL p = mls ms := by rw [answersL_N, ← h, List.map_map]; rfl
  unfold someB
  rw [hl, mls_len]
  cases ms with
  | nil => rfl
  | cons a r => simp [conO, agM_nil]

/-! ### Cautious -/
def ctTo (xs : List (List Int)) : Nat → List Int
  | 0 => nth xs 0
  | k + 1 => pickTo (pickM (ctTo xs k) (nth xs k)) 12
theorem ctTo_succ (xs : List (List Int)) (k : Nat) : ctTo xs (k + 1) = pickTo (pickM (ctTo xs k) (nth xs k)) 12 := rfl
theorem ct_mask (ms : List MaskI) (h0 : 0 < ms.length) : ∀ k, k ≤ ms.length → ctTo (mls ms) k = mset ((nth ms 0).1 &&& conA 0 0 (ms.take k))
  | 0, _ => by
    show nth (mls ms) 0 = _
    rw [mls_nth h0]
    have e : (nth ms 0).1 &&& conA 0 0 (ms.take 0) = (nth ms 0).1 := by
      show (nth ms 0).1 &&& (2 ^ 12 - 1) = _
      rw [Nat.and_two_pow_sub_one_eq_mod]
      exact Nat.mod_eq_of_lt (nth ms 0).2
    rw [e]
  | k + 1, h => by
    have ih := ct_mask ms h0 k (by omega)
    rw [ctTo_succ, ih, mls_nth (by omega), take_snoc (by omega), conA_yes (agM_nil _), ← Nat.and_assoc, mset_and ((nth ms 0).1 &&& conA 0 0 (ms.take k)) (nth ms k).1 (Nat.lt_of_le_of_lt Nat.and_le_left (nth ms 0).2) (nth ms k).2]
theorem conA_sub {t f : Nat} {ms : List MaskI} {m : MaskI} (h : m ∈ ms) (ha : agM t f m.1 = true) : m.1 &&& conA t f ms = conA t f ms := by
  revert h
  refine snoc_ind (P := fun ms => m ∈ ms → m.1 &&& conA t f ms = conA t f ms) ?_ ?_ ms
  · intro h; cases h
  · intro xs x ih h
    rcases List.mem_append.1 h with h | h
    · cases hx : agM t f x.1
      · rw [conA_no hx]; exact ih h
      · rw [conA_yes hx, ← Nat.and_assoc, ih h]
    · obtain rfl : m = x := by simpa using h
      rw [conA_yes ha, Nat.and_comm (conA t f xs), ← Nat.and_assoc, Nat.and_self]
theorem conS_sup {t f : Nat} {ms : List MaskI} {m : MaskI} (h : m ∈ ms) (ha : agM t f m.1 = true) : m.1 ||| conS t f ms = conS t f ms := by
  revert h
  refine snoc_ind (P := fun ms => m ∈ ms → m.1 ||| conS t f ms = conS t f ms) ?_ ?_ ms
  · intro h; cases h
  · intro xs x ih h
    rcases List.mem_append.1 h with h | h
    · cases hx : agM t f x.1
      · rw [conS_no hx]; exact ih h
      · rw [conS_yes hx, ← Nat.or_assoc, ih h]
    · obtain rfl : m = x := by simpa using h
      rw [conS_yes ha, Nat.or_comm (conS t f xs), ← Nat.or_assoc, Nat.or_self]
def cautR (p : ProgD) : List Int := if someB p then ctTo (answersL p) (answersL p).length else []
theorem cautR_no {p : ProgD} (h : someB p = false) : cautR p = [] := by simp [cautR, h]
theorem cautR_yes {p : ProgD} (h : someB p = true) : cautR p = ctTo (answersL p) (answersL p).length := by simp [cautR, h]
theorem caut_mask {p : ProgD} {ms : List MaskI} (h : ms.map (·.1) = ansN p) (hs : someB p = true) : mset (conA 0 0 ms) = cautR p := by
  have hl : answersL p = mls ms := by rw [answersL_N, ← h, List.map_map]; rfl
  have h0 : 0 < ms.length := by
    unfold someB at hs
    rw [hl, mls_len] at hs
    simpa using hs
  rw [cautR_yes hs, hl, mls_len, ct_mask ms h0 _ (Nat.le_refl _), List.take_length, conA_sub (nth_mem h0) (agM_nil _)]
theorem cautR_len (p : ProgD) : (cautR p).length ≤ 12 := by
  cases hs : someB p
  · rw [cautR_no hs]; simp
  · obtain ⟨ms, hm⟩ := ansN_ms p
    rw [← caut_mask hm hs]
    exact mset_len _

/-! ### ConS -/
set_option linter.unusedVariables false
set_option linter.unusedSimpArgs false



/-! ### ConI -/
set_option linter.unusedVariables false
set_option linter.unusedSimpArgs false

attribute [local go_sem] Oper.semAt_some

theorem braveR_no {p : ProgD} (h : someB p = false) : braveR p = [] := by
  unfold someB at h
  have h := of_decide_eq_false h
  unfold braveR
  rw [show (answersL p).length = 0 by omega]
  rfl

end Go.Proofs.YtleimijgpmoifaaGreat
