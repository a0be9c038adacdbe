/-
  TidyRule: what it answers. No condition of its own.
-/
import Derived.Test.YtgckeaijbmcdcaaTidyS
namespace Go.Proofs.Ytgckeaijbmcdcaa
open Go.RowKit
set_option maxRecDepth 100000

def anyL (os : List (Int × Int)) (l : Int) : Bool := os.any (fun p => p.1 == l)
theorem any_take {α : Type} [Inhabited α] {f : α → Bool} {xs : List α} {k : Nat} (hk : k < xs.length) : (xs.take (k + 1)).any f = ((xs.take k).any f || f (nth xs k)) := by
  rw [take_nth hk, List.any_append]; simp
/-- Two neighbours that are one atom's. -/
def oppTo (os : List (Int × Int)) : Nat → Bool
  | 0 => false
  | k + 1 => oppTo os k || decide ((nth os k).1 = -(nth os (k + 1)).1)
def oppB (os : List (Int × Int)) : Bool := oppTo os (os.length - 1)
theorem oppTo_yes {os : List (Int × Int)} {k : Nat} (h : decide ((nth os k).1 = -(nth os (k + 1)).1) = true) : ∀ {m : Nat}, k < m → oppTo os m = true
  | 0, hm => by omega
  | m + 1, hm => by
    unfold oppTo
    by_cases e : k = m
    · subst e; rw [h, Bool.or_true]
    · rw [oppTo_yes h (by omega), Bool.true_or]
theorem oppTo_no {os : List (Int × Int)} {k : Nat} (h0 : oppTo os k = false) (h : decide ((nth os k).1 = -(nth os (k + 1)).1) = false) : oppTo os (k + 1) = false := by unfold oppTo; rw [h0, h]; rfl
def restH (heads : List Int) (os : List (Int × Int)) : List Int := heads.filter (fun h => !anyL os h)
theorem restH_yes {heads : List Int} {os : List (Int × Int)} {k : Nat} (hk : k < heads.length) (h : anyL os (nth heads k) = false) : restH (heads.take (k + 1)) os = restH (heads.take k) os ++ [nth heads k] := by
  unfold restH; rw [take_nth hk, List.filter_append]; simp [h]
theorem restH_no {heads : List Int} {os : List (Int × Int)} {k : Nat} (hk : k < heads.length) (h : anyL os (nth heads k) = true) : restH (heads.take (k + 1)) os = restH (heads.take k) os := by
  unfold restH; rw [take_nth hk, List.filter_append]; simp [h]
theorem restH_len (heads : List Int) (os : List (Int × Int)) : (restH heads os).length ≤ heads.length := List.length_filter_le _ _

/-- Without Weight. -/
def goesU (heads : List Int) (os : List (Int × Int)) : Bool := oppB os || (decide ((restH heads os).length = 0) && decide (0 < heads.length))
def tidyU (ch : Bool) (heads : List Int) (body : List (Int × Int)) : Option RuleD :=
  if goesU heads (onceL body) then none else some ⟨ch, restH heads (onceL body), false, 0, onceL body⟩
/-- The sum of all W but those of one literal. -/
def sumBut (xs : List (Int × Int)) (l : Int) : Int := sumH (fun p => p.1 != l) xs
def needAll (r : RuleD) : Bool := r.body.all (fun p => decide (sumBut r.body p.1 < r.bound))
def tidyW (r : RuleD) : Option RuleD :=
  if r.bound ≤ 0 then tidyU r.choice r.heads [] else
  if sumBut r.body 0 < r.bound then none else
  if needAll r then tidyU r.choice r.heads r.body else
  if r.bound ≤ 1000 then some { r with body := mergedL r.body r.bound } else some { r with body := ordL r.body }
def tidyO (r : RuleD) : Option RuleD := if ruleOkB r 12 then (if r.weight then tidyW r else tidyU r.choice r.heads r.body) else none
def tidyB (r : RuleD) : Bool := (tidyO r).isSome
def tidyRR (r : RuleD) : RuleD := (tidyO r).getD default
theorem tidyO_no {r : RuleD} (h : ruleOkB r 12 = false) : tidyO r = none := by simp [tidyO, h]
theorem tidyO_U {r : RuleD} (h : ruleOkB r 12 = true) (hw : r.weight = false) : tidyO r = tidyU r.choice r.heads r.body := by simp [tidyO, h, hw]
theorem tidyO_W {r : RuleD} (h : ruleOkB r 12 = true) (hw : r.weight = true) : tidyO r = tidyW r := by simp [tidyO, h, hw]
theorem tidyW_1 {r : RuleD} (h : r.bound ≤ 0) : tidyW r = tidyU r.choice r.heads [] := if_pos h
theorem tidyW_2 {r : RuleD} (h : ¬ r.bound ≤ 0) (h2 : sumBut r.body 0 < r.bound) : tidyW r = none := by unfold tidyW; rw [if_neg h, if_pos h2]
theorem tidyW_3 {r : RuleD} (h : ¬ r.bound ≤ 0) (h2 : ¬ sumBut r.body 0 < r.bound) (h3 : needAll r = true) : tidyW r = tidyU r.choice r.heads r.body := by unfold tidyW; rw [if_neg h, if_neg h2, if_pos h3]
theorem tidyW_4 {r : RuleD} (h : ¬ r.bound ≤ 0) (h2 : ¬ sumBut r.body 0 < r.bound) (h3 : needAll r = false) (h4 : r.bound ≤ 1000) : tidyW r = some { r with body := mergedL r.body r.bound } := by unfold tidyW; rw [if_neg h, if_neg h2, if_neg (by rw [h3]; simp), if_pos h4]
theorem tidyW_5 {r : RuleD} (h : ¬ r.bound ≤ 0) (h2 : ¬ sumBut r.body 0 < r.bound) (h3 : needAll r = false) (h4 : ¬ r.bound ≤ 1000) : tidyW r = some { r with body := ordL r.body } := by unfold tidyW; rw [if_neg h, if_neg h2, if_neg (by rw [h3]; simp), if_neg h4]
theorem tidyU_no {ch : Bool} {heads : List Int} {body : List (Int × Int)} (h : goesU heads (onceL body) = true) : tidyU ch heads body = none := by simp [tidyU, h]
theorem tidyU_yes {ch : Bool} {heads : List Int} {body : List (Int × Int)} (h : goesU heads (onceL body) = false) : tidyU ch heads body = some ⟨ch, restH heads (onceL body), false, 0, onceL body⟩ := by simp [tidyU, h]

theorem ruleOk_body {r : RuleD} (h : ruleOkB r 12 = true) : WOk r.body := by
  simp only [ruleOkB, bodyB, Bool.and_eq_true, decide_eq_true_eq, List.all_eq_true, wlitB, litB, btwB, Bool.or_eq_true] at h
  obtain ⟨_, ⟨⟨h1, _⟩, _⟩, h2⟩ := h
  exact ⟨h1, fun p hp => by have := h2 p hp; omega⟩
theorem ruleOk_heads {r : RuleD} (h : ruleOkB r 12 = true) : r.heads.length ≤ 20 := by
  simp only [ruleOkB, headsB, Bool.and_eq_true] at h
  have h2 := h.1.2
  split at h2
  · simp only [btwB, decide_eq_true_eq] at h2; omega
  · simp only [decide_eq_true_eq] at h2; omega
theorem ruleOk_bound {r : RuleD} (h : ruleOkB r 12 = true) : -100000 ≤ r.bound ∧ r.bound ≤ 100000 := by
  simp only [ruleOkB, bodyB, Bool.and_eq_true, btwB, decide_eq_true_eq] at h
  exact h.2.1.2

theorem ordTo_mem {xs : List (Int × Int)} {p : Int × Int} : ∀ {k : Nat}, p ∈ ordTo xs k → p ∈ xs
  | 0, h => by simp [ordTo] at h
  | k + 1, h => by
    rcases List.mem_append.1 h with h | h
    · exact ordTo_mem h
    · rcases List.mem_append.1 h with h | h
      · exact (List.mem_filter.1 h).1
      · exact (List.mem_filter.1 h).1
theorem onceTo_mem {ys : List (Int × Int)} {p : Int × Int} : ∀ {k : Nat}, k ≤ ys.length → p ∈ onceTo ys k → ∃ q ∈ ys, q.1 = p.1
  | 0, _, h => by simp [onceTo] at h
  | k + 1, hk, h => by
    unfold onceTo at h
    split at h
    · rcases List.mem_append.1 h with h | h
      · exact onceTo_mem (by omega) h
      · rw [List.mem_singleton.1 h]
        exact ⟨nth ys k, nth_mem (by omega), rfl⟩
    · exact onceTo_mem (by omega) h
theorem onceL_mem {xs : List (Int × Int)} {p : Int × Int} (h : p ∈ onceL xs) : ∃ q ∈ xs, q.1 = p.1 := by
  obtain ⟨q, hq, e⟩ := onceTo_mem (Nat.le_refl _) h
  exact ⟨q, ordTo_mem hq, e⟩
theorem onceL_range {xs : List (Int × Int)} (h : WOk xs) : ∀ p ∈ onceL xs, -12 ≤ p.1 ∧ p.1 ≤ 12 := fun p hp => by
  obtain ⟨q, hq, e⟩ := onceL_mem hp
  have := (h.2 q hq).1
  omega
theorem own_zeroR (lo : Nat) (w : World) : Own (α := RuleD) lo w [.bool false, .slice none 0 0, .bool false, .int .i64 0, .slice none 0 0] default := by
  have hn : ∀ {β : Type} [Ow β], OwL (α := β) w [.slice none 0 0] [] [] := fun {β} _ => ⟨none, 0, rfl, Nat.le_refl _, by omega, .inl ⟨rfl, rfl⟩⟩
  exact ⟨[], ⟨_, _, [], [], rfl, by show Fits 0; unfold Fits; omega, hn, hn, rfl, List.nodup_nil⟩, by simp⟩
/-- A rule of two rows of the call's own, the second one's blocks behind the first one's, or ahead of them. -/
theorem own_rule2 {w : World} {a b c d lo : Nat} {c1 c4 : Value} {x : RuleD} (h1 : OwnIn a b w [c1] x.heads) (h4 : OwnIn c d w [c4] x.body) (hbc : b ≤ c ∨ d ≤ a) (hla : lo ≤ a) (hlc : lo ≤ c) (hf : Fits x.bound) :
    Own lo w [.bool x.choice, c1, .bool x.weight, .int .i64 x.bound, c4] x := by
  obtain ⟨f1, o1, l1⟩ := h1
  obtain ⟨f4, o4, l4⟩ := h4
  exact ⟨f1 ++ f4, ⟨c1, c4, f1, f4, rfl, hf, o1, o4, rfl, List.nodup_append.2 ⟨Ow.nodup o1, Ow.nodup o4, fun x hx y hy e => by have := l1 x hx; have := l4 y hy; omega⟩⟩,
    fun g hg => (List.mem_append.1 hg).elim (fun h => by have := l1 g h; omega) (fun h => by have := l4 g h; omega)⟩
theorem own_rule3 {w : World} {a b c d : Nat} {c1 c4 : Value} {x : RuleD} (h1 : OwnIn a b w [c1] x.heads) (h4 : OwnIn c d w [c4] x.body) (hbc : b ≤ c ∨ d ≤ a) (hf : Fits x.bound) :
    ∃ fp, Ow.O w [.bool x.choice, c1, .bool x.weight, .int .i64 x.bound, c4] x fp ∧ ∀ g ∈ fp, (a ≤ g ∧ g < b) ∨ (c ≤ g ∧ g < d) := by
  obtain ⟨f1, o1, l1⟩ := h1
  obtain ⟨f4, o4, l4⟩ := h4
  exact ⟨f1 ++ f4, ⟨c1, c4, f1, f4, rfl, hf, o1, o4, rfl, List.nodup_append.2 ⟨Ow.nodup o1, Ow.nodup o4, fun x hx y hy e => by have := l1 x hx; have := l4 y hy; omega⟩⟩,
    fun g hg => (List.mem_append.1 hg).elim (fun h => .inl (l1 g h)) (fun h => .inr (l4 g h))⟩
theorem PRow.ownIn {B : Nat} {D : Nat → Prop} {w : World} {v : Value} {xs : List Pr} (h : PRow B D w v xs) : OwnIn B w.heap.size w [v] xs := h.1.own.shut
end Go.Proofs.Ytgckeaijbmcdcaa
