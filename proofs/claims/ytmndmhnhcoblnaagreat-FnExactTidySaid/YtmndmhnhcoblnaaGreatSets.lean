import Derived.Test.YtmndmhnhcoblnaaGreatBase
namespace Go.Proofs.YtmndmhnhcoblnaaGreat
open Go.RowKit
set_option maxRecDepth 100000

def hasB (xs : List Int) (x : Int) : Bool := decide (x ∈ xs)
theorem hasB_nil (x : Int) : hasB [] x = false := by simp [hasB]
theorem hasB_yes {xs : List Int} {x : Int} {k : Nat} (hk : k < xs.length) (h : el xs k = x) : hasB xs x = true := by
  simp [hasB]; exact h ▸ el_mem hk
theorem hasB_step {xs : List Int} {x : Int} {k : Nat} (hk : k < xs.length) (h0 : hasB (xs.take k) x = false) (h : ¬ el xs k = x) : hasB (xs.take (k + 1)) x = false := by
  simp only [hasB, decide_eq_false_iff_not] at h0 ⊢
  rw [take_el hk, List.mem_append]
  rintro (h1 | h1)
  · exact h0 h1
  · simp at h1; exact h h1.symm

/-- The numbers from 1 to k for which f holds. -/
def pickTo (f : Int → Bool) : Nat → List Int
  | 0 => []
  | k + 1 => if f ((k : Int) + 1) then pickTo f k ++ [(k : Int) + 1] else pickTo f k
theorem pickTo_len (f : Int → Bool) : ∀ k, (pickTo f k).length ≤ k
  | 0 => Nat.le_refl _
  | k + 1 => by have := pickTo_len f k; unfold pickTo; split <;> simp <;> omega
theorem pickTo_yes {f : Int → Bool} {k : Nat} (h : f ((k : Int) + 1) = true) : pickTo f (k + 1) = pickTo f k ++ [(k : Int) + 1] := by simp [pickTo, h]
theorem pickTo_no {f : Int → Bool} {k : Nat} (h : f ((k : Int) + 1) = false) : pickTo f (k + 1) = pickTo f k := by simp [pickTo, h]
theorem mem_pickTo (f : Int → Bool) (x : Int) : ∀ k, x ∈ pickTo f k ↔ 1 ≤ x ∧ x ≤ k ∧ f x = true
  | 0 => by simp [pickTo]; omega
  | k + 1 => by
    have ih := mem_pickTo f x k
    cases h : f ((k : Int) + 1) with
    | true =>
      rw [pickTo_yes h, List.mem_append, ih]
      constructor
      · rintro (⟨a, b, c⟩ | h1)
        · exact ⟨a, by omega, c⟩
        · simp at h1; subst h1; exact ⟨by omega, by omega, h⟩
      · rintro ⟨a, b, c⟩
        by_cases e : x ≤ k
        · exact .inl ⟨a, e, c⟩
        · right; simp; omega
    | false =>
      rw [pickTo_no h, ih]
      constructor
      · rintro ⟨a, b, c⟩; exact ⟨a, by omega, c⟩
      · rintro ⟨a, b, c⟩
        by_cases e : x = k + 1
        · subst e; rw [h] at c; cases c
        · exact ⟨a, by omega, c⟩

/-- What l01Pick asks of an atom. -/
def pickF (xs ys : List Int) (b l r : Bool) (x : Int) : Bool := hasB xs x && hasB ys x && b || hasB xs x && !hasB ys x && l || !hasB xs x && hasB ys x && r

theorem pickF_val {xs ys : List Int} {b l r hx hy : Bool} {x : Int} (h1 : hasB xs x = hx) (h2 : hasB ys x = hy) : pickF xs ys b l r x = (hx && hy && b || hx && !hy && l || !hx && hy && r) := by
  unfold pickF; rw [h1, h2]

theorem fits_small {n : Int} (h0 : 0 ≤ n) (h1 : n ≤ 4096) : Fits n := ⟨by omega, by omega⟩

def pickJ (xs ys : List Int) (x : Int) : Bool := pickF xs ys true true true x
theorem pickJ_val {xs ys : List Int} {hx hy : Bool} {x : Int} (h1 : hasB xs x = hx) (h2 : hasB ys x = hy) : pickJ xs ys x = (hx && hy && true || hx && !hy && true || !hx && hy && true) := by
  unfold pickJ pickF; rw [h1, h2]

def pickM (xs ys : List Int) (x : Int) : Bool := pickF xs ys true false false x
theorem pickM_val {xs ys : List Int} {hx hy : Bool} {x : Int} (h1 : hasB xs x = hx) (h2 : hasB ys x = hy) : pickM xs ys x = (hx && hy && true || hx && !hy && false || !hx && hy && false) := by
  unfold pickM pickF; rw [h1, h2]

def pickL (xs ys : List Int) (x : Int) : Bool := pickF xs ys false true false x
theorem pickL_val {xs ys : List Int} {hx hy : Bool} {x : Int} (h1 : hasB xs x = hx) (h2 : hasB ys x = hy) : pickL xs ys x = (hx && hy && false || hx && !hy && true || !hx && hy && false) := by
  unfold pickL pickF; rw [h1, h2]


end Go.Proofs.YtmndmhnhcoblnaaGreat
