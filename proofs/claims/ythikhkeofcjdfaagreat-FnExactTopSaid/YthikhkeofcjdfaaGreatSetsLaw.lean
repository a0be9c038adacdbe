import Derived.Test.YthikhkeofcjdfaaGreatSetsPure
import Derived.Test.YthikhkeofcjdfaaGreatSetOk
namespace Go.Proofs.YthikhkeofcjdfaaGreat
set_option linter.unusedVariables false
set_option linter.unusedSimpArgs false
open Go.RowKit

theorem hasB_pickTo {f : Int → Bool} {x : Int} (h : 1 ≤ x ∧ x ≤ 12) : hasB (pickTo f 12) x = f x := by
 unfold hasB
 cases e : f x
 ·exact decide_eq_false fun hm => by have := ((mem_pickTo f x 12).1 hm).2.2; rw [e] at this; cases this
 ·exact decide_eq_true ((mem_pickTo f x 12).2 ⟨h.1, by omega, e⟩)

/-- A list that rises. -/
def Rises : List Int → Prop
 | [] => True
 | x :: r => (∀ y ∈ r, x < y) ∧ Rises r
theorem rises_snoc {l : List Int} {x : Int} (h : Rises l) (hx : ∀ y ∈ l, y < x) : Rises (l ++ [x]) := by
 induction l with
 | nil => exact ⟨by simp, trivial⟩
 | cons a r ih =>
  refine ⟨fun y hy => ?_, ih h.2 fun y hy => hx y (List.mem_cons_of_mem _ hy)⟩
  rcases List.mem_append.1 hy with hy | hy
  ·exact h.1 y hy
  ·simp at hy; subst hy; exact hx a (List.mem_cons_self ..)
theorem rises_ext : ∀ {l k : List Int}, Rises l → Rises k → (∀ x, x ∈ l ↔ x ∈ k) → l = k
 | [], [], _, _, _ => rfl
 | [], y :: k, _, _, h => absurd ((h y).2 (List.mem_cons_self ..)) (by simp)
 | x :: l, [], _, _, h => absurd ((h x).1 (List.mem_cons_self ..)) (by simp)
 | x :: l, y :: k, hl, hk, h => by
  have e : x = y := by
   have h1 := (h x).1 (List.mem_cons_self ..)
   have h2 := (h y).2 (List.mem_cons_self ..)
   rcases List.mem_cons.1 h1 with h1 | h1
   ·exact h1
   ·rcases List.mem_cons.1 h2 with h2 | h2
    ·exact h2.symm
    ·have a := hk.1 x h1
     have b := hl.1 y h2
     omega
  subst e
  congr 1
  refine rises_ext hl.2 hk.2 fun z => ?_
  constructor
  ·intro hz
   rcases List.mem_cons.1 ((h z).1 (List.mem_cons_of_mem _ hz)) with e | hz'
   ·have := hl.1 z hz; omega
   ·exact hz'
  ·intro hz
   rcases List.mem_cons.1 ((h z).2 (List.mem_cons_of_mem _ hz)) with e | hz'
   ·have := hk.1 z hz; omega
   ·exact hz'

theorem rises_pickTo (f : Int → Bool) : ∀ n, Rises (pickTo f n)
 | 0 => trivial
 | n + 1 => by
  unfold pickTo
  split
  ·exact rises_snoc (rises_pickTo f n) fun y hy => by have := ((mem_pickTo f y n).1 hy).2.1; omega
  ·exact rises_pickTo f n

theorem okTo_take {xs : List Int} {n : Int} : ∀ {k : Nat}, k ≤ xs.length → okTo xs n k = true → Rises (xs.take k) ∧ (∀ y ∈ xs.take k, 1 ≤ y ∧ y ≤ n) ∧ ∀ y ∈ xs.take k, y ≤ lastOf xs k
 | 0, _, _ => ⟨by simp [Rises], by simp, by simp⟩
 | k + 1, hk, h => by
  simp only [okTo, Bool.and_eq_true] at h
  obtain ⟨h1, h2, h3⟩ := okTo_take (k := k) (by omega) h.1
  have hs := h.2
  rw [okStep_last h.1] at hs
  simp only [decide_eq_true_eq] at hs
  have h0 := okTo_last h.1
  rw [take_el (by omega)]
  refine ⟨rises_snoc h1 fun y hy => by have := h3 y hy; omega, fun y hy => ?_, fun y hy => ?_⟩
  ·rcases List.mem_append.1 hy with hy | hy
   ·exact h2 y hy
   ·simp at hy; subst hy; omega
  ·rw [lastOf_succ]
   rcases List.mem_append.1 hy with hy | hy
   ·have := h3 y hy; omega
   ·simp at hy; omega

/-- A set is what is picked by its own atoms. -/
theorem set_pick {xs : List Int} (h : setOkB xs 12 = true) : xs = pickTo (hasB xs) 12 := by
 rw [setOkB_in (by omega)] at h
 obtain ⟨h1, h2, _⟩ := okTo_take (Nat.le_refl _) h
 rw [List.take_length] at h1 h2
 refine rises_ext h1 (rises_pickTo _ _) fun x => ?_
 rw [mem_pickTo]
 constructor
 ·intro hx; have := h2 x hx; exact ⟨by omega, by omega, decide_eq_true hx⟩
 ·intro ⟨_, _, hx⟩; exact of_decide_eq_true hx

section
variable {xs ys zs : List Int}

theorem law_join (hx : setOkB xs 12 = true) : pickTo (pickJ (pickTo (pickM xs ys) 12) (pickTo (pickL xs ys) 12)) 12 = xs := by
 refine (pickTo_congr fun x h1 h2 => ?_).trans (set_pick hx).symm
 unfold pickJ pickF
 rw [hasB_pickTo ⟨h1, by omega⟩, hasB_pickTo ⟨h1, by omega⟩]
 unfold pickM pickL pickF
 cases hasB xs x <;> cases hasB ys x <;> rfl
theorem law_meet (hx : setOkB xs 12 = true) : pickTo (pickM (pickTo (pickJ xs ys) 12) xs) 12 = xs := by
 refine (pickTo_congr fun x h1 h2 => ?_).trans (set_pick hx).symm
 unfold pickM pickF
 rw [hasB_pickTo ⟨h1, by omega⟩]
 unfold pickJ pickF
 cases hasB xs x <;> cases hasB ys x <;> rfl
theorem pickTo_none : ∀ {n : Nat} {f : Int → Bool}, (∀ x : Int, 1 ≤ x → x ≤ n → f x = false) → pickTo f n = []
 | 0, _, _ => rfl
 | n + 1, f, h => by rw [pickTo_no (h _ (by omega) (by omega))]; exact pickTo_none fun x h1 h2 => h x h1 (by omega)
theorem law_none : pickTo (pickM (pickTo (pickL xs ys) 12) ys) 12 = [] := by
 refine pickTo_none fun x h1 h2 => ?_
 unfold pickM pickF
 rw [hasB_pickTo ⟨h1, by omega⟩]
 unfold pickL pickF
 cases hasB xs x <;> cases hasB ys x <;> rfl
theorem law_less : pickTo (pickL xs (pickTo (pickJ ys zs) 12)) 12 = pickTo (pickL (pickTo (pickL xs ys) 12) zs) 12 := by
 refine pickTo_congr fun x h1 h2 => ?_
 unfold pickL pickF
 rw [hasB_pickTo ⟨h1, by omega⟩, hasB_pickTo ⟨h1, by omega⟩]
 unfold pickJ pickF
 cases hasB xs x <;> cases hasB ys x <;> cases hasB zs x <;> rfl
theorem law_len (hx : setOkB xs 12 = true) (hy : setOkB ys 12 = true) : (pickTo (pickJ xs ys) 12).length + (pickTo (pickM xs ys) 12).length = xs.length + ys.length := by
 have : ∀ n, (pickTo (pickJ xs ys) n).length + (pickTo (pickM xs ys) n).length = (pickTo (hasB xs) n).length + (pickTo (hasB ys) n).length := by
  intro n
  induction n with
  | zero => rfl
  | succ n ih =>
   have e1 : pickJ xs ys ((n : Int) + 1) = (hasB xs ((n : Int) + 1) || hasB ys ((n : Int) + 1)) := by
    unfold pickJ pickF; cases hasB xs ((n : Int) + 1) <;> cases hasB ys ((n : Int) + 1) <;> rfl
   have e2 : pickM xs ys ((n : Int) + 1) = (hasB xs ((n : Int) + 1) && hasB ys ((n : Int) + 1)) := by
    unfold pickM pickF; cases hasB xs ((n : Int) + 1) <;> cases hasB ys ((n : Int) + 1) <;> rfl
   simp only [pickTo, e1, e2]
   cases hasB xs ((n : Int) + 1) <;> cases hasB ys ((n : Int) + 1) <;> simp <;> omega
 rw [this 12, ← set_pick hx, ← set_pick hy]
theorem law_num : sumTo (hasB (pickTo (pickJ xs ys) 12)) 12 + sumTo (hasB (pickTo (pickM xs ys) 12)) 12 = sumTo (hasB xs) 12 + sumTo (hasB ys) 12 := by
 have : ∀ n, sumTo (pickJ xs ys) n + sumTo (pickM xs ys) n = sumTo (hasB xs) n + sumTo (hasB ys) n := by
  intro n
  induction n with
  | zero => rfl
  | succ n ih =>
   have e1 : pickJ xs ys ((n : Int) + 1) = (hasB xs ((n : Int) + 1) || hasB ys ((n : Int) + 1)) := by
    unfold pickJ pickF; cases hasB xs ((n : Int) + 1) <;> cases hasB ys ((n : Int) + 1) <;> rfl
   have e2 : pickM xs ys ((n : Int) + 1) = (hasB xs ((n : Int) + 1) && hasB ys ((n : Int) + 1)) := by
    unfold pickM pickF; cases hasB xs ((n : Int) + 1) <;> cases hasB ys ((n : Int) + 1) <;> rfl
   simp only [sumTo, e1, e2]
   cases hasB xs ((n : Int) + 1) <;> cases hasB ys ((n : Int) + 1) <;> simp <;> omega
 rw [sumTo_congr (f := hasB (pickTo (pickJ xs ys) 12)) (g := pickJ xs ys) fun x h1 h2 => hasB_pickTo ⟨h1, by omega⟩,
  sumTo_congr (f := hasB (pickTo (pickM xs ys) 12)) (g := pickM xs ys) fun x h1 h2 => hasB_pickTo ⟨h1, by omega⟩]
 exact this 12
theorem law_of (hx : setOkB xs 12 = true) : setOfS ((sumTo (hasB xs) 12 : Nat) : Int) = xs := by
 have hl := maskOf_lt xs
 rw [num_same, ← of_same]
 unfold setOf
 rw [if_pos (by omega), Int.toNat_natCast]
 exact (pickTo_congr fun x h1 h2 => hasM_maskOf xs x ⟨h1, by omega⟩).trans (set_pick hx).symm
end

end Go.Proofs.YthikhkeofcjdfaaGreat
