/-
  A heap of levels: what swaps make of it, told of lists. No condition of its own.
-/
import Derived.Test.YtiemlklngmifdaaGreatAppend
namespace Go.Proofs.YtiemlklngmifdaaGreat
set_option linter.unusedVariables false
set_option linter.unusedSimpArgs false
open Go.RowKit
set_option maxRecDepth 100000

/-- The cells of a level: its literals stay a slice. -/
structure LvC where
  p : Int
  a : Option Addr
  n : Nat
  c : Nat
instance : Inhabited LvC := ⟨⟨0, none, 0, 0⟩⟩
def LvC.enc (x : LvC) : List Value := [.int .i64 x.p, .slice x.a x.n x.c]
instance instRdLvC : Rd LvC where
  k := 2
  R _ cs x := cs = x.enc ∧ Fits x.p
  len := fun h => by rw [h.1]; rfl
  one := fun h => by rw [h.1]; simp [LvC.enc, Value.oneCell']
  mono := fun _ h => h
instance instOwLvC : Ow LvC where
  O w cs x fp := Rd.R w cs x ∧ fp = []
  rd := fun h => h.1
  lt := fun h g hg => by rw [h.2] at hg; cases hg
  kept := fun h _ => h
  nodup := fun h => by rw [h.2]; exact List.nodup_nil
instance instFlLvC : Fl LvC where
  enc := LvC.enc
  ok x := Fits x.p
  spec := Iff.rfl
  ospec := Iff.rfl
  pos := by decide

/-- What ranks a place. -/
def ky (zs : List LvC) (j : Nat) : Int := (nth zs j).p
def swp (zs : List LvC) (i j : Nat) : List LvC := (zs.set i (nth zs j)).set j (nth zs i)

theorem nth_set {zs : List LvC} {i k : Nat} {x : LvC} (hi : i < zs.length) : nth (zs.set i x) k = if k = i then x else nth zs k := by
  unfold nth
  rw [List.getD_eq_getElem?_getD, List.getElem?_set]
  by_cases h : i = k
  · subst h; rw [if_pos rfl, if_pos hi, if_pos rfl]; rfl
  · rw [if_neg h, if_neg (fun e => h e.symm)]; rw [List.getD_eq_getElem?_getD]
theorem swp_len {zs : List LvC} {i j : Nat} : (swp zs i j).length = zs.length := by unfold swp; rw [List.length_set, List.length_set]
theorem swp_nth {zs : List LvC} {i j k : Nat} (hi : i < zs.length) (hj : j < zs.length) : nth (swp zs i j) k = if k = j then nth zs i else if k = i then nth zs j else nth zs k := by
  unfold swp
  rw [nth_set (by rw [List.length_set]; exact hj), nth_set hi]
theorem swp_perm {zs : List LvC} {i j : Nat} (hi : i < zs.length) (hj : j < zs.length) : (swp zs i j).Perm zs := by
  unfold swp
  rw [nth_eq hi, nth_eq hj]
  exact List.set_set_perm hi hj
theorem swp_ky {zs : List LvC} {i j k : Nat} (hi : i < zs.length) (hj : j < zs.length) : ky (swp zs i j) k = if k = j then ky zs i else if k = i then ky zs j else ky zs k := by
  unfold ky
  rw [swp_nth hi hj]
  split
  · rfl
  · split <;> rfl

/-- No place comes ahead of the one above it. -/
def Hp (zs : List LvC) : Prop := ∀ j, 0 < j → j < zs.length → ky zs j ≤ ky zs ((j - 1) / 2)
/-- .. but place i. -/
def HpU (zs : List LvC) (i : Nat) : Prop :=
  (∀ j, 0 < j → j < zs.length → j ≠ i → ky zs j ≤ ky zs ((j - 1) / 2)) ∧ ∀ j, 0 < j → j < zs.length → (j - 1) / 2 = i → 0 < i → ky zs j ≤ ky zs ((i - 1) / 2)
/-- .. but those below place i. -/
def HpS (zs : List LvC) (i : Nat) : Prop :=
  (∀ j, 0 < j → j < zs.length → (j - 1) / 2 ≠ i → ky zs j ≤ ky zs ((j - 1) / 2)) ∧ ∀ j, 0 < j → j < zs.length → (j - 1) / 2 = i → 0 < i → ky zs j ≤ ky zs ((i - 1) / 2)

theorem ky_app {zs : List LvC} {x : LvC} {j : Nat} (h : j < zs.length) : ky (zs ++ [x]) j = ky zs j := by
  unfold ky
  rw [nth_eq (by rw [List.length_append]; omega), nth_eq h, List.getElem_append_left h]
theorem hpU_push {zs : List LvC} {x : LvC} (h : Hp zs) : HpU (zs ++ [x]) zs.length := by
  refine ⟨fun j h0 hl hn => ?_, fun j h0 hl he hi => ?_⟩
  · rw [List.length_append] at hl
    simp only [List.length_cons, List.length_nil] at hl
    rw [ky_app (by omega), ky_app (by omega)]
    exact h j h0 (by omega)
  · rw [List.length_append] at hl
    simp only [List.length_cons, List.length_nil] at hl
    omega
theorem hpU_swap {zs : List LvC} {i : Nat} (h : HpU zs i) (hi : 0 < i) (hl : i < zs.length) (hk : ky zs ((i - 1) / 2) < ky zs i) : HpU (swp zs i ((i - 1) / 2)) ((i - 1) / 2) := by
  have hm : (i - 1) / 2 < zs.length := by omega
  refine ⟨fun j h0 hj hn => ?_, fun j h0 hj he hp => ?_⟩
  · rw [swp_len] at hj
    rw [swp_ky hl hm, swp_ky hl hm, if_neg hn]
    by_cases e : j = i
    · subst e
      rw [if_pos rfl, if_pos rfl]
      omega
    · rw [if_neg e]
      have h1 := h.1 j h0 hj e
      by_cases e1 : (j - 1) / 2 = (i - 1) / 2
      · rw [if_pos e1]; rw [e1] at h1; omega
      · rw [if_neg e1]
        by_cases e2 : (j - 1) / 2 = i
        · rw [if_pos e2]; exact h.2 j h0 hj e2 hi
        · rw [if_neg e2]; exact h1
  · rw [swp_len] at hj
    have hg := h.1 ((i - 1) / 2) hp hm (by omega)
    rw [swp_ky hl hm, swp_ky hl hm, if_neg (show ¬ ((i - 1) / 2 - 1) / 2 = (i - 1) / 2 by omega), if_neg (show ¬ ((i - 1) / 2 - 1) / 2 = i by omega)]
    rw [if_neg (show ¬ j = (i - 1) / 2 by omega)]
    by_cases e : j = i
    · rw [if_pos e]; exact hg
    · rw [if_neg e]
      have h1 := h.1 j h0 hj e
      rw [he] at h1
      omega
theorem hpU_done {zs : List LvC} {i : Nat} (h : HpU zs i) (hd : i = 0 ∨ ky zs i ≤ ky zs ((i - 1) / 2)) : Hp zs := fun j h0 hl => by
  by_cases e : j = i
  · subst e; exact hd.elim (fun e => by omega) id
  · exact h.1 j h0 hl e

theorem hpS_swap {zs : List LvC} {i n : Nat} (h : HpS zs i) (hi : i < zs.length) (hn : n < zs.length) (h0 : 0 < n) (hp : (n - 1) / 2 = i) (hk : ky zs i ≤ ky zs n)
    (hm : ∀ j, 0 < j → j < zs.length → (j - 1) / 2 = i → ky zs j ≤ ky zs n) : HpS (swp zs i n) n := by
  refine ⟨fun j hj hl hne => ?_, fun j hj hl he _ => ?_⟩
  · rw [swp_len] at hl
    rw [swp_ky hi hn, swp_ky hi hn, if_neg hne]
    by_cases e : j = n
    · subst e
      rw [if_pos rfl, if_pos hp]; exact hk
    · rw [if_neg e]
      by_cases e1 : j = i
      · subst e1
        rw [if_pos rfl, if_neg (show ¬ (j - 1) / 2 = j by omega)]
        exact h.2 n h0 hn hp hj
      · rw [if_neg e1]
        by_cases e2 : (j - 1) / 2 = i
        · rw [if_pos e2]; exact hm j hj hl e2
        · rw [if_neg e2]; exact h.1 j hj hl e2
  · rw [swp_len] at hl
    rw [swp_ky hi hn, swp_ky hi hn, if_neg (show ¬ j = n by omega), if_neg (show ¬ j = i by omega), if_neg (show ¬ (n - 1) / 2 = n by omega), if_pos hp]
    have := h.1 j hj hl (by omega)
    rw [he] at this
    exact this
theorem hpS_done {zs : List LvC} {i : Nat} (h : HpS zs i) (hm : ∀ j, 0 < j → j < zs.length → (j - 1) / 2 = i → ky zs j ≤ ky zs i) : Hp zs := fun j h0 hl => by
  by_cases e : (j - 1) / 2 = i
  · rw [e]; exact hm j h0 hl e
  · exact h.1 j h0 hl e

theorem hp_root {zs : List LvC} (h : Hp zs) : ∀ j, j < zs.length → ky zs j ≤ ky zs 0 := fun j => by
  induction j using Nat.strongRecOn with
  | _ j ih =>
    intro hl
    by_cases e : j = 0
    · subst e; exact Int.le_refl _
    · exact Int.le_trans (h j (by omega) hl) (ih _ (by omega) (by omega))

/-- The first one taken out, the last one in its place. -/
def popL (zs : List LvC) : List LvC := (zs.set 0 (nth zs (zs.length - 1))).take (zs.length - 1)
theorem popL_len {zs : List LvC} : (popL zs).length = zs.length - 1 := by unfold popL; rw [List.length_take, List.length_set]; omega
theorem popL_nth {zs : List LvC} {k : Nat} (hk : k < zs.length - 1) : nth (popL zs) k = if k = 0 then nth zs (zs.length - 1) else nth zs k := by
  have : nth (popL zs) k = nth (zs.set 0 (nth zs (zs.length - 1))) k := by
    rw [nth_eq (by rw [popL_len]; exact hk), nth_eq (by rw [List.length_set]; omega)]
    unfold popL
    rw [List.getElem_take]
  rw [this, nth_set (by omega)]
theorem popL_hp {zs : List LvC} (h : Hp zs) : HpS (popL zs) 0 := by
  refine ⟨fun j h0 hl hn => ?_, fun j _ _ _ h => absurd h (by omega)⟩
  rw [popL_len] at hl
  unfold ky
  rw [popL_nth hl, popL_nth (by omega), if_neg (by omega), if_neg hn]
  exact h j h0 (by omega)
theorem popL_perm {zs : List LvC} (h : 0 < zs.length) : (nth zs 0 :: popL zs).Perm zs := by
  match zs, h with
  | [x], _ => exact List.Perm.refl _
  | x :: y :: r, _ =>
    obtain ⟨mid, l, hm⟩ : ∃ mid l, y :: r = mid ++ [l] := ⟨(y :: r).dropLast, (y :: r).getLast (by simp), (List.dropLast_concat_getLast (by simp)).symm⟩
    have e1 : nth (x :: y :: r) ((x :: y :: r).length - 1) = l := by
      rw [hm]
      unfold nth
      simp
    have e2 : popL (x :: y :: r) = l :: mid := by
      unfold popL
      rw [e1, hm]
      simp
    rw [e2]
    show (x :: l :: mid).Perm (x :: y :: r)
    rw [hm]
    exact ((List.perm_append_singleton l mid).symm).cons x
theorem perm_mem_len {xs ys : List LvC} (h : xs.Perm ys) : xs.length = ys.length := h.length_eq

/-- What has been taken out, and what is left. -/
structure Popped (cl pre zs : List LvC) : Prop where
  hp : Hp zs
  perm : (pre ++ zs).Perm cl
  sorted : pre.Pairwise (fun a b => b.p ≤ a.p)
  over : ∀ a ∈ pre, ∀ b ∈ zs, b.p ≤ a.p
theorem Popped.start {cl : List LvC} {zs : List LvC} (h : Hp zs) (hp : zs.Perm cl) : Popped cl [] zs := ⟨h, hp, List.Pairwise.nil, by simp⟩
theorem Popped.next {cl pre zs ys : List LvC} (h : Popped cl pre zs) (h0 : 0 < zs.length) (hy : Hp ys) (hp : ys.Perm (popL zs)) : Popped cl (pre ++ [nth zs 0]) ys := by
  have hz := popL_perm h0
  have hm : ∀ b ∈ ys, b ∈ zs := fun b hb => hz.subset (List.mem_cons_of_mem _ (hp.subset hb))
  have htop : ∀ b ∈ zs, b.p ≤ (nth zs 0).p := fun b hb => by
    obtain ⟨j, hj, rfl⟩ := List.getElem_of_mem hb
    rw [← nth_eq hj]
    exact hp_root h.hp j hj
  refine ⟨hy, ?_, ?_, ?_⟩
  · rw [List.append_assoc]
    exact ((((hp.cons (nth zs 0)).trans hz)).append_left pre).trans h.perm
  · refine List.pairwise_append.2 ⟨h.sorted, List.pairwise_singleton _ _, fun a ha b hb => ?_⟩
    rw [List.mem_singleton.1 hb]
    exact h.over a ha _ (nth_mem h0)
  · intro a ha b hb
    rcases List.mem_append.1 ha with ha | ha
    · exact h.over a ha b (hm b hb)
    · rw [List.mem_singleton.1 ha]; exact htop b (hm b hb)
theorem Popped.done {cl pre : List LvC} (h : Popped cl pre []) (hc : cl.Pairwise (fun a b => a.p < b.p)) : pre = cl.reverse := by
  have hp := h.perm
  rw [List.append_nil] at hp
  refine List.Perm.eq_of_pairwise (le := fun a b => b.p ≤ a.p) ?_ h.sorted ?_ (hp.trans (List.reverse_perm cl).symm)
  · intro a b ha hb h1 h2
    have ha := hp.subset ha
    have hb := List.mem_reverse.1 hb
    obtain ⟨i, hi, rfl⟩ := List.getElem_of_mem ha
    obtain ⟨j, hj, rfl⟩ := List.getElem_of_mem hb
    rw [List.pairwise_iff_getElem] at hc
    rcases Nat.lt_trichotomy i j with e | e | e
    · have := hc i j hi hj e; omega
    · subst e; rfl
    · have := hc j i hj hi e; omega
  · rw [List.pairwise_reverse]
    exact hc.imp fun h => Int.le_of_lt h

end Go.Proofs.YtiemlklngmifdaaGreat
