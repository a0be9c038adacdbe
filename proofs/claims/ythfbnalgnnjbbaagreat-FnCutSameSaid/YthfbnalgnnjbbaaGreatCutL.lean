/-
 The well-founded part; a program cut by it; the rules that stay after all steps. No condition of its own.
-/
import Derived.Test.YthfbnalgnnjbbaaGreatAnsD
import Derived.Test.YthfbnalgnnjbbaaGreatMak
import Derived.Test.YthfbnalgnnjbbaaGreatAnsJ
import Derived.Test.YthfbnalgnnjbbaaGreatBothI
import Derived.Test.YthfbnalgnnjbbaaGreatAnsU
import Derived.Test.YthfbnalgnnjbbaaGreatAppend
import Derived.Test.YthfbnalgnnjbbaaGreatOwnD
import Derived.Test.YthfbnalgnnjbbaaGreatPRow
import Derived.Test.YthfbnalgnnjbbaaGreatOwnR
import Derived.Deep.RegionHeld3
namespace Go.Proofs.YthfbnalgnnjbbaaGreat
set_option linter.unusedVariables false
set_option linter.unusedSimpArgs false
open Go.RowKit
set_option maxRecDepth 100000

def noCh (r : RuleD) : Bool := !r.choice
def plainB (p : ProgD) : Bool := foldB p && (foldD p).rules.all noCh
theorem plainB_A {p : ProgD} (h : foldB p = false) : plainB p = false := by simp only [plainB, h, Bool.false_and]
theorem plainB_B {p : ProgD} (h : foldB p = true) : plainB p = (foldD p).rules.all noCh := by simp only [plainB, h, Bool.true_and]
theorem plainB_fold {p : ProgD} (h : plainB p = true) : foldB p = true := by
 unfold plainB at h
 cases hf : foldB p
 ·rw [hf] at h; cases h
 ·rfl
theorem plainB_ch {p : ProgD} (h : plainB p = true) : ∀ r ∈ (foldD p).rules, r.choice = false := by
 rw [plainB_B (plainB_fold h), List.all_eq_true] at h
 intro r hr
 have := h r hr
 simpa [noCh] using this

def wfIt (rs : List RuleD) : Nat → List Int
 | 0 => []
 | n + 1 => leastL rs (leastL rs (wfIt rs n) false) false
def wfT (rs : List RuleD) : List Int := wfIt rs 13
def wfF (rs : List RuleD) : List Int := leastL rs (wfT rs) false
section
variable {rs : List RuleD}
theorem wfIt_isP : ∀ n, IsP (wfIt rs n)
 | 0 => isP_nil
 | _ + 1 => least_isP
theorem wfIt_sub (hw : Wts rs) (hc : ∀ r ∈ rs, r.choice = false) : ∀ n, Sub (wfIt rs n) (wfIt rs (n + 1))
 | 0 => fun a _ _ h => by simp [wfIt, hasB] at h
 | n + 1 => least_anti hw hc (least_anti hw hc (wfIt_sub hw hc n))
theorem wfIt_len (hw : Wts rs) (hc : ∀ r ∈ rs, r.choice = false) (n : Nat) : (wfIt rs n).length ≤ (wfIt rs (n + 1)).length ∧ ((wfIt rs (n + 1)).length = (wfIt rs n).length → wfIt rs (n + 1) = wfIt rs n) := by
 have := (wfIt_isP (rs := rs) n).len (wfIt_isP (n + 1)) (wfIt_sub hw hc n)
 exact ⟨this.1, fun e => (this.2 e.symm).symm⟩
theorem wfIt_stay {n : Nat} (h : wfIt rs (n + 1) = wfIt rs n) : ∀ k, wfIt rs (n + k) = wfIt rs n
 | 0 => rfl
 | k + 1 => by
  have ih := wfIt_stay h k
  show leastL rs (leastL rs (wfIt rs (n + k)) false) false = _
  rw [ih]
  exact h
theorem wfIt_end {n : Nat} (hn : n ≤ 13) (h : wfIt rs (n + 1) = wfIt rs n) : wfIt rs n = wfT rs := by
 have h2 := wfIt_stay h (13 - n)
 rw [show n + (13 - n) = 13 by omega] at h2
 exact h2.symm
theorem wfIt_more (hw : Wts rs) (hc : ∀ r ∈ rs, r.choice = false) {n : Nat} (hn : n ≤ (wfIt rs n).length) (h : wfIt rs (n + 1) ≠ wfIt rs n) : n + 1 ≤ (wfIt rs (n + 1)).length ∧ (wfIt rs n).length < (wfIt rs (n + 1)).length := by
 obtain ⟨h1, h2⟩ := wfIt_len hw hc n
 have : (wfIt rs (n + 1)).length ≠ (wfIt rs n).length := fun e => h (h2 e)
 omega
theorem wfIt_grow (hw : Wts rs) (hc : ∀ r ∈ rs, r.choice = false) : ∀ n, n ≤ (wfIt rs n).length ∨ wfIt rs (n + 1) = wfIt rs n
 | 0 => .inl (Nat.zero_le _)
 | n + 1 => by
  rcases wfIt_grow hw hc n with h | h
  ·by_cases e : wfIt rs (n + 1) = wfIt rs n
   ·exact .inr ((wfIt_stay e 2).trans (wfIt_stay e 1).symm)
   ·exact .inl (wfIt_more hw hc h e).1
  ·exact .inr ((wfIt_stay h 2).trans (wfIt_stay h 1).symm)
theorem wfT_fix (hw : Wts rs) (hc : ∀ r ∈ rs, r.choice = false) : leastL rs (wfF rs) false = wfT rs := by
 rcases wfIt_grow hw hc 13 with h | h
 ·have := (wfIt_isP (rs := rs) 13).le
  omega
 ·exact h
theorem wfT_isP : IsP (wfT rs) := wfIt_isP 13
theorem wfF_isP : IsP (wfF rs) := least_isP
end
def wfTR (p : ProgD) : List Int := if plainB p then wfT (foldD p).rules else []
def wfFR (p : ProgD) : List Int := if plainB p then wfF (foldD p).rules else []
theorem wfTR_no {p : ProgD} (h : plainB p = false) : wfTR p = [] := by simp [wfTR, h]
theorem wfTR_yes {p : ProgD} (h : plainB p = true) : wfTR p = wfT (foldD p).rules := by simp [wfTR, h]
theorem wfFR_no {p : ProgD} (h : plainB p = false) : wfFR p = [] := by simp [wfFR, h]
theorem wfFR_yes {p : ProgD} (h : plainB p = true) : wfFR p = wfF (foldD p).rules := by simp [wfFR, h]
def setlB (p : ProgD) : Bool := plainB p && decide (wfTR p = wfFR p)

def goesL (t f : List Int) (q : Int × Int) : Bool := (decide (0 < q.1) && !hasB f q.1) || (decide (q.1 < 0) && hasB t (-q.1))
def leftL (t f : List Int) (q : Int × Int) : Bool := (decide (0 < q.1) && hasB t q.1) || (decide (q.1 < 0) && !hasB f (-q.1))
def bodyTo (t f : List Int) (b : List (Int × Int)) : Nat → List (Int × Int)
 | 0 => []
 | k + 1 => if goesL t f (nth b k) || leftL t f (nth b k) then bodyTo t f b k else bodyTo t f b k ++ [nth b k]
theorem bodyTo_out {t f : List Int} {b : List (Int × Int)} {k : Nat} (h : (goesL t f (nth b k) || leftL t f (nth b k)) = true) : bodyTo t f b (k + 1) = bodyTo t f b k := if_pos h
theorem bodyTo_in {t f : List Int} {b : List (Int × Int)} {k : Nat} (h : (goesL t f (nth b k) || leftL t f (nth b k)) = false) : bodyTo t f b (k + 1) = bodyTo t f b k ++ [nth b k] := by
 show (if (goesL t f (nth b k) || leftL t f (nth b k)) = true then _ else _) = _
 rw [h]; rfl
theorem bodyTo_len (t f : List Int) (b : List (Int × Int)) : ∀ k, (bodyTo t f b k).length ≤ k
 | 0 => by simp [bodyTo]
 | k + 1 => by
  have := bodyTo_len t f b k
  unfold bodyTo; split <;> simp <;> omega
def goesTo (t f : List Int) (b : List (Int × Int)) : Nat → Bool
 | 0 => false
 | k + 1 => goesTo t f b k || goesL t f (nth b k)
theorem goesTo_up {t f : List Int} {b : List (Int × Int)} {k : Nat} (h : goesTo t f b k = true) : ∀ n, goesTo t f b (k + n) = true
 | 0 => h
 | n + 1 => by show (goesTo t f b (k + n) || _) = true; rw [goesTo_up h n]; rfl
def cutB (t f : List Int) (r : RuleD) : Bool := r.weight || !goesTo t f r.body r.body.length
def cutR (t f : List Int) (r : RuleD) : RuleD := if r.weight then r else { r with body := bodyTo t f r.body r.body.length }
theorem cutB_w {t f : List Int} {r : RuleD} (h : r.weight = true) : cutB t f r = true := by simp [cutB, h]
theorem cutR_w {t f : List Int} {r : RuleD} (h : r.weight = true) : cutR t f r = r := by simp [cutR, h]
theorem cutB_n {t f : List Int} {r : RuleD} (h : r.weight = false) : cutB t f r = !goesTo t f r.body r.body.length := by simp [cutB, h]
theorem cutR_n {t f : List Int} {r : RuleD} (h : r.weight = false) : cutR t f r = { r with body := bodyTo t f r.body r.body.length } := by simp [cutR, h]
theorem cutB_go {t f : List Int} {r : RuleD} {k : Nat} (h : r.weight = false) (hk : k ≤ r.body.length) (hg : goesTo t f r.body k = true) : cutB t f r = false := by
 rw [cutB_n h]
 have := goesTo_up hg (r.body.length - k)
 rw [show k + (r.body.length - k) = r.body.length by omega] at this
 rw [this]; rfl
def cutTo (t f : List Int) (rs : List RuleD) : Nat → List RuleD
 | 0 => []
 | k + 1 => if cutB t f (nth rs k) then cutTo t f rs k ++ [cutR t f (nth rs k)] else cutTo t f rs k
theorem cutTo_yes {t f : List Int} {rs : List RuleD} {k : Nat} (h : cutB t f (nth rs k) = true) : cutTo t f rs (k + 1) = cutTo t f rs k ++ [cutR t f (nth rs k)] := if_pos h
theorem cutTo_no {t f : List Int} {rs : List RuleD} {k : Nat} (h : cutB t f (nth rs k) = false) : cutTo t f rs (k + 1) = cutTo t f rs k := by
 show (if cutB t f (nth rs k) = true then _ else _) = _
 rw [h]; rfl
theorem cutTo_len (t f : List Int) (rs : List RuleD) : ∀ k, (cutTo t f rs k).length ≤ k
 | 0 => by simp [cutTo]
 | k + 1 => by
  have := cutTo_len t f rs k
  unfold cutTo; split <;> simp <;> omega
theorem cutTo_mem {t f : List Int} {rs : List RuleD} {r : RuleD} : ∀ {k : Nat}, k ≤ rs.length → r ∈ cutTo t f rs k → ∃ x, x ∈ rs ∧ r = cutR t f x
 | 0, _, h => by simp [cutTo] at h
 | k + 1, hk, h => by
  unfold cutTo at h
  split at h
  ·rcases List.mem_append.1 h with h | h
   ·exact cutTo_mem (by omega) h
   ·exact ⟨_, nth_mem (by omega), List.mem_singleton.1 h⟩
  ·exact cutTo_mem (by omega) h
def cutD (q : ProgD) : ProgD := { q with rules := cutTo (wfT q.rules) (wfF q.rules) q.rules q.rules.length }
def cutP (p : ProgD) : ProgD := if plainB p then cutD (foldD p) else default
theorem cutP_no {p : ProgD} (h : plainB p = false) : cutP p = default := by simp [cutP, h]
theorem cutP_yes {p : ProgD} (h : plainB p = true) : cutP p = cutD (foldD p) := by simp [cutP, h]


theorem Own.putB {α : Type} [Ow α] {lo : Nat} {w : World} {cs : List Value} {x : α} (h : Own lo w cs x) {g : Nat} (hg : g < lo) (o : Nat) (vs : List Value) : Own lo (put w g o vs) cs x := by
 obtain ⟨fp, h, hl⟩ := h
 exact ⟨fp, Ow.kept h fun b hb => (put_chg g vs w o).block b (by have := hl b hb; simp; omega), hl⟩
theorem cellsAt {W : World} {b : Nat} {cs : List Value} {t : TypeId} (h : W.heap[b]? = some (.cells cs.toArray t (0, 0))) : Cells W b 0 cs := fun j v hv => by
 rw [Nat.zero_add, cell_of_row W b j _ _ _ h]; simpa using hv
theorem allCh_no {rs : List RuleD} {k : Nat} (h : k < rs.length) (hc : (nth rs k).choice = true) : rs.all noCh = false := by
 rw [List.all_eq_false]
 exact ⟨_, nth_mem h, by simp [noCh, hc]⟩
theorem allCh_yes {rs : List RuleD} (h : ∀ j, j < rs.length → (nth rs j).choice = false) : rs.all noCh = true := by
 rw [List.all_eq_true]
 intro r hr
 obtain ⟨i, hi, rfl⟩ := List.getElem_of_mem hr
 rw [← nth_eq hi]
 simp [noCh, h i hi]

theorem choice_calls {cs : List Value} {r : RuleD} {w : World} (h : Rd.R w cs r) :
  Calls Tryz.prog 199 #[.agg cs.toArray] w fun e w' => e = .returned (.bool r.choice) ∧ Below w.heap.size w w' := by
 obtain ⟨d1, d4, rfl, hf', r1, r4⟩ := h
 have so1 := sto Tryz.prog r1.one1
 have so4 := sto Tryz.prog r4.one1
 have t0 : Below w.heap.size w (w.alloc (.cells #[.bool r.choice, d1, .bool r.weight, .int .i64 r.bound, d4] 52)) := (Below.refl _ _).alloc (Nat.le_refl _) _
 clear r1 r4
 go_enter Tryz.func199, Tryz.ntmps199
 go_wp2
 go_ret
 exact ⟨rfl, t0⟩

set_option maxHeartbeats 1000000 in
theorem indexCh_calls {w : World} {v : Value} {rs : List RuleD} (h : RdL w [v] rs) :
  Calls Tryz.prog 237 #[v, .func (.func 199) #[] #[]] w fun e w' => ∃ i : Int, e = .returned (.int .i64 i) ∧ decide (0 ≤ i) = !rs.all noCh ∧ Below w.heap.size w w' := by
 obtain ⟨a1, k1, rfl, _, h1⟩ := h.sl
 have hm1 := h1.1
 go_enter Tryz.func237, Tryz.ntmps237
 go_wp2
 go_loopw [5, 8] (fun _ i wr => ∃ k : Nat, k ≤ rs.length ∧ i = .int .i64 k ∧ (∀ j, j < k → (nth rs j).choice = false) ∧ Below w.heap.size w wr) (fun _ i _ => rs.length - (intOf i).toNat)
 case atStart => exact ⟨0, Nat.zero_le _, rfl, fun j hj => absurd hj (Nat.not_lt_zero _), Below.refl _ _⟩
 case round =>
  obtain ⟨k, hk, rfl, hA, hb⟩ := hrel
  have HA := Lib.hid hA
  clear hA
  by_cases hlt : k < rs.length
  ·obtain ⟨b, off, rfl, hc⟩ := h1.base (by omega)
   obtain ⟨ecs, hC, hR⟩ := hc k hlt
   have hC := hC.later hb
   have hR := Rd.mono hb hR
   have hR0 := hR
   obtain ⟨d1, d4, rfl, hf', r1, r4⟩ := hR0
   have so1 := sto Tryz.prog r1.one1
   have so4 := sto Tryz.prog r4.one1
   have u0 := hC.c0
   have u1 := hC.c1
   have u2 := hC.c2
   have u3 := hC.c3
   have u4 := hC.c4
   rw [show Rd.k RuleD = 5 from rfl] at u0 u1 u2 u3 u4
   clear hC hc h1 r1 r4
   cases hch : (nth rs k).choice
   ·have hN := Lib.hid hch
    clear hch
    go_wp2_with (go_at_call 199; refine (choice_calls hR).mono ?_; rintro e w' ⟨he, hb'⟩; rw [hN.out] at he; subst he)
    go_roundw
    case rel => exact ⟨k + 1, by omega, by go_num, fun j hj => by
     rcases Nat.lt_succ_iff_lt_or_eq.1 hj with h | h
     ·exact HA.out j h
     ·subst h; exact hN.out, hb.step hb'⟩
    case measure => simp [intOf]; omega
   ·have hN := Lib.hid hch
    clear hch
    go_wp2_with (go_at_call 199; refine (choice_calls hR).mono ?_; rintro e w' ⟨he, hb'⟩; rw [hN.out] at he; subst he)
    go_ret
    exact ⟨_, rfl, by rw [allCh_no hlt hN.out]; simp, hb.step hb'⟩
  ·obtain rfl : k = rs.length := by omega
   go_wp2
   go_ret
   exact ⟨_, rfl, by rw [allCh_yes HA.out]; simp, hb⟩

theorem hasCh_calls {w : World} {v : Value} {rs : List RuleD} (h : RdL w [v] rs) :
  Calls Tryz.prog 198 #[v, .func (.func 199) #[] #[]] w fun e w' => e = .returned (.bool (!rs.all noCh)) ∧ Below w.heap.size w w' := by
 obtain ⟨a1, k1, rfl, _, h1⟩ := h.sl
 go_enter Tryz.func198, Tryz.ntmps198
 go_wp2_with fail
 refine (indexCh_calls h).mono ?_
 rintro e w1 ⟨i, rfl, hi, b1⟩
 have HI := Lib.hid hi
 clear hi
 go_wp2
 go_ret
 exact ⟨ret_bool (by rw [← HI.out]), b1⟩

def plainP (p : ProgD) : ProgD := if plainB p then foldD p else default
theorem plainP_no {p : ProgD} (h : plainB p = false) : plainP p = default := by simp [plainP, h]
theorem plainP_yes {p : ProgD} (h : plainB p = true) : plainP p = foldD p := by simp [plainP, h]

set_option maxHeartbeats 4000000 in
theorem plain_calls {cs : List Value} {p : ProgD} {w : World} (h : Rd.R w cs p) :
  Calls Tryz.prog 112 #[.agg cs.toArray] w fun e w' => ∃ cs', e = .returned (.tuple #[.agg cs'.toArray, .bool (plainB p)]) ∧ Own w.heap.size w' cs' (plainP p) ∧ Below w.heap.size w w' := by
 obtain ⟨p0, p1, p2, p3, p4, p5, p6, p7, rfl⟩ := list8 (Rd.len h)
 have t0 : Below w.heap.size w ((w.alloc (.cells #[p0, p1, p2, p3, p4, p5, p6, p7] 30)).alloc (.cells #[.int .i64 0, .slice none 0 0, .slice none 0 0, .bool false, .slice none 0 0, .slice none 0 0, .slice none 0 0, .slice none 0 0] 30)) := ((Below.refl _ _).alloc (by simp) _).alloc (by simp) _
 have hb0 := alloc_block (w.alloc (.cells #[p0, p1, p2, p3, p4, p5, p6, p7] 30)) #[.int .i64 0, .slice none 0 0, .slice none 0 0, .bool false, .slice none 0 0, .slice none 0 0, .slice none 0 0, .slice none 0 0] 30
 rw [World.size_alloc] at hb0
 have hzs : ((w.alloc (.cells #[p0, p1, p2, p3, p4, p5, p6, p7] 30)).alloc (.cells #[.int .i64 0, .slice none 0 0, .slice none 0 0, .bool false, .slice none 0 0, .slice none 0 0, .slice none 0 0, .slice none 0 0] 30)).heap.size = w.heap.size + 2 := by simp
 go_enter Tryz.func112, Tryz.ntmps112
 go_wp2_with fail
 refine (implFold_calls (Rd.mono t0 h)).mono ?_
 rintro e w1 ⟨cs1, he, o1, b1⟩
 rw [hzs] at o1
 have hb1 := (b1.block (w.heap.size + 1) (by rw [hzs]; omega)).trans hb0
 have hz1 : w.heap.size + 2 ≤ w1.heap.size := by have := b1.size; omega
 cases hF : foldB p
 ·have hP : Hid (plainB p = false) := plainB_A hF
  rw [hF] at he
  subst he
  have t1 := t0.step b1
  have l1 := Rd.one o1.rd
  obtain ⟨x0, x1, x2, x3, x4, x5, x6, x7, rfl⟩ := list8 (Rd.len o1.rd)
  have st0 := sto Tryz.prog (l1 x0 (by simp))
  have st1 := sto Tryz.prog (l1 x1 (by simp))
  have st2 := sto Tryz.prog (l1 x2 (by simp))
  have st3 := sto Tryz.prog (l1 x3 (by simp))
  have st4 := sto Tryz.prog (l1 x4 (by simp))
  have st5 := sto Tryz.prog (l1 x5 (by simp))
  have st6 := sto Tryz.prog (l1 x6 (by simp))
  have st7 := sto Tryz.prog (l1 x7 (by simp))
  have o1 := o1.alloc (.cells #[x0, x1, x2, x3, x4, x5, x6, x7] 30)
  have CX1 := Cells.new w1 [x0, x1, x2, x3, x4, x5, x6, x7] 30
  have t1 := t1.alloc t1.size (.cells #[x0, x1, x2, x3, x4, x5, x6, x7] 30)
  clear l1
  have hb2 := (Below.heap_alloc w1 (.cells #[x0, x1, x2, x3, x4, x5, x6, x7] 30) (w.heap.size + 1) (by omega)).trans hb1
  obtain ⟨z0, z1, z2, z3, z4, z5, z6, z7⟩ := cells8 (cellsAt hb2)
  have hfz := fun j => frozen_of_row _ (w.heap.size + 1) j _ _ hb2
  clear o1 CX1 hb0 hb1 b1
  go_wp2
  exact bodyPost_ret (v := .tuple #[.agg #[.int .i64 0, .slice none 0 0, .slice none 0 0, .bool false, .slice none 0 0, .slice none 0 0, .slice none 0 0, .slice none 0 0], .bool false])
   (by simp [results, Tryz.results112, go_sem, z0, z1, z2, z3, z4, z5, z6, z7]) rfl ⟨_, by rw [hP.out], by rw [plainP_no hP.out]; exact own_zero _ _, by
   repeat (refine Below.setCell ?_ (by simp; try omega) _)
   exact t1⟩
 ·rw [foldR_yes hF] at o1
  rw [hF] at he
  subst he
  have t1 := t0.step b1
  have l1 := Rd.one o1.rd
  obtain ⟨x0, x1, x2, x3, x4, x5, x6, x7, rfl⟩ := list8 (Rd.len o1.rd)
  have st0 := sto Tryz.prog (l1 x0 (by simp))
  have st1 := sto Tryz.prog (l1 x1 (by simp))
  have st2 := sto Tryz.prog (l1 x2 (by simp))
  have st3 := sto Tryz.prog (l1 x3 (by simp))
  have st4 := sto Tryz.prog (l1 x4 (by simp))
  have st5 := sto Tryz.prog (l1 x5 (by simp))
  have st6 := sto Tryz.prog (l1 x6 (by simp))
  have st7 := sto Tryz.prog (l1 x7 (by simp))
  have o1 := o1.alloc (.cells #[x0, x1, x2, x3, x4, x5, x6, x7] 30)
  have CX1 := Cells.new w1 [x0, x1, x2, x3, x4, x5, x6, x7] 30
  have t1 := t1.alloc t1.size (.cells #[x0, x1, x2, x3, x4, x5, x6, x7] 30)
  clear l1
  have oR := o1.rd
  obtain ⟨_, _, _, _, _, _, hl, hfa, g1, _⟩ := oR
  simp only [List.cons.injEq, and_true] at hl
  obtain ⟨rfl, rfl, -⟩ := hl
  obtain ⟨y0, y1, y2, y3, y4, y5, y6, y7⟩ := cells8 CX1
  have hz2 := World.size_alloc w1 (.cells #[.int .i64 (foldD p).atoms, x1, x2, x3, x4, x5, x6, x7] 30)
  have hb2 := (Below.heap_alloc w1 (.cells #[.int .i64 (foldD p).atoms, x1, x2, x3, x4, x5, x6, x7] 30) (w.heap.size + 1) (by omega)).trans hb1
  cases hC : (foldD p).rules.all noCh
  ·have hP : Hid (plainB p = false) := (plainB_B hF).trans hC
   go_wp2_with fail
   refine (hasCh_calls g1).mono ?_
   rintro e w3 ⟨he, b3⟩
   rw [hC] at he
   subst he
   have hb3 := (b3.block (w.heap.size + 1) (by omega)).trans hb2
   have hz3 := b3.size
   obtain ⟨z0, z1, z2, z3, z4, z5, z6, z7⟩ := cells8 (cellsAt hb3)
   have hfz := fun j => frozen_of_row _ (w.heap.size + 1) j _ _ hb3
   have t3 := t1.step b3
   clear o1 CX1 hb0 hb1 hb2 hb3 b1 y0 y1 y2 y3 y4 y5 y6 y7 hC
   go_wp2
   exact bodyPost_ret (v := .tuple #[.agg #[.int .i64 0, .slice none 0 0, .slice none 0 0, .bool false, .slice none 0 0, .slice none 0 0, .slice none 0 0, .slice none 0 0], .bool false])
    (by simp [results, Tryz.results112, go_sem, z0, z1, z2, z3, z4, z5, z6, z7]) rfl ⟨_, by rw [hP.out], by rw [plainP_no hP.out]; exact own_zero _ _, by
    repeat (refine Below.setCell ?_ (by simp; try omega) _)
    exact t3⟩
  ·have hP : Hid (plainB p = true) := (plainB_B hF).trans hC
   go_wp2_with fail
   refine (hasCh_calls g1).mono ?_
   rintro e w3 ⟨he, b3⟩
   rw [hC] at he
   subst he
   have hb3 := (b3.block (w.heap.size + 1) (by omega)).trans hb2
   have hz3 := b3.size
   obtain ⟨z0, z1, z2, z3, z4, z5, z6, z7⟩ := cells8 (cellsAt hb3)
   have hfz := fun j => frozen_of_row _ (w.heap.size + 1) j _ _ hb3
   have t3 := t1.step b3
   have o3 := Lib.hid (o1.later b3)
   obtain ⟨v0, v1, v2, v3, v4, v5, v6, v7⟩ := cells8 (CX1.later b3)
   clear o1 CX1 hb0 hb1 hb2 hb3 b1 y0 y1 y2 y3 y4 y5 y6 y7 hC
   go_wp2
   refine bodyPost_ret (v := .tuple #[.agg #[.int .i64 (foldD p).atoms, x1, x2, x3, x4, x5, x6, x7], .bool true])
    (by simp [results, Tryz.results112, go_sem, z0, z1, z2, z3, z4, z5, z6, z7]) rfl ⟨_, by rw [hP.out], ?_, ?_⟩
   ·rw [plainP_yes hP.out]
    exact (o3.out.putB (g := w.heap.size + 1) (by omega) 0 [.int .i64 (foldD p).atoms, x1, x2, x3, x4, x5, x6, x7]).mono (by omega)
   ·exact t3.trans ((put_chg (w.heap.size + 1) [.int .i64 (foldD p).atoms, x1, x2, x3, x4, x5, x6, x7] _ 0).below fun g hg => by simp at hg; omega)

theorem step_calls {cs : List Value} {p : ProgD} {w : World} {B m : Nat} (hB : Cells w B 0 cs) (h : Rd.R w cs p) (hok : ∀ r ∈ p.rules, ruleOkB r 12 = true) (hm : m < 4096) :
  Calls Tryz.prog 200 #[.int .u16 (m : Int), .pointer (some ⟨B, 0, none⟩)] w fun e w' => ∃ m1 m2 : Nat, e = .returned (.tuple #[.int .u16 (m1 : Int), .int .u16 (m2 : Int)]) ∧ (m1 < 4096 ∧ mset m1 = leastL p.rules (leastL p.rules (mset m) false) false) ∧ (m2 < 4096 ∧ mset m2 = leastL p.rules (mset m) false) ∧ Below w.heap.size w w' := by
 obtain ⟨e0, e1, e2, e3, e4, e5, e6, e7, rfl⟩ := list8 (Rd.len h)
 obtain ⟨y0, y1, y2, y3, y4, y5, y6, y7⟩ := cells8 hB
 have h1 := leastP_calls (mset m) h hok
 rw [mask_mset hm] at h1
 have H1 := Lib.hid h1
 have HOK := Lib.hid hok
 clear h1 hok
 go_enter Tryz.func200, Tryz.ntmps200
 go_wp2_with fail
 refine H1.out.mono ?_
 rintro e w1 ⟨m2, rfl, ⟨hm2, hl2⟩, b1⟩
 have h2 := leastP_calls (mset m2) (Rd.mono b1 h) HOK.out
 rw [mask_mset hm2] at h2
 have H2 := Lib.hid h2
 have HL2 := Lib.hid hl2
 clear h2 hl2 y0 y1 y2 y3 y4 y5 y6 y7
 obtain ⟨y0, y1, y2, y3, y4, y5, y6, y7⟩ := cells8 (hB.later b1)
 go_wp2_with fail
 refine H2.out.mono ?_
 rintro e w2 ⟨m1, rfl, ⟨hm1, hl1⟩, b2⟩
 rw [HL2.out] at hl1
 have HL1 := Lib.hid hl1
 clear hl1
 go_wp2
 go_ret2
 exact ⟨m1, m2, rfl, ⟨hm1, HL1.out⟩, ⟨hm2, HL2.out⟩, b1.step b2⟩

theorem mset_inj {a b : Nat} (ha : a < 4096) (hb : b < 4096) (h : mset a = mset b) : a = b := by
 rw [← mask_mset ha, ← mask_mset hb, h]

set_option maxHeartbeats 2000000 in
theorem wellP_calls {cs : List Value} {q : ProgD} {w : World} (h : Rd.R w cs q) (hok : ∀ r ∈ q.rules, ruleOkB r 12 = true) (hch : ∀ r ∈ q.rules, r.choice = false) :
  Calls Tryz.prog 113 #[.agg cs.toArray] w fun e w' => ∃ m1 m2 : Nat, e = .returned (.tuple #[.int .u16 (m1 : Int), .int .u16 (m2 : Int)]) ∧ (m1 < 4096 ∧ mset m1 = wfT q.rules) ∧ (m2 < 4096 ∧ mset m2 = wfF q.rules) ∧ Below w.heap.size w w' := by
 have hmf : ∀ (fn : Fn) (first cap : Array Value) (w : World), (Instr.makeFunc fn first cap).run Tryz.prog w = .ok (.func fn first cap) w := fun _ _ _ _ => rfl
 have HW := Lib.hid (wts_ok hok)
 have HOK := Lib.hid hok
 have HCH := Lib.hid hch
 clear hok hch
 obtain ⟨e0, e1, e2, e3, e4, e5, e6, e7, rfl⟩ := list8 (Rd.len h)
 have t0 : Below w.heap.size w (w.alloc (.cells #[e0, e1, e2, e3, e4, e5, e6, e7] 30)) := (Below.refl _ _).alloc (by simp) _
 have CX := Lib.hid (Cells.new w [e0, e1, e2, e3, e4, e5, e6, e7] 30)
 have R0 := Rd.mono t0 h
 have hza : w.heap.size < (w.alloc (.cells #[e0, e1, e2, e3, e4, e5, e6, e7] 30)).heap.size := by simp
 go_enter Tryz.func113, Tryz.ntmps113
 go_wp2
 generalize w.alloc (.cells #[e0, e1, e2, e3, e4, e5, e6, e7] 30) = wa at *
 go_loopw [2] (fun s wr => ∃ n m : Nat, s = .int .u16 (m : Int) ∧ m < 4096 ∧ mset m = wfIt q.rules n ∧ n ≤ (wfIt q.rules n).length ∧ Below wa.heap.size wa wr) (fun s _ => 13 - (mset (natOf s)).length)
 case atStart => exact ⟨0, 0, rfl, by omega, mset_zero, Nat.zero_le _, Below.refl _ _⟩
 case round =>
  obtain ⟨n, m, rfl, hm, hl, hn, hb⟩ := hrel
  have HL := Lib.hid hl
  have HN := Lib.hid hn
  clear hl hn
  go_wp2_with (go_at_call 200; refine (step_calls (CX.out.later hb) (Rd.mono hb R0) HOK.out hm).mono ?_; rintro e w2 ⟨m1, m2, rfl, ⟨hm1, hl1⟩, ⟨hm2, hl2⟩, b2⟩)
  ·rename_i h9
   have hq : m1 = m := by have := eq_of_beq h9; omega
   have HL1 := Lib.hid (hl1.trans (by rw [HL.out]; rfl : _ = wfIt q.rules (n + 1)))
   have HL2 := Lib.hid (hl2.trans (by rw [HL.out] : _ = leastL q.rules (wfIt q.rules n) false))
   clear hl1 hl2 h9
   subst hq
   have hE := Lib.hid (wfIt_end (rs := q.rules) (n := n) (by have := HN.out; have := (wfIt_isP (rs := q.rules) n).le; omega) (HL1.out.symm.trans HL.out))
   try go_wp2
   go_ret2
   refine ⟨m1, m2, rfl, ⟨hm1, HL.out.trans hE.out⟩, ⟨hm2, ?_⟩, t0.step (hb.step b2)⟩
   rw [HL2.out]; unfold wfF; rw [hE.out]
  ·rename_i h9
   have hq : m1 ≠ m := fun e => by subst e; simp at h9
   have HL1 := Lib.hid (hl1.trans (by rw [HL.out]; rfl : _ = wfIt q.rules (n + 1)))
   have hne : wfIt q.rules (n + 1) ≠ wfIt q.rules n := fun e => hq (mset_inj hm1 hm ((HL1.out.trans e).trans HL.out.symm))
   have hM := wfIt_more HW.out HCH.out HN.out hne
   have hl12 := mset_len m1
   have HM1 : (mset m).length < (mset m1).length := by rw [HL.out, HL1.out]; exact hM.2
   clear hq hne h9
   refine ⟨⟨n + 1, m1, rfl, hm1, HL1.out, hM.1, hb.step b2⟩, ?_⟩
   simp [natOf]; omega





theorem allCh_noS {rs : List RuleD} {k : Nat} (h : k < rs.length) (hc : (nth rs k).choice = true) : rs.all noCh = false := by
 rw [List.all_eq_false]
 exact ⟨_, nth_mem h, by simp [noCh, hc]⟩
theorem allCh_yesS {rs : List RuleD} (h : ∀ j, j < rs.length → (nth rs j).choice = false) : rs.all noCh = true := by
 rw [List.all_eq_true]
 intro r hr
 obtain ⟨i, hi, rfl⟩ := List.getElem_of_mem hr
 rw [← nth_eq hi]
 simp [noCh, h i hi]
theorem plainB_R {p : ProgD} {b : Bool} (hb : foldB p = b) : plainB p = (b && (foldR p).rules.all noCh) := by
 subst hb
 cases h : foldB p
 ·rw [plainB_A h]; rfl
 ·rw [plainB_B h, foldR_yes h, Bool.true_and]

set_option maxHeartbeats 1000000 in
theorem specPlain_calls {cs : List Value} {p : ProgD} {w : World} (h : Rd.R w cs p) :
  Calls Tryz.prog 47 #[.agg cs.toArray] w fun e w' => e = .returned (.bool (plainB p)) ∧ Below w.heap.size w w' := by
 obtain ⟨p0, p1, p2, p3, p4, p5, p6, p7, rfl⟩ := list8 (Rd.len h)
 have t0 : Below w.heap.size w (w.alloc (.cells #[p0, p1, p2, p3, p4, p5, p6, p7] 30)) := (Below.refl _ _).alloc (by simp) _
 go_enter Tryz.func47, Tryz.ntmps47
 go_wp2_with fail
 refine (specFold_calls (Rd.mono t0 h)).mono ?_
 rintro e w1 ⟨cs1, he, o1, b1⟩
 obtain ⟨fb, hfb⟩ : ∃ fb, foldB p = fb := ⟨_, rfl⟩
 have HP := Lib.hid (plainB_R hfb)
 rw [hfb] at he
 subst he
 clear hfb
 obtain ⟨R, hR⟩ : ∃ R, R = foldR p := ⟨_, rfl⟩
 rw [← hR] at o1 HP
 clear hR
 have t1 := t0.step b1
 have l1 := Rd.one o1.rd
 obtain ⟨x0, x1, x2, x3, x4, x5, x6, x7, rfl⟩ := list8 (Rd.len o1.rd)
 have st0 := sto Tryz.prog (l1 x0 (by simp))
 have st1 := sto Tryz.prog (l1 x1 (by simp))
 have st2 := sto Tryz.prog (l1 x2 (by simp))
 have st3 := sto Tryz.prog (l1 x3 (by simp))
 have st4 := sto Tryz.prog (l1 x4 (by simp))
 have st5 := sto Tryz.prog (l1 x5 (by simp))
 have st6 := sto Tryz.prog (l1 x6 (by simp))
 have st7 := sto Tryz.prog (l1 x7 (by simp))
 have o1 := o1.alloc (.cells #[x0, x1, x2, x3, x4, x5, x6, x7] 30)
 have CX1 := Cells.new w1 [x0, x1, x2, x3, x4, x5, x6, x7] 30
 have t1 := t1.alloc t1.size (.cells #[x0, x1, x2, x3, x4, x5, x6, x7] 30)
 clear l1
 have oR := o1.rd
 obtain ⟨_, _, _, _, _, _, hl, hfa, g1, _⟩ := oR
 simp only [List.cons.injEq, and_true] at hl
 obtain ⟨rfl, rfl, -⟩ := hl
 obtain ⟨a1, k1, rfl, _, h1⟩ := g1.sl
 have hm1 := h1.1
 have CXH := Lib.hid CX1
 have hzw : w1.heap.size < (w1.alloc (.cells #[.int .i64 (R).atoms, .slice a1 (R).rules.length k1, x2, x3, x4, x5, x6, x7] 30)).heap.size := by simp
 generalize hwa : w1.alloc (.cells #[.int .i64 (R).atoms, .slice a1 (R).rules.length k1, x2, x3, x4, x5, x6, x7] 30) = wa at *
 go_wp2
 try rw [hwa]
 clear st0 st1 st2 st3 st4 st5 st6 st7
 go_loopw [5] (fun i wr => ∃ k : Nat, k ≤ R.rules.length ∧ i = .int .i64 k ∧ (∀ j, j < k → (nth R.rules j).choice = false) ∧ Below wa.heap.size wa wr) (fun i _ => R.rules.length - (intOf i).toNat)
 case atStart => exact ⟨0, Nat.zero_le _, rfl, fun j hj => absurd hj (Nat.not_lt_zero _), Below.refl _ _⟩
 case round =>
  obtain ⟨k, hk, rfl, hA, hb⟩ := hrel
  have HA := Lib.hid hA
  clear hA
  obtain ⟨y0, y1, y2, y3, y4, y5, y6, y7⟩ := cells8 (CXH.out.later hb)
  by_cases hlt : k < R.rules.length
  ·obtain ⟨b, off, rfl, hc⟩ := h1.base (by omega)
   obtain ⟨ecs, hC, hR⟩ := hc k hlt
   have hC := hC.later hb
   have hR := Rd.mono hb hR
   have hR0 := hR
   obtain ⟨d1, d4, rfl, hf', r1, r4⟩ := hR0
   have u0 := hC.c0
   rw [show Rd.k RuleD = 5 from rfl] at u0
   clear hC hc h1 r1 r4 hR
   cases hch : (nth R.rules k).choice
   ·have hN := Lib.hid hch
    rw [hch] at u0
    clear hch
    go_wp2
    go_roundw
    case rel => exact ⟨k + 1, by omega, by go_num, fun j hj => by
     rcases Nat.lt_succ_iff_lt_or_eq.1 hj with h | h
     ·exact HA.out j h
     ·subst h; exact hN.out, hb⟩
    case measure => simp [intOf]; omega
   ·have hN := Lib.hid hch
    rw [hch] at u0
    clear hch
    go_wp2
    go_ret
    exact ⟨ret_bool (by rw [HP.out, allCh_noS hlt hN.out, Bool.and_false]), t1.step hb⟩
  ·obtain rfl : k = R.rules.length := by omega
   go_wp2
   go_ret
   exact ⟨ret_bool (by rw [HP.out, allCh_yesS HA.out, Bool.and_true]), t1.step hb⟩

set_option maxHeartbeats 2000000 in
theorem specWellFounded_calls {cs : List Value} {p : ProgD} {w : World} (h : Rd.R w cs p) :
  Calls Tryz.prog 117 #[.agg cs.toArray] w fun e w' => ∃ u1 u2, e = .returned (.tuple #[u1, u2, .bool (plainB p)]) ∧ OwnI w.heap.size w' u1 (wfTR p) ∧ OwnI w.heap.size w' u2 (wfFR p) ∧ Below w.heap.size w w' := by
 obtain ⟨p0, p1, p2, p3, p4, p5, p6, p7, rfl⟩ := list8 (Rd.len h)
 have t0 : Below w.heap.size w (w.alloc (.cells #[p0, p1, p2, p3, p4, p5, p6, p7] 30)) := (Below.refl _ _).alloc (by simp) _
 have CP := Cells.new w [p0, p1, p2, p3, p4, p5, p6, p7] 30
 go_enter Tryz.func117, Tryz.ntmps117
 go_wp2_with fail
 refine (specPlain_calls (Rd.mono t0 h)).mono ?_
 rintro e w0 ⟨he, b0⟩
 have t0' := t0.step b0
 cases hP : plainB p
 ·have HPB := Lib.hid hP
  have hv1 := Lib.hid (wfTR_no hP)
  have hv2 := Lib.hid (wfFR_no hP)
  rw [hP] at he
  subst he
  have hz : w.heap.size ≤ w0.heap.size := t0'.size
  go_wp2
  refine bodyPost_ret (v := .tuple #[.slice (some ⟨w0.heap.size, 0, none⟩) 0 0, .slice (some ⟨w0.heap.size + 1, 0, none⟩) 0 0, .bool false]) (by simp [results, Tryz.results117, go_sem]) rfl ?_
  refine ⟨_, _, by rw [HPB.out], ?_, ?_, (t0'.alloc hz _).alloc (by simp; omega) _⟩
  ·rw [hv1.out]
   exact (OwnI.new w0 w.heap.size hz).kept ((Below.refl _ _).alloc (Nat.le_refl _) _)
  ·rw [hv2.out]
   have := OwnI.new (w0.alloc (.cells #[] 3)) w.heap.size (by simp; omega)
   rw [World.size_alloc] at this
   exact this
 ·have HPB := Lib.hid hP
  have hv1 := Lib.hid (wfTR_yes hP)
  have hv2 := Lib.hid (wfFR_yes hP)
  have hF := plainB_fold hP
  have hok : progOkB (foldD p) = true := foldR_ok hF
  have hr12 := Lib.hid (rules12 hok)
  have HCH := Lib.hid (plainB_ch hP)
  have HW := Lib.hid (foldD_wts hF)
  rw [hP] at he
  subst he
  obtain ⟨y0, y1, y2, y3, y4, y5, y6, y7⟩ := cells8 (CP.later b0)
  go_wp2_with fail
  refine (specFold_calls (Rd.mono t0' h)).mono ?_
  rintro e w1 ⟨cs1, he, o1, b1⟩
  rw [hF] at he
  rw [foldR_yes hF] at o1
  subst he
  clear y0 y1 y2 y3 y4 y5 y6 y7 t0 b0 CP
  have t0 := t0'
  have t1 := t0.step b1
  have l1 := Rd.one o1.rd
  obtain ⟨x0, x1, x2, x3, x4, x5, x6, x7, rfl⟩ := list8 (Rd.len o1.rd)
  have st0 := sto Tryz.prog (l1 x0 (by simp))
  have st1 := sto Tryz.prog (l1 x1 (by simp))
  have st2 := sto Tryz.prog (l1 x2 (by simp))
  have st3 := sto Tryz.prog (l1 x3 (by simp))
  have st4 := sto Tryz.prog (l1 x4 (by simp))
  have st5 := sto Tryz.prog (l1 x5 (by simp))
  have st6 := sto Tryz.prog (l1 x6 (by simp))
  have st7 := sto Tryz.prog (l1 x7 (by simp))
  have o1 := o1.alloc (.cells #[x0, x1, x2, x3, x4, x5, x6, x7] 30)
  have CX1 := Cells.new w1 [x0, x1, x2, x3, x4, x5, x6, x7] 30
  have t1 := t1.alloc t1.size (.cells #[x0, x1, x2, x3, x4, x5, x6, x7] 30)
  clear l1
  have oR := o1.rd
  obtain ⟨_, _, _, _, _, _, hl, hfa, g1, _⟩ := oR
  simp only [List.cons.injEq, and_true] at hl
  obtain ⟨rfl, rfl, -⟩ := hl
  obtain ⟨a1, k1, rfl, _, h1⟩ := g1.sl
  have hm1 := h1.1
  have CXH := Lib.hid CX1
  have hzw : w1.heap.size < (w1.alloc (.cells #[.int .i64 (foldD p).atoms, .slice a1 (foldD p).rules.length k1, x2, x3, x4, x5, x6, x7] 30)).heap.size := by simp
  generalize hwa : w1.alloc (.cells #[.int .i64 (foldD p).atoms, .slice a1 (foldD p).rules.length k1, x2, x3, x4, x5, x6, x7] 30) = wa at *
  go_wp2
  try rw [hwa]
  clear st0 st1 st2 st3 st4 st5 st6 st7
  have hzt := t1.size
  go_loopw [7] (fun s wr => ∃ n : Nat, n ≤ (wfIt (foldD p).rules n).length ∧ OwnI w.heap.size wr s (wfIt (foldD p).rules n) ∧ Below wa.heap.size wa wr) (fun s _ => 13 - lenOf s)
  case atStart => exact ⟨0, Nat.zero_le _, OwnI.new _ _ hzt, (Below.refl _ _).alloc (Nat.le_refl _) _⟩
  case round =>
   obtain ⟨n, hn, ho, hb⟩ := hrel
   have HN := Lib.hid hn
   clear hn
   have hlen := (wfIt_isP (rs := (foldD p).rules) n).le
   have hlen2 := (wfIt_isP (rs := (foldD p).rules) (n + 1)).le
   obtain ⟨y0, y1, y2, y3, y4, y5, y6, y7⟩ := cells8 (CXH.out.later hb)
   have gR := Rd.mono (α := List RuleD) hb g1
   obtain ⟨at1, kt1, rfl, htI, _⟩ := ho.open
   go_wp2_with fail
   refine (l05Least_calls false gR ho.own.rd hr12.out).mono ?_
   rintro e w2 ⟨v2, rfl, o2, b2⟩
   have hb2 := hb.step b2
   have gR2 := Rd.mono (α := List RuleD) hb2 g1
   have z2 := hb.size
   have o2 : OwnI w.heap.size w2 v2 _ := o2.mono (by omega)
   clear y0 y1 y2 y3 y4 y5 y6 y7
   obtain ⟨y0, y1, y2, y3, y4, y5, y6, y7⟩ := cells8 (CXH.out.later hb2)
   obtain ⟨af, kf, rfl, _, _⟩ := o2.open
   go_wp2_with fail
   refine (l05Least_calls false gR2 o2.own.rd hr12.out).mono ?_
   rintro e w3 ⟨v3, rfl, o3, b3⟩
   have hb3 := hb2.step b3
   have z3 := hb2.size
   have o3 : OwnI w.heap.size w3 v3 (wfIt (foldD p).rules (n + 1)) := o3.mono (by omega)
   have ho3 := (ho.kept b2).kept b3
   have o23 := o2.kept b3
   obtain ⟨as3, ks3, rfl, hsI, _⟩ := o3.open
   go_wp2_with fail
   refine (l01Same_calls _ _ _ _ _ _ _ hsI ho3.ints).mono ?_
   rintro e w4 ⟨he, b4⟩
   have hb4 := hb3.step b4
   have ho4 := ho3.kept b4
   have o24 := o23.kept b4
   have o34 := o3.kept b4
   by_cases hq : wfIt (foldD p).rules (n + 1) = wfIt (foldD p).rules n
   ·have hE := Lib.hid (wfIt_end (by have := HN.out; omega) hq)
    have he' : eqB (wfIt (foldD p).rules (n + 1)) (wfIt (foldD p).rules n) = true := by rw [eqB_dec]; exact decide_eq_true hq
    rw [he'] at he
    subst he
    clear hq he'
    go_wp2
    refine bodyPost_ret (v := .tuple #[.slice at1 (wfIt (foldD p).rules n).length kt1, .slice af (leastL (foldD p).rules (wfIt (foldD p).rules n) false).length kf, .bool true]) (by simp [results, Tryz.results117, go_sem]) rfl ?_
    refine ⟨_, _, by rw [HPB.out], ?_, ?_, t1.step hb4⟩
    ·rw [hv1.out, ← hE.out]; exact ho4
    ·rw [hv2.out]; unfold wfF; rw [← hE.out]; exact o24
   ·have hM := wfIt_more HW.out HCH.out HN.out hq
    have he' : eqB (wfIt (foldD p).rules (n + 1)) (wfIt (foldD p).rules n) = false := by rw [eqB_dec]; exact decide_eq_false hq
    rw [he'] at he
    subst he
    clear hq he'
    go_wp2
    go_roundw
    case rel => exact ⟨n + 1, hM.1, o34, hb4⟩
    case measure => simp [lenOf]; omega

theorem flat_take {fps : List (List Nat)} {k f : Nat} (hn : fps.flatten.Nodup) (h1 : f ∈ (fps.take k).flatten) (h2 : f ∈ fps.getD k []) : False := by
 by_cases hk : k < fps.length
 ·have e : fps = fps.take k ++ fps.drop k := (List.take_append_drop k fps).symm
  rw [e, List.flatten_append] at hn
  refine (List.nodup_append.1 hn).2.2 f h1 f ?_ rfl
  rw [List.getD_eq_getElem?_getD, List.getElem?_eq_getElem hk] at h2
  rw [List.drop_eq_getElem_cons hk, List.flatten_cons]
  exact List.mem_append_left _ h2
 ·rw [List.getD_eq_getElem?_getD, List.getElem?_eq_none (by omega)] at h2
  cases h2
theorem take_up {fps : List (List Nat)} {k f : Nat} (h : f ∈ (fps.take k).flatten ∨ f ∈ fps.getD k []) : f ∈ (fps.take (k + 1)).flatten := by
 by_cases hk : k < fps.length
 ·rw [List.take_add_one, List.flatten_append, List.mem_append]
  rcases h with h | h
  ·exact .inl h
  ·rw [List.getD_eq_getElem?_getD] at h
   rw [List.getElem?_eq_getElem hk] at h ⊢
   exact .inr (by simpa using h)
 ·rw [List.take_of_length_le (by omega)]
  rcases h with h | h
  ·rwa [List.take_of_length_le (by omega)] at h
  ·rw [List.getD_eq_getElem?_getD, List.getElem?_eq_none (by omega)] at h; cases h
theorem take_in {fps : List (List Nat)} {k f : Nat} (h : f ∈ (fps.take k).flatten) : f ∈ fps.flatten := by
 obtain ⟨l, h1, h2⟩ := List.mem_flatten.1 h
 exact List.mem_flatten.2 ⟨l, List.mem_of_mem_take h1, h2⟩

def DC (fps : List (List Nat)) (T k : Nat) (f : Nat) : Prop := f ∈ (fps.take k).flatten ∨ T ≤ f
theorem DC.up {fps : List (List Nat)} {T k f : Nat} (h : DC fps T k f) : DC fps T (k + 1) f := h.imp (fun h => take_up (.inl h)) id

theorem cut_app {w0 w5 : World} {T k g c : Nat} {fps : List (List Nat)} {v : Value} {xs : List RuleD} {y : RuleD} {ecs : List Value} {fp : List Nat} {ty : TypeId}
  (i : TypeInfo) (z : Value) (hin : Tryz.prog.info? 52 = some i) (hz : i.zero = some z) (hsize : i.size = Rd.k RuleD) (hby : i.bytes = 72) (hzs : z.cells.size = Rd.k RuleD)
  (h : OwnD T (DC fps T k) 52 w0 v xs) (hT : T ≤ w0.heap.size) (hb : Below w0.heap.size w0 w5) (hn : fps.flatten.Nodup) (hl : ∀ f ∈ fps.flatten, f < T)
  (hc : Cells w5 g 0 ecs) (ho : Ow.O w5 ecs y fp) (hfp : ∀ f ∈ fp, f ∈ fps.getD k [] ∨ w0.heap.size ≤ f) (hx : xs.length ≤ 1000) :
  ∃ a q w6, (Builtin.append_ #[24, 24] ty #[v, .slice (some ⟨g, 0, none⟩) 1 c]).run Tryz.prog w5 = .ok (.slice a (xs.length + 1) q) w6 ∧ OwnD T (DC fps T (k + 1)) 52 w6 (.slice a (xs.length + 1) q) (xs ++ [y]) ∧ Below T w5 w6 := by
 have hsz := hb.size
 obtain ⟨v', w', r1, r2, r3, r4⟩ := run_append_D (α := RuleD) (P := Tryz.prog) (w := w5) (zs := [y]) (fps2 := [fp]) (ad := ⟨g, 0, none⟩) (c := c) (ty := ty) (D2 := fun f => f ∈ fps.getD k [] ∨ w0.heap.size ≤ f) i z 72 Tryz.underlying24 hin hz hsize hby hzs (by decide) (h.ltD.later hb)
  ⟨g, 0, rfl, rfl, by simpa using Ow.nodup ho, fun j hj => by
   have : j = 0 := by simp at hj; omega
   subst this
   exact ⟨ecs, by rw [Nat.zero_mul]; exact hc, ho⟩⟩ (fun f hf => hfp f (by simpa using hf)) (fun f h1 h2 => by
   obtain ⟨h1, h3⟩ := h1
   rcases h2 with h2 | h2
   ·rcases h1 with h1 | h1
    ·exact flat_take hn h1 h2
    ·have := hl f (mem_flat h2); omega
   ·omega) (by simp; omega) (by simp; omega) (by omega)
 have r5 := r2.weak (B' := T) (D' := DC fps T (k + 1)) (Nat.le_refl _) fun f hf => by
  rcases hf with hf | hf | hf
  ·exact hf.1.up
  ·rcases hf with hf | hf
   ·exact .inl (take_up (.inr hf))
   ·exact .inr (Nat.le_trans hT hf)
  ·exact .inr (by omega)
 obtain ⟨a, q, rfl⟩ := r5.form
 rw [List.length_append] at r1 r5
 exact ⟨a, q, w', r1, r5, r3⟩

theorem own_body {w w5 : World} {M : Nat} {r : RuleD} {c1 c4 v4 : Value} {fp : List Nat} {ys : List (Int × Int)} (ho : Ow.O w [.bool r.choice, c1, .bool r.weight, .int .i64 r.bound, c4] r fp) (hb : Below w.heap.size w w5) (hv : Own M w5 [v4] ys) (hM : w.heap.size ≤ M) :
  ∃ fp', Ow.O w5 [.bool r.choice, c1, .bool r.weight, .int .i64 r.bound, v4] { r with body := ys } fp' ∧ ∀ f ∈ fp', f ∈ fp ∨ M ≤ f := by
 obtain ⟨d1, d4, f1, f2, e, hf, h1, h4, rfl, hn⟩ := ho
 simp only [List.cons.injEq, and_true, true_and] at e
 obtain ⟨rfl, rfl⟩ := e
 obtain ⟨f3, h3, hl3⟩ := hv
 have h3l := Ow.nodup (α := List (Int × Int)) h3
 have h1l := Ow.lt (α := List Int) h1
 refine ⟨f1 ++ f3, ⟨c1, v4, f1, f3, rfl, hf, Ow.kept (α := List Int) h1 fun g hg => hb.block g (h1l g hg), h3, rfl, List.nodup_append.2 ⟨(List.nodup_append.1 hn).1, h3l, fun a ha b hb e => ?_⟩⟩, fun f hf => ?_⟩
 ·have := h1l a ha; have := hl3 b hb; omega
 ·rcases List.mem_append.1 hf with hf | hf
  ·exact .inl (List.mem_append_left _ hf)
  ·exact .inr (hl3 f hf)

theorem own_rules {lo : Nat} {w : World} {c1 c2 c4 c5 c6 c7 : Value} {q : ProgD} (h : Own lo w [.int .i64 q.atoms, c1, c2, .bool q.projOn, c4, c5, c6, c7] q) :
  ∃ (a : Option Addr) (cap g : Nat) (fps : List (List Nat)) (fpR : List Nat), c1 = .slice a q.rules.length cap ∧ (0 < q.rules.length → a = some ⟨g, 0, none⟩) ∧ fps.flatten.Nodup ∧ (∀ f ∈ fps.flatten, lo ≤ f ∧ f < w.heap.size) ∧ (∀ i, i < q.rules.length → ∃ ecs, Cells w g (i * 5) ecs ∧ Ow.O w ecs (nth q.rules i) (fps.getD i [])) ∧
   Rest w c2 c4 c5 c6 c7 q fpR ∧ (∀ f ∈ fpR, lo ≤ f ∧ f < w.heap.size ∧ f ∉ fps.flatten) ∧ Fits q.atoms := by
 obtain ⟨fp, ⟨d1, d2, d4, d5, d6, d7, f1, f2, f4, f5, f6, f7, e, hf, o1, o2, o4, o5, o6, o7, rfl, hn⟩, hl⟩ := h
 simp only [List.cons.injEq, and_true, true_and] at e
 obtain ⟨rfl, rfl, rfl, rfl, rfl, rfl⟩ := e
 have l1 := Ow.lt (α := List RuleD) o1
 have hnn := List.nodup_append.1 hn
 have hR : Rest w c2 c4 c5 c6 c7 q (f2 ++ (f4 ++ (f5 ++ (f6 ++ f7)))) := ⟨f2, f4, f5, f6, f7, o2, o4, o5, o6, o7, rfl, hnn.2.1⟩
 have hRl := hR.lt
 obtain ⟨a, cap, e, _, _, h3⟩ := o1
 simp at e
 rcases h3 with ⟨hr, rfl, _⟩ | ⟨g, t, cur, fps, rfl, hh, hs, hfl, rfl, hnd, h4⟩
 ·refine ⟨a, cap, 0, [], _, e, fun h => by rw [hr] at h; simp at h, by simp, by simp, fun i hi => by rw [hr] at hi; simp at hi, hR, fun f hf => ⟨hl f (List.mem_append_right _ hf), hRl f hf, by simp⟩, hf⟩
 ·refine ⟨_, cap, g, fps, _, e, fun _ => rfl, (List.nodup_cons.1 hnd).2, fun f hf => ⟨hl f (List.mem_append_left _ (List.mem_cons_of_mem _ hf)), l1 f (List.mem_cons_of_mem _ hf)⟩, fun i hi => h4 i hi, hR, fun f hf => ⟨hl f (List.mem_append_right _ hf), hRl f hf, fun hm => hnn.2.2 f (List.mem_cons_of_mem _ hm) f hf rfl⟩, hf⟩

theorem own_cut {lo T n : Nat} {w wz : World} {fps : List (List Nat)} {fpR : List Nat} {v c2 c4 c5 c6 c7 : Value} {q : ProgD} {xs : List RuleD} (hR : Rest w c2 c4 c5 c6 c7 q fpR) (hb : ∀ g, g < w.heap.size → wz.heap[g]? = w.heap[g]?) (hRl : ∀ f ∈ fpR, lo ≤ f ∧ f < w.heap.size ∧ f ∉ fps.flatten) (hf : Fits q.atoms)
  (hl : ∀ f ∈ fps.flatten, lo ≤ f) (hT : w.heap.size ≤ T) (hlo : lo ≤ T) (ho : OwnD T (DC fps T n) 52 wz v xs) : OwnPR lo w.heap.size (DC fps T n) wz v c2 c4 c5 c6 c7 { q with rules := xs } := by
 refine ⟨fpR, hf, ho.weak hlo fun f h => h, ?_, fun g hg => ⟨(hRl g hg).1, (hRl g hg).2.1, fun hd => ?_⟩, fun g hd => ?_⟩
 ·have hk := hR.kept (w' := wz) fun g hg => hb g (hRl g hg).2.1
  exact hk
 ·rcases hd with hd | hd
  ·exact (hRl g hg).2.2 (take_in hd)
  ·have := hRl g hg; omega
 ·rcases hd with hd | hd
  ·exact hl g (take_in hd)
  ·omega


def LitOk (l : Int) : Prop := (1 ≤ l ∧ l ≤ 12) ∨ (-12 ≤ l ∧ l ≤ -1)
theorem LitOk.fits {l : Int} (h : LitOk l) : Fits l := by unfold LitOk at h; unfold Fits; omega
theorem LitOk.neg {l : Int} (h : LitOk l) : LitOk (-l) := by unfold LitOk at h ⊢; omega
theorem litOk_of {r : RuleD} (h : ruleOkB r 12 = true) : ∀ p ∈ r.body, LitOk p.1 := fun p hp => by
 exact lit12 ((ruleOk_facts h).2.2 p hp).1
def stlB (m1 m2 : Nat) (l : Int) : Bool := if 0 < l then litM m1 l else litM m2 l
theorem stlB_T {m1 m2 : Nat} {l : Int} (h : 0 < l) : stlB m1 m2 l = litM m1 l := if_pos h
theorem stlB_F {m1 m2 : Nat} {l : Int} (h : ¬ 0 < l) : stlB m1 m2 l = litM m2 l := if_neg h
theorem litM_mset {m : Nat} {l : Int} (hm : m < 4096) (hl : LitOk l) : litM m l = holdsB (mset m) l := by
 have := litM_same (mset m) l hl.fits
 rwa [mask_mset hm] at this
theorem stl_left {m1 m2 : Nat} {p : Int × Int} (h1 : m1 < 4096) (h2 : m2 < 4096) (hl : LitOk p.1) : stlB m1 m2 p.1 = leftL (mset m1) (mset m2) p := by
 unfold leftL
 rcases hl with hl | hl
 ·rw [stlB_T (by omega), litM_mset h1 (.inl hl), holdsB_pos hl]
  simp [show 0 < p.1 by omega, show ¬ p.1 < 0 by omega]
 ·rw [stlB_F (by omega), litM_mset h2 (.inr hl), holdsB_neg hl]
  simp [show ¬ 0 < p.1 by omega, show p.1 < 0 by omega]
theorem stl_goes {m1 m2 : Nat} {p : Int × Int} (h1 : m1 < 4096) (h2 : m2 < 4096) (hl : LitOk p.1) : stlB m1 m2 (-p.1) = goesL (mset m1) (mset m2) p := by
 unfold goesL
 rcases hl with hl | hl
 ·rw [stlB_F (by omega), litM_mset h2 (.inr (by omega)), holdsB_neg (by omega), Int.neg_neg]
  simp [show 0 < p.1 by omega, show ¬ p.1 < 0 by omega]
 ·rw [stlB_T (by omega), litM_mset h1 (.inl (by omega)), holdsB_pos (by omega)]
  simp [show ¬ 0 < p.1 by omega, show p.1 < 0 by omega]

theorem settled_calls (m1 m2 : Nat) (l : Int) (w : World) (h1 : m1 < 4096) (h2 : m2 < 4096) (hl : LitOk l) :
  Calls Tryz.prog 202 #[.int .i64 l, .int .u16 (m1 : Int), .int .u16 (m2 : Int)] w fun e w' => e = .returned (.bool (stlB m1 m2 l)) ∧ w = w' := by
 have hF := hl.fits
 by_cases h0 : 0 < l
 ·have hv := Lib.hid (stlB_T (m1 := m1) (m2 := m2) h0)
  go_enter Tryz.func202, Tryz.ntmps202
  go_wp2_with (go_at_call 238; refine (litHolds_calls _ _ _ h1 hF).mono ?_; rintro e w' ⟨rfl, rfl⟩)
  go_ret
  exact ⟨ret_bool hv.out.symm, rfl⟩
 ·have hv := Lib.hid (stlB_F (m1 := m1) (m2 := m2) h0)
  have h0' : l ≤ 0 := by omega
  clear h0
  go_enter Tryz.func202, Tryz.ntmps202
  go_wp2_with (go_at_call 238; refine (litHolds_calls _ _ _ h2 hF).mono ?_; rintro e w' ⟨rfl, rfl⟩)
  go_ret
  exact ⟨ret_bool hv.out.symm, rfl⟩

def CutQ (w : World) (r : RuleD) (t f : List Int) (d1 d4 : Value) (e : Ending) (w' : World) : Prop :=
 ((cutB t f r = true ∧ ∃ v4, e = .returned (.tuple #[.agg #[.bool r.choice, d1, .bool r.weight, .int .i64 r.bound, v4], .bool true]) ∧ ((r.weight = true ∧ v4 = d4) ∨ (r.weight = false ∧ Own w.heap.size w' [v4] (bodyTo t f r.body r.body.length)))) ∨
  (cutB t f r = false ∧ e = .returned (.tuple #[.agg #[.bool false, .slice none 0 0, .bool false, .int .i64 0, .slice none 0 0], .bool false]))) ∧ Below w.heap.size w w'

set_option maxHeartbeats 4000000 in
theorem ruleCut_calls {r : RuleD} {w : World} {m1 m2 : Nat} {d1 d4 : Value} (h : Rd.R w [.bool r.choice, d1, .bool r.weight, .int .i64 r.bound, d4] r) (hok : ruleOkB r 12 = true) (h1 : m1 < 4096) (h2 : m2 < 4096) :
  Calls Tryz.prog 116 #[.agg #[.bool r.choice, d1, .bool r.weight, .int .i64 r.bound, d4], .int .u16 (m1 : Int), .int .u16 (m2 : Int)] w (CutQ w r (mset m1) (mset m2) d1 d4) := by
 obtain ⟨i0, hi, hzz0, hzz1, hzz2⟩ := info_parts info_cloneWLit
 have h0 := h
 obtain ⟨c1, c4, e, hf, g1, g4⟩ := h0
 simp only [List.cons.injEq, and_true, true_and] at e
 obtain ⟨rfl, rfl⟩ := e
 obtain ⟨ah, kh, rfl, hkh, hh⟩ := g1.sl
 obtain ⟨ab, kb, rfl, hkb, hbd⟩ := g4.sl
 have hbl : r.body.length ≤ 20 := (ruleOk_facts hok).1
 have hLit := Lib.hid (litOk_of hok)
 have CP := (Cells.new w [.bool r.choice, .slice ah r.heads.length kh, .bool r.weight, .int .i64 r.bound, .slice ab r.body.length kb] 52).alloc (.cells #[.bool false, .slice none 0 0, .bool false, .int .i64 0, .slice none 0 0] 52)
 have hb5 := alloc_block (w.alloc (.cells #[.bool r.choice, .slice ah r.heads.length kh, .bool r.weight, .int .i64 r.bound, .slice ab r.body.length kb] 52)) #[.bool false, .slice none 0 0, .bool false, .int .i64 0, .slice none 0 0] 52
 have hb4 := (Below.heap_alloc (w.alloc (.cells #[.bool r.choice, .slice ah r.heads.length kh, .bool r.weight, .int .i64 r.bound, .slice ab r.body.length kb] 52)) (.cells #[.bool false, .slice none 0 0, .bool false, .int .i64 0, .slice none 0 0] 52) w.heap.size (by simp)).trans (alloc_block w #[.bool r.choice, .slice ah r.heads.length kh, .bool r.weight, .int .i64 r.bound, .slice ab r.body.length kb] 52)
 rw [World.size_alloc] at hb5
 have t0 : Below w.heap.size w ((w.alloc (.cells #[.bool r.choice, .slice ah r.heads.length kh, .bool r.weight, .int .i64 r.bound, .slice ab r.body.length kb] 52)).alloc (.cells #[.bool false, .slice none 0 0, .bool false, .int .i64 0, .slice none 0 0] 52)) := ((Below.refl _ _).alloc (Nat.le_refl _) _).alloc (by simp) _
 have hzX : ((w.alloc (.cells #[.bool r.choice, .slice ah r.heads.length kh, .bool r.weight, .int .i64 r.bound, .slice ab r.body.length kb] 52)).alloc (.cells #[.bool false, .slice none 0 0, .bool false, .int .i64 0, .slice none 0 0] 52)).heap.size = w.heap.size + 2 := by simp
 cases hW : r.weight
 case true =>
  have hB := Lib.hid (cutB_w (t := mset m1) (f := mset m2) hW)
  have HW := Lib.hid hW
  rw [hW] at CP hb4 hb5 t0 hzX
  obtain ⟨y0, y1, y2, y3, y4⟩ := cells5 CP
  obtain ⟨z0, z1, z2, z3, z4⟩ := cells5 (cellsAt hb5)
  have hfz := fun j => frozen_of_row _ (w.heap.size + 1) j _ _ hb5
  clear t0 hok hh hbd hkh hkb g1 g4 h hf hb4 CP
  go_enter Tryz.func116, Tryz.ntmps116
  clear hW
  go_wp2
  refine bodyPost_ret (v := .tuple #[.agg #[.bool r.choice, .slice ah r.heads.length kh, .bool true, .int .i64 r.bound, .slice ab r.body.length kb], .bool true])
   (by simp [results, Tryz.results116, go_sem, z0, z1, z2, z3, z4]) rfl ⟨.inl ⟨hB.out, _, by rw [HW.out], .inl ⟨HW.out, rfl⟩⟩, ?_⟩
  exact ((Below.refl _ _).alloc (Nat.le_refl _) _).alloc (by simp) _
 case false =>
  have HW := Lib.hid hW
  have HBN := Lib.hid (cutB_n (t := mset m1) (f := mset m2) hW)
  have HGO := fun k hk hg => Lib.hid (cutB_go (t := mset m1) (f := mset m2) (r := r) (k := k) hW hk hg)
  rw [hW] at CP hb4 hb5 t0 hzX
  obtain ⟨y0, y1, y2, y3, y4⟩ := cells5 CP
  go_enter Tryz.func116, Tryz.ntmps116
  clear hW
  go_wp2_with (at_make; refine wpList_make_own _ rfl _ _ 50 rfl (w.heap.size + 2) 90 i0 _ 2 Tryz.underlying50 hi hzz0 hzz1 _ _ _ r.body.length rfl rfl rfl ?c1 ?c2 ?c3 ?_)
  case c1 => rw [hzz2]; omega
  case c2 => unfold maxLen; omega
  case c3 => rw [hzX]; exact Nat.le_refl _
  intro w1 hown hgrow
  have t1 := (Below.refl _ _).grown hgrow (show w.heap.size + 2 ≤ _ by rw [hzX]; exact Nat.le_refl _) (fun k hk => by cases hk)
  have P0 := PRow.made (g := 0) (D := fun f => w.heap.size + 2 ≤ f) hown (fun g hg => by simp [Value.ownBlock] at hg; omega)
  have hb41 := (t1.block w.heap.size (by omega)).trans hb4
  have hb51 := (t1.block (w.heap.size + 1) (by omega)).trans hb5
  have T1 := t0.trans (t1.mono (by omega))
  have z1 := t1.size
  rw [hzX] at z1
  clear y0 y1 y2 y3 y4 hown hgrow t1 hb4 hb5 t0 CP
  obtain ⟨y0, y1, y2, y3, y4⟩ := cells5 (cellsAt hb41)
  go_wp2
  clear y0 y1 y2 y3 y4
  go_loopw [8, 10, 11, 22] (fun v _ _ i wr => ∃ k : Nat, k ≤ r.body.length ∧ i = .int .i64 k ∧ goesTo (mset m1) (mset m2) r.body k = false ∧ PRow (w.heap.size + 2) (fun f => w.heap.size + 2 ≤ f) wr v (bodyTo (mset m1) (mset m2) r.body k) ∧ Below (w.heap.size + 2) w1 wr) (fun _ _ _ i _ => r.body.length - (intOf i).toNat)
  case atStart => exact ⟨0, Nat.zero_le _, rfl, rfl, P0, Below.refl _ _⟩
  case round =>
   obtain ⟨k, hk, rfl, hgo, ho, hb⟩ := hrel
   have HG0 := Lib.hid hgo
   clear hgo P0
   have tw := T1.trans (hb.mono (by omega))
   have hz := hb.size
   have hbk := bodyTo_len (mset m1) (mset m2) r.body k
   by_cases hlt : k < r.body.length
   ·obtain ⟨b, off, rfl, hc⟩ := hbd.base (by omega)
    obtain ⟨ecs, hC, rfl, hf1, hf2⟩ := hc k hlt
    have hC := hC.later tw
    have u0 := hC.c0
    have u1 := hC.c1
    rw [show Rd.k (Int × Int) = 2 from rfl] at u0 u1
    have hLk := hLit.out _ (nth_mem hlt)
    have eG := stl_goes (m1 := m1) (m2 := m2) h1 h2 hLk
    have eL := stl_left (m1 := m1) (m2 := m2) h1 h2 hLk
    have hg1 : goesTo (mset m1) (mset m2) r.body (k + 1) = (goesTo (mset m1) (mset m2) r.body k || goesL (mset m1) (mset m2) (nth r.body k)) := rfl
    have hbo := bodyTo_out (t := mset m1) (f := mset m2) (b := r.body) (k := k)
    have hbi := bodyTo_in (t := mset m1) (f := mset m2) (b := r.body) (k := k)
    generalize nth r.body k = q at hf1 hf2 u0 u1 hLk eG eL hg1 hbo hbi
    obtain ⟨l, wv⟩ := q
    dsimp only at hf1 hf2 u0 u1 hLk eG eL
    have hNk := hLk.neg
    obtain ⟨hlb1, hlb2⟩ : -12 ≤ l ∧ l ≤ 12 := by unfold LitOk at hLk; omega
    have hbA := (Below.refl wr.heap.size wr).alloc (Nat.le_refl _) (.cells #[.int .i64 l, .int .i64 wv] 90)
    have hfn := hNk.fits
    clear hC hc
    cases hG : goesL (mset m1) (mset m2) (l, wv)
    ·rw [hG] at eG
     have EG := Lib.hid eG
     have hgn : Hid (goesTo (mset m1) (mset m2) r.body (k + 1) = false) := by show _ = _; rw [hg1, HG0.out, hG]; rfl
     cases hL : leftL (mset m1) (mset m2) (l, wv)
     ·rw [hL] at eL
      have EL := Lib.hid eL
      have hn := Lib.hid (hbi (by rw [hG, hL]; rfl))
      have hcn : Cells ((wr.alloc (.cells #[.int .i64 l, .int .i64 wv] 90)).alloc (.cells #[.int .i64 l, .int .i64 wv] 90)) (wr.heap.size + 1) 0 [.int .i64 l, .int .i64 wv] := by
       have := Cells.new (wr.alloc (.cells #[.int .i64 l, .int .i64 wv] 90)) [.int .i64 l, .int .i64 wv] 90
       rwa [World.size_alloc] at this
      have hbB := hbA.alloc (by simp) (.cells #[.int .i64 l, .int .i64 wv] 90)
      obtain ⟨v4, w4, r4, o4, b4, k4⟩ := PRow.append (P := Tryz.prog) (t := 50) (ty := 50) (c := 1) (p := (l, wv)) i0 _ Tryz.underlying50 hi hzz0 hzz1 hzz2 rfl (ho.later hbB) hcn ⟨hf1, hf2⟩ (by omega) (by simp; omega)
      have o4' := Lib.hid (o4.weak (Nat.le_refl _) (D' := fun f => w.heap.size + 2 ≤ f) fun f hf => by
       rcases hf with hf | hf
       ·exact hf
       ·simp at hf; omega)
      have B4 := Lib.hid ((hb.trans (hbB.mono (by omega))).trans b4)
      have CB := Cells.new wr [.int .i64 l, .int .i64 wv] 90
      have x0 := CB.c0
      have x1 := CB.c1
      clear hG hL eG eL hg1 hbi hbo o4 b4 k4 hbB hbA ho hb tw CB hcn
      go_wp2_with fail
      refine (settled_calls _ _ _ _ h1 h2 hNk).mono ?_
      rintro e w' ⟨he, rfl⟩
      rw [EG.out] at he
      subst he
      go_wp2_with fail
      refine (settled_calls _ _ _ _ h1 h2 hLk).mono ?_
      rintro e w' ⟨he, rfl⟩
      rw [EL.out] at he
      subst he
      go_wp2_with (at_builtin; refine wpList_append_of rfl _ _ rfl rfl rfl r4 ?_)
      go_roundw
      case rel => exact ⟨k + 1, by omega, by go_num, hgn.out, by rw [hn.out]; exact o4'.out, B4.out⟩
      case measure => simp [intOf]; omega
     ·rw [hL] at eL
      have EL := Lib.hid eL
      have hn := Lib.hid (hbo (by rw [hG, hL]; rfl))
      have o4' := Lib.hid (ho.later hbA)
      have B4 := Lib.hid (hb.trans (hbA.mono (by omega)))
      have CB := Cells.new wr [.int .i64 l, .int .i64 wv] 90
      have x0 := CB.c0
      have x1 := CB.c1
      clear hG hL eG eL hg1 hbi hbo hbA ho hb tw CB
      go_wp2_with fail
      refine (settled_calls _ _ _ _ h1 h2 hNk).mono ?_
      rintro e w' ⟨he, rfl⟩
      rw [EG.out] at he
      subst he
      go_wp2_with fail
      refine (settled_calls _ _ _ _ h1 h2 hLk).mono ?_
      rintro e w' ⟨he, rfl⟩
      rw [EL.out] at he
      subst he
      go_wp2
      go_roundw
      case rel => exact ⟨k + 1, by omega, by go_num, hgn.out, by rw [hn.out]; exact o4'.out, B4.out⟩
      case measure => simp [intOf]; omega
    ·rw [hG] at eG
     have EG := Lib.hid eG
     have hgn : goesTo (mset m1) (mset m2) r.body (k + 1) = true := by rw [hg1, hG, Bool.or_true]
     have HN := HGO (k + 1) (by omega) hgn
     have hb5r := ((hbA.mono (by omega)).block (w.heap.size + 1) (by omega)).trans ((hb.block (w.heap.size + 1) (by omega)).trans hb51)
     obtain ⟨z0, z1, z2, z3, z4⟩ := cells5 (cellsAt hb5r)
     have hfz := fun j => frozen_of_row _ (w.heap.size + 1) j _ _ hb5r
     have TA := Lib.hid (tw.trans (hbA.mono (by have := tw.size; omega)))
     have CB := Cells.new wr [.int .i64 l, .int .i64 wv] 90
     have x0 := CB.c0
     have x1 := CB.c1
     clear hG eG eL hgn hg1 hbi hbo hbA ho hb tw hb5r CB
     go_wp2_with fail
     refine (settled_calls _ _ _ _ h1 h2 hNk).mono ?_
     rintro e w' ⟨he, rfl⟩
     rw [EG.out] at he
     subst he
     go_wp2
     refine bodyPost_ret (v := .tuple #[.agg #[.bool false, .slice none 0 0, .bool false, .int .i64 0, .slice none 0 0], .bool false])
      (by simp [results, Tryz.results116, go_sem, z0, z1, z2, z3, z4]) rfl ⟨.inr ⟨HN.out, rfl⟩, ?_⟩
     exact TA.out.trans ((put_chg (w.heap.size + 1) [.bool false, .slice none 0 0, .bool false, .int .i64 0, .slice none 0 0] _ 0).below fun g hg => by simp at hg; omega)
   ·obtain rfl : k = r.body.length := by omega
    have hB : Hid (cutB (mset m1) (mset m2) r = true) := by show _ = _; rw [HBN.out, HG0.out]; rfl
    have hb4r := (hb.block w.heap.size (by omega)).trans hb41
    have hb5r := (hb.block (w.heap.size + 1) (by omega)).trans hb51
    obtain ⟨y0, y1, y2, y3, y4⟩ := cells5 (cellsAt hb4r)
    obtain ⟨z0, z1, z2, z3, z4⟩ := cells5 (cellsAt hb5r)
    have hfy := fun j => frozen_of_row _ w.heap.size j _ _ hb4r
    have hfz := fun j => frozen_of_row _ (w.heap.size + 1) j _ _ hb5r
    obtain ⟨av, nv, rfl, _, _⟩ := ho.rd.sl
    obtain ⟨nT, hnT⟩ : ∃ nT : Nat, nT = (bodyTo (mset m1) (mset m2) r.body r.body.length).length := ⟨_, rfl⟩
    have OV := Lib.hid ho.1.own
    rw [← hnT] at OV ⊢
    clear hnT
    have TW := Lib.hid tw
    clear ho hb tw hb4r hb5r
    go_wp2
    refine bodyPost_ret (v := .tuple #[.agg #[.bool r.choice, .slice ah r.heads.length kh, .bool false, .int .i64 r.bound, .slice av nT nv], .bool true])
     (by simp [results, Tryz.results116, go_sem, z0, z1, z2, z3, z4]) rfl ⟨.inl ⟨hB.out, _, by rw [HW.out], .inr ⟨HW.out, ?_⟩⟩, ?_⟩
    ·exact ((OV.out.setBelow (p := ⟨w.heap.size, 4, none⟩) (by show w.heap.size < _; omega) (.slice av nT nv)).putB (g := w.heap.size + 1) (by omega) 0 [.bool r.choice, .slice ah r.heads.length kh, .bool false, .int .i64 r.bound, .slice av nT nv]).mono (by omega)
    ·exact (Below.setCell TW.out (p := ⟨w.heap.size, 4, none⟩) (Nat.le_refl _) (.slice av nT nv)).trans ((put_chg (w.heap.size + 1) [.bool r.choice, .slice ah r.heads.length kh, .bool false, .int .i64 r.bound, .slice av nT nv] _ 0).below fun g hg => by simp at hg; omega)



theorem cellsAtS {W : World} {b : Nat} {cs : List Value} {t : TypeId} (h : W.heap[b]? = some (.cells cs.toArray t (0, 0))) : Cells W b 0 cs := fun j v hv => by
 rw [Nat.zero_add, cell_of_row W b j _ _ _ h]; simpa using hv
theorem goesL_pos {t f : List Int} {l w : Int} (h : 0 < l) : goesL t f (l, w) = !hasB f l := by simp [goesL, h, show ¬ l < 0 by omega]
theorem goesL_neg {t f : List Int} {l w : Int} (h : l < 0) : goesL t f (l, w) = hasB t (-l) := by simp [goesL, h, show ¬ 0 < l by omega]
theorem leftL_pos {t f : List Int} {l w : Int} (h : 0 < l) : leftL t f (l, w) = hasB t l := by simp [leftL, h, show ¬ l < 0 by omega]
theorem leftL_neg {t f : List Int} {l w : Int} (h : l < 0) : leftL t f (l, w) = !hasB f (-l) := by simp [leftL, h, show ¬ 0 < l by omega]

set_option maxHeartbeats 8000000 in
theorem specCut_calls {cs : List Value} {p : ProgD} {w : World} (h : Rd.R w cs p) :
  Calls Tryz.prog 51 #[.agg cs.toArray] w fun e w' => ∃ cs', e = .returned (.tuple #[.agg cs'.toArray, .bool (plainB p)]) ∧ Own w.heap.size w' cs' (cutP p) ∧ Below w.heap.size w w' := by
 obtain ⟨i3, hi3, hz30, hz31, hz32⟩ := info_parts info_copiesRule
 obtain ⟨i0, hi, hzz0, hzz1, hzz2⟩ := info_parts info_cloneWLit
 obtain ⟨p0, p1, p2, p3, p4, p5, p6, p7, rfl⟩ := list8 (Rd.len h)
 have t0 : Below w.heap.size w ((w.alloc (.cells #[p0, p1, p2, p3, p4, p5, p6, p7] 30)).alloc (.cells #[.int .i64 0, .slice none 0 0, .slice none 0 0, .bool false, .slice none 0 0, .slice none 0 0, .slice none 0 0, .slice none 0 0] 30)) := ((Below.refl _ _).alloc (by simp) _).alloc (by simp) _
 have CP := (Cells.new w [p0, p1, p2, p3, p4, p5, p6, p7] 30).alloc (.cells #[.int .i64 0, .slice none 0 0, .slice none 0 0, .bool false, .slice none 0 0, .slice none 0 0, .slice none 0 0, .slice none 0 0] 30)
 have hb0 := alloc_block (w.alloc (.cells #[p0, p1, p2, p3, p4, p5, p6, p7] 30)) #[.int .i64 0, .slice none 0 0, .slice none 0 0, .bool false, .slice none 0 0, .slice none 0 0, .slice none 0 0, .slice none 0 0] 30
 rw [World.size_alloc] at hb0
 have hzs : ((w.alloc (.cells #[p0, p1, p2, p3, p4, p5, p6, p7] 30)).alloc (.cells #[.int .i64 0, .slice none 0 0, .slice none 0 0, .bool false, .slice none 0 0, .slice none 0 0, .slice none 0 0, .slice none 0 0] 30)).heap.size = w.heap.size + 2 := by simp
 go_enter Tryz.func51, Tryz.ntmps51
 go_wp2_with fail
 refine (specWellFounded_calls (Rd.mono t0 h)).mono ?_
 rintro e w0 ⟨u1, u2, he, ot, of, b0⟩
 obtain ⟨at1, kt1, rfl, hT0, _⟩ := ot.open
 obtain ⟨af1, kf1, rfl, hF0, _⟩ := of.open
 have hbr0 := (b0.block (w.heap.size + 1) (by rw [hzs]; omega)).trans hb0
 have hz0 : w.heap.size + 2 ≤ w0.heap.size := by have := b0.size; omega
 have t0' := t0.step b0
 have CP0 := CP.later b0
 cases hP : plainB p
 case false =>
  have HP := Lib.hid hP
  have HC := Lib.hid (cutP_no hP)
  rw [hP] at he
  subst he
  obtain ⟨z0, z1, z2, z3, z4, z5, z6, z7⟩ := cells8 (cellsAtS hbr0)
  have hfz := fun j => frozen_of_row _ (w.heap.size + 1) j _ _ hbr0
  clear hb0 b0 hP hT0 hF0 ot of CP CP0
  go_wp2
  exact bodyPost_ret (v := .tuple #[.agg #[.int .i64 0, .slice none 0 0, .slice none 0 0, .bool false, .slice none 0 0, .slice none 0 0, .slice none 0 0, .slice none 0 0], .bool false])
   (by simp [results, Tryz.results51, go_sem, z0, z1, z2, z3, z4, z5, z6, z7]) rfl ⟨_, by rw [HP.out], by rw [HC.out]; exact own_zero _ _, by
   repeat (refine Below.setCell ?_ (by simp; try omega) _)
   exact t0'⟩
 case true =>
  have HP := Lib.hid hP
  have HC := Lib.hid (cutP_yes hP)
  have hFd := plainB_fold hP
  have hok : progOkB (foldD p) = true := foldR_ok hFd
  have hr12 := Lib.hid (rules12 hok)
  have nr := (progOk_rules hok).1
  rw [wfTR_yes hP] at hT0
  rw [wfFR_yes hP] at hF0
  have lT := (wfT_isP (rs := (foldD p).rules)).le
  have lF := (wfF_isP (rs := (foldD p).rules)).le
  have eT : (wfTR p).length = (wfT (foldD p).rules).length := by rw [wfTR_yes hP]
  have eF : (wfFR p).length = (wfF (foldD p).rules).length := by rw [wfFR_yes hP]
  rw [eT, eF, hP] at he
  subst he
  clear hP hok eT eF ot of
  obtain ⟨y0, y1, y2, y3, y4, y5, y6, y7⟩ := cells8 CP0
  go_wp2_with fail
  refine (specFold_calls (Rd.mono t0' h)).mono ?_
  rintro e w1 ⟨cs1, he, o1, b1⟩
  rw [hFd] at he
  rw [foldR_yes hFd] at o1
  subst he
  have hz1 := b1.size
  have hbr1 := (b1.block (w.heap.size + 1) (by omega)).trans hbr0
  have oR := o1.rd
  obtain ⟨c1, c2, c4, c5, c6, c7, rfl, -, g1, g2, g4, g5, g6, g7⟩ := oR
  have st1 := sto Tryz.prog g1.one1
  have st2 := sto Tryz.prog g2.one1
  have st4 := sto Tryz.prog g4.one1
  have st5 := sto Tryz.prog g5.one1
  have st6 := sto Tryz.prog g6.one1
  have st7 := sto Tryz.prog g7.one1
  clear g1 g2 g4 g5 g6 g7 y0 y1 y2 y3 y4 y5 y6 y7
  obtain ⟨a1, k1, g, fps, fpR, rfl, ha, hnd, hfl, hel, hRest, hRl, hfa⟩ := own_rules o1
  have hbA := (Below.refl w1.heap.size w1).alloc (Nat.le_refl _) (.cells #[.int .i64 (foldD p).atoms, .slice a1 (foldD p).rules.length k1, c2, .bool (foldD p).projOn, c4, c5, c6, c7] 30)
  have tA := (t0'.step b1).step hbA
  have hG0 := alloc_block w1 #[.int .i64 (foldD p).atoms, .slice a1 (foldD p).rules.length k1, c2, .bool (foldD p).projOn, c4, c5, c6, c7] 30
  have hRA := (Below.heap_alloc w1 (.cells #[.int .i64 (foldD p).atoms, .slice a1 (foldD p).rules.length k1, c2, .bool (foldD p).projOn, c4, c5, c6, c7] 30) (w.heap.size + 1) (by omega)).trans hbr1
  have hbk : ∀ f, f < w1.heap.size → (w1.alloc (.cells #[.int .i64 (foldD p).atoms, .slice a1 (foldD p).rules.length k1, c2, .bool (foldD p).projOn, c4, c5, c6, c7] 30)).heap[f]? = w1.heap[f]? := fun f hf => Below.heap_alloc w1 _ f hf
  have hzA : (w1.alloc (.cells #[.int .i64 (foldD p).atoms, .slice a1 (foldD p).rules.length k1, c2, .bool (foldD p).projOn, c4, c5, c6, c7] 30)).heap.size = w1.heap.size + 1 := World.size_alloc _ _
  have hTA := hT0.later (b1.step hbA)
  have hFA := hF0.later (b1.step hbA)
  have CXA := Lib.hid (cellsAtS hG0)
  have HGB := Lib.hid hG0
  clear hG0 hbA b1 o1 t0 t0' hb0 hbr0 hbr1 b0 CP CP0 hT0 hF0
  go_wp2
  clear st1 st2 st4 st5 st6 st7
  have hRow0 := World.ownsRow_lit (e := 52) (size := 5) (base := w1.heap.size + 1) (w1.alloc (.cells #[.int .i64 (foldD p).atoms, .slice a1 (foldD p).rules.length k1, c2, .bool (foldD p).projOn, c4, c5, c6, c7] 30)) #[] 0 (by rw [hzA]; exact Nat.le_refl _) (by simp [maxLen]) (by simp)
  rw [hzA] at hRow0
  generalize w1.alloc (.cells #[.int .i64 (foldD p).atoms, .slice a1 (foldD p).rules.length k1, c2, .bool (foldD p).projOn, c4, c5, c6, c7] 30) = wa at *
  go_loopw [9, 10] (fun v i wr => ∃ k : Nat, k ≤ (foldD p).rules.length ∧ i = .int .i64 k ∧ OwnD (w1.heap.size + 1) (DC fps (w1.heap.size + 1) k) 52 wr v (cutTo (wfT (foldD p).rules) (wfF (foldD p).rules) (foldD p).rules k) ∧ Below (w1.heap.size + 1) wa wr) (fun _ i _ => (foldD p).rules.length - (intOf i).toNat)
  case atStart => exact ⟨0, Nat.zero_le _, rfl, OwnD.start hRow0 (fun g hg => by simp [Value.ownBlock] at hg; exact .inr (by omega)), (Below.refl _ _).alloc (by omega) _⟩
  case round =>
   obtain ⟨k, hk, rfl, ho, hb⟩ := hrel
   obtain ⟨wo, rfl⟩ : ∃ wo : World, wo = wr := ⟨_, rfl⟩
   have hz0' := hb.size
   have hz : w1.heap.size + 1 ≤ wo.heap.size := by omega
   have hct := cutTo_len (wfT (foldD p).rules) (wfF (foldD p).rules) (foldD p).rules k
   obtain ⟨y0, y1, y2, y3, y4, y5, y6, y7⟩ := cells8 (CXA.out.kept (hb.block w1.heap.size (by omega)))
   by_cases hlt : k < (foldD p).rules.length
   ·obtain rfl := ha (by omega)
    obtain ⟨ecs, hC, hO⟩ := hel k hlt
    have hgl : g < w1.heap.size := by
     obtain ⟨e0, e1, e2, e3, e4, he5⟩ := list5 (Rd.len (Ow.rd hO))
     rw [he5] at hC
     exact hC.lt
    have hCr := hC.kept ((hb.block g (by omega)).trans (hbk g hgl))
    have hOr := Ow.kept hO (w' := wo) fun f hf => (hb.block f (by have := hfl f (mem_flat hf); omega)).trans (hbk f (hfl f (mem_flat hf)).2)
    have hRr := Ow.rd hOr
    have hRr0 := hRr
    obtain ⟨d1, d4, rfl, hf', r1, r4⟩ := hRr0
    obtain ⟨ab, kb, rfl, hkb, hbd⟩ := r4.sl
    have so1 := sto Tryz.prog r1.one1
    have u0 := hCr.c0
    have u1 := hCr.c1
    have u2 := hCr.c2
    have u3 := hCr.c3
    have u4 := hCr.c4
    have hok12 := hr12.out _ (nth_mem hlt)
    have hbl : (nth (foldD p).rules k).body.length ≤ 20 := (ruleOk_facts hok12).1
    have hLit := fun (q : Int × Int) (hq : q ∈ (nth (foldD p).rules k).body) => Lib.hid (lit12 ((ruleOk_facts hok12).2.2 q hq).1)
    clear hC hCr r1 hel hO hok12
    cases hW : (nth (foldD p).rules k).weight
    case true =>
     have hcB := cutB_w (t := wfT (foldD p).rules) (f := wfF (foldD p).rules) hW
     have hcR := cutR_w (t := wfT (foldD p).rules) (f := wfF (foldD p).rules) hW
     rw [hW] at u2 hOr
     have bA := (Below.refl wo.heap.size wo).alloc (Nat.le_refl _) (.cells #[.bool (nth (foldD p).rules k).choice, d1, .bool true, .int .i64 (nth (foldD p).rules k).bound, .slice ab (nth (foldD p).rules k).body.length kb] 52)
     have bC := bA.alloc bA.size (.cells #[.bool (nth (foldD p).rules k).choice, d1, .bool true, .int .i64 (nth (foldD p).rules k).bound, .slice ab (nth (foldD p).rules k).body.length kb] 52)
     have hcn := Cells.new (wo.alloc (.cells #[.bool (nth (foldD p).rules k).choice, d1, .bool true, .int .i64 (nth (foldD p).rules k).bound, .slice ab (nth (foldD p).rules k).body.length kb] 52)) [.bool (nth (foldD p).rules k).choice, d1, .bool true, .int .i64 (nth (foldD p).rules k).bound, .slice ab (nth (foldD p).rules k).body.length kb] 52
     rw [World.size_alloc] at hcn
     obtain ⟨x0, x1, x2, x3, x4⟩ := cells5 (Cells.new wo [.bool (nth (foldD p).rules k).choice, d1, .bool true, .int .i64 (nth (foldD p).rules k).bound, .slice ab (nth (foldD p).rules k).body.length kb] 52)
     have hO7 : Ow.O ((wo.alloc (.cells #[.bool (nth (foldD p).rules k).choice, d1, .bool true, .int .i64 (nth (foldD p).rules k).bound, .slice ab (nth (foldD p).rules k).body.length kb] 52)).alloc (.cells #[.bool (nth (foldD p).rules k).choice, d1, .bool true, .int .i64 (nth (foldD p).rules k).bound, .slice ab (nth (foldD p).rules k).body.length kb] 52)) [.bool (nth (foldD p).rules k).choice, d1, .bool true, .int .i64 (nth (foldD p).rules k).bound, .slice ab (nth (foldD p).rules k).body.length kb] (cutR (wfT (foldD p).rules) (wfF (foldD p).rules) (nth (foldD p).rules k)) (fps.getD k []) := by rw [hcR]; exact Ow.kept hOr fun f hf => bC.block f (Ow.lt hOr f hf)
     obtain ⟨a6, q6, w6, r6, o6, b6⟩ := cut_app (c := 1) (ty := 24) i3 _ hi3 hz30 hz31 hz32 rfl ho (by omega) bC hnd (fun f hf => by have := hfl f hf; omega) hcn hO7 (fun f hf => .inl hf) (by omega)
     clear hW hcR hO7 hOr hRr hcn bA
     obtain ⟨av, nv, hv0⟩ := ho.form
     have hE := Lib.hid (cutTo_yes hcB)
     have O6 := Lib.hid o6
     have B6 := Lib.hid ((hb.trans (bC.mono hz)).trans b6)
     obtain ⟨nT, hnT⟩ : ∃ nT : Nat, nT = (cutTo (wfT (foldD p).rules) (wfF (foldD p).rules) (foldD p).rules k).length := ⟨_, rfl⟩
     rw [← hnT] at r6 O6 hv0
     subst hv0
     clear hcB o6 b6 ho hb bC hnT
     go_wp2_with (at_builtin; refine wpList_append_of rfl _ _ rfl rfl rfl r6 ?_)
     go_roundw
     case rel => exact ⟨k + 1, by omega, by go_num, by rw [hE.out]; exact O6.out, B6.out⟩
     case measure => simp [intOf]; omega
    case false =>
     have hcN := cutB_n (t := wfT (foldD p).rules) (f := wfF (foldD p).rules) hW
     have hcR := cutR_n (t := wfT (foldD p).rules) (f := wfF (foldD p).rules) hW
     rw [hW] at u2 hOr
     have bA := (Below.refl wo.heap.size wo).alloc (Nat.le_refl _) (.cells #[.bool (nth (foldD p).rules k).choice, d1, .bool false, .int .i64 (nth (foldD p).rules k).bound, .slice ab (nth (foldD p).rules k).body.length kb] 52)
     have hbx := alloc_block wo #[.bool (nth (foldD p).rules k).choice, d1, .bool false, .int .i64 (nth (foldD p).rules k).bound, .slice ab (nth (foldD p).rules k).body.length kb] 52
     have hzB : (wo.alloc (.cells #[.bool (nth (foldD p).rules k).choice, d1, .bool false, .int .i64 (nth (foldD p).rules k).bound, .slice ab (nth (foldD p).rules k).body.length kb] 52)).heap.size = wo.heap.size + 1 := World.size_alloc _ _
     have P0 := PRow.lit (wo.alloc (.cells #[.bool (nth (foldD p).rules k).choice, d1, .bool false, .int .i64 (nth (foldD p).rules k).bound, .slice ab (nth (foldD p).rules k).body.length kb] 52)) (fun f => wo.heap.size + 1 ≤ f) (by rw [hzB]; exact Nat.le_refl _)
     rw [hzB] at P0
     have hbd' := hbd.later bA
     have CXB := Lib.hid (cellsAtS hbx)
     obtain ⟨x0, x1, x2, x3, x4⟩ := cells5 CXB.out
     go_wp2
     clear x0 x1 x2 x3 x4 u0 u1 u2 u3 u4 y0 y1 y2 y3 y4 y5 y6 y7
     generalize hwB : wo.alloc (.cells #[.bool (nth (foldD p).rules k).choice, d1, .bool false, .int .i64 (nth (foldD p).rules k).bound, .slice ab (nth (foldD p).rules k).body.length kb] 52) = wB at *
     have BW : Below (w1.heap.size + 1) wa wB := hb.trans (bA.mono hz)
     go_loopw [12, 13, 14] (fun bv gv i wr => ∃ j : Nat, j ≤ (nth (foldD p).rules k).body.length ∧ i = .int .i64 j ∧ gv = .bool (goesTo (wfT (foldD p).rules) (wfF (foldD p).rules) (nth (foldD p).rules k).body j) ∧ PRow (wo.heap.size + 1) (fun f => wo.heap.size + 1 ≤ f) wr bv (bodyTo (wfT (foldD p).rules) (wfF (foldD p).rules) (nth (foldD p).rules k).body j) ∧ Below (wo.heap.size + 1) wB wr) (fun _ _ i _ => (nth (foldD p).rules k).body.length - (intOf i).toNat)
     case atStart => exact ⟨0, Nat.zero_le _, rfl, rfl, P0, (Below.refl _ _).alloc (by omega) _⟩
     case round =>
      obtain ⟨j, hj, rfl, rfl, hoB, hbB⟩ := hrel
      clear P0
      have hzi := hbB.size
      have hbtl := bodyTo_len (wfT (foldD p).rules) (wfF (foldD p).rules) (nth (foldD p).rules k).body j
      have hbxi := (hbB.block wo.heap.size (by omega)).trans hbx
      obtain ⟨x0, x1, x2, x3, x4⟩ := cells5 (cellsAtS hbxi)
      have OB := Lib.hid hoB
      have BB := Lib.hid hbB
      by_cases hlj : j < (nth (foldD p).rules k).body.length
      ·obtain ⟨b, off, rfl, hc2⟩ := hbd'.base (by omega)
       obtain ⟨ecs2, hC2, rfl, hf1, hf2⟩ := hc2 j hlj
       have Bw : Below wB.heap.size wB wr := by rw [hzB]; exact hbB
       have hC2 := hC2.later Bw
       have v0 := hC2.c0
       have v1 := hC2.c1
       rw [show Rd.k (Int × Int) = 2 from rfl] at v0 v1
       have hl := (hLit _ (nth_mem hlj)).out
       have hg1 : goesTo (wfT (foldD p).rules) (wfF (foldD p).rules) (nth (foldD p).rules k).body (j + 1) = (goesTo (wfT (foldD p).rules) (wfF (foldD p).rules) (nth (foldD p).rules k).body j || goesL (wfT (foldD p).rules) (wfF (foldD p).rules) (nth (nth (foldD p).rules k).body j)) := rfl
       have hbo := bodyTo_out (t := wfT (foldD p).rules) (f := wfF (foldD p).rules) (b := (nth (foldD p).rules k).body) (k := j)
       have hbi := bodyTo_in (t := wfT (foldD p).rules) (f := wfF (foldD p).rules) (b := (nth (foldD p).rules k).body) (k := j)
       generalize nth (nth (foldD p).rules k).body j = q at hf1 hf2 v0 v1 hl hg1 hbo hbi
       obtain ⟨l, wv⟩ := q
       dsimp only at hf1 hf2 v0 v1 hl
       obtain ⟨hlb1, hlb2⟩ : -12 ≤ l ∧ l ≤ 12 := by omega
       have BA : Below wa.heap.size wa wr := by rw [hzA]; exact BW.trans (hbB.mono (by omega))
       have hTr := hTA.later BA
       have hFr := hFA.later BA
       clear hC2 hc2 BA Bw hoB hbB
       by_cases h0 : 0 < l
       ·have hGp := goesL_pos (t := wfT (foldD p).rules) (f := wfF (foldD p).rules) (w := wv) h0
        have hLp := leftL_pos (t := wfT (foldD p).rules) (f := wfF (foldD p).rules) (w := wv) h0
        cases hHF : hasB (wfF (foldD p).rules) l
        ·have HHF := Lib.hid hHF
         rw [hHF] at hGp
         have hgn : Hid (goesTo (wfT (foldD p).rules) (wfF (foldD p).rules) (nth (foldD p).rules k).body (j + 1) = true) := by show _ = _; rw [hg1, hGp]; simp
         have hbn := Lib.hid (hbo (by rw [hGp]; rfl))
         clear hHF hGp hLp hg1 hbo hbi
         go_wp2_with fail
         refine (SetHas_calls _ _ _ _ _ hFr).mono ?_
         rintro e w' ⟨he, rfl⟩
         rw [HHF.out] at he
         subst he
         go_wp2
         go_roundw
         case rel => exact ⟨j + 1, by omega, by go_num, by rw [hgn.out], by rw [hbn.out]; exact OB.out, BB.out⟩
         case measure => simp [intOf]; omega
        ·have HHF := Lib.hid hHF
         rw [hHF] at hGp
         have hgn : Hid (goesTo (wfT (foldD p).rules) (wfF (foldD p).rules) (nth (foldD p).rules k).body (j + 1) = goesTo (wfT (foldD p).rules) (wfF (foldD p).rules) (nth (foldD p).rules k).body j) := by show _ = _; rw [hg1, hGp]; simp
         cases hHT : hasB (wfT (foldD p).rules) l
         ·have HHT := Lib.hid hHT
          rw [hHT] at hLp
          have hbn := Lib.hid (hbi (by rw [hGp, hLp]; rfl))
          clear hHF hHT hGp hLp hg1 hbo hbi
          go_wp2_with fail
          refine (SetHas_calls _ _ _ _ _ hFr).mono ?_
          rintro e w' ⟨he, rfl⟩
          rw [HHF.out] at he
          subst he
          go_wp2_with fail
          refine (SetHas_calls _ _ _ _ _ hTr).mono ?_
          rintro e w' ⟨he, rfl⟩
          rw [HHT.out] at he
          subst he
          have hbL := (Below.refl wr.heap.size wr).alloc (Nat.le_refl _) (.cells #[.int .i64 l, .int .i64 wv] 90)
          have hcn := Cells.new wr [.int .i64 l, .int .i64 wv] 90
          obtain ⟨v4, w4, r4, o4, b4, k4⟩ := PRow.append (P := Tryz.prog) (t := 50) (ty := 50) (c := 1) (p := (l, wv)) i0 _ Tryz.underlying50 hi hzz0 hzz1 hzz2 rfl (OB.out.later hbL) hcn ⟨hf1, hf2⟩ (by omega) (by simp; omega)
          have o4' := Lib.hid (o4.weak (Nat.le_refl _) (D' := fun f => wo.heap.size + 1 ≤ f) fun f hf => by
           rcases hf with hf | hf
           ·exact hf
           ·simp at hf; omega)
          have B4 := Lib.hid ((BB.out.trans (hbL.mono (by omega))).trans b4)
          clear o4 b4 k4 hbL hcn
          go_wp2_with (at_builtin; refine wpList_append_of rfl _ _ rfl rfl rfl r4 ?_)
          go_roundw
          case rel => exact ⟨j + 1, by omega, by go_num, by rw [hgn.out], by rw [hbn.out]; exact o4'.out, B4.out⟩
          case measure => simp [intOf]; omega
         ·have HHT := Lib.hid hHT
          rw [hHT] at hLp
          have hbn := Lib.hid (hbo (by rw [hGp, hLp]; rfl))
          clear hHF hHT hGp hLp hg1 hbo hbi
          go_wp2_with fail
          refine (SetHas_calls _ _ _ _ _ hFr).mono ?_
          rintro e w' ⟨he, rfl⟩
          rw [HHF.out] at he
          subst he
          go_wp2_with fail
          refine (SetHas_calls _ _ _ _ _ hTr).mono ?_
          rintro e w' ⟨he, rfl⟩
          rw [HHT.out] at he
          subst he
          go_wp2
          go_roundw
          case rel => exact ⟨j + 1, by omega, by go_num, by rw [hgn.out], by rw [hbn.out]; exact OB.out, BB.out⟩
          case measure => simp [intOf]; omega
       ·have h1 : l < 0 := by omega
        have hGn := goesL_neg (t := wfT (foldD p).rules) (f := wfF (foldD p).rules) (w := wv) h1
        have hLn := leftL_neg (t := wfT (foldD p).rules) (f := wfF (foldD p).rules) (w := wv) h1
        cases hHT : hasB (wfT (foldD p).rules) (-l)
        ·have HHT := Lib.hid hHT
         rw [hHT] at hGn
         have hgn : Hid (goesTo (wfT (foldD p).rules) (wfF (foldD p).rules) (nth (foldD p).rules k).body (j + 1) = goesTo (wfT (foldD p).rules) (wfF (foldD p).rules) (nth (foldD p).rules k).body j) := by show _ = _; rw [hg1, hGn]; simp
         cases hHF : hasB (wfF (foldD p).rules) (-l)
         ·have HHF := Lib.hid hHF
          rw [hHF] at hLn
          have hbn := Lib.hid (hbo (by rw [hGn, hLn]; rfl))
          clear hHF hHT hGn hLn hg1 hbo hbi
          go_wp2_with fail
          refine (SetHas_calls _ _ _ _ _ hTr).mono ?_
          rintro e w' ⟨he, rfl⟩
          rw [HHT.out] at he
          subst he
          go_wp2_with fail
          refine (SetHas_calls _ _ _ _ _ hFr).mono ?_
          rintro e w' ⟨he, rfl⟩
          rw [HHF.out] at he
          subst he
          go_wp2
          go_roundw
          case rel => exact ⟨j + 1, by omega, by go_num, by rw [hgn.out], by rw [hbn.out]; exact OB.out, BB.out⟩
          case measure => simp [intOf]; omega
         ·have HHF := Lib.hid hHF
          rw [hHF] at hLn
          have hbn := Lib.hid (hbi (by rw [hGn, hLn]; rfl))
          clear hHF hHT hGn hLn hg1 hbo hbi
          go_wp2_with fail
          refine (SetHas_calls _ _ _ _ _ hTr).mono ?_
          rintro e w' ⟨he, rfl⟩
          rw [HHT.out] at he
          subst he
          go_wp2_with fail
          refine (SetHas_calls _ _ _ _ _ hFr).mono ?_
          rintro e w' ⟨he, rfl⟩
          rw [HHF.out] at he
          subst he
          have hbL := (Below.refl wr.heap.size wr).alloc (Nat.le_refl _) (.cells #[.int .i64 l, .int .i64 wv] 90)
          have hcn := Cells.new wr [.int .i64 l, .int .i64 wv] 90
          obtain ⟨v4, w4, r4, o4, b4, k4⟩ := PRow.append (P := Tryz.prog) (t := 50) (ty := 50) (c := 1) (p := (l, wv)) i0 _ Tryz.underlying50 hi hzz0 hzz1 hzz2 rfl (OB.out.later hbL) hcn ⟨hf1, hf2⟩ (by omega) (by simp; omega)
          have o4' := Lib.hid (o4.weak (Nat.le_refl _) (D' := fun f => wo.heap.size + 1 ≤ f) fun f hf => by
           rcases hf with hf | hf
           ·exact hf
           ·simp at hf; omega)
          have B4 := Lib.hid ((BB.out.trans (hbL.mono (by omega))).trans b4)
          clear o4 b4 k4 hbL hcn
          go_wp2_with (at_builtin; refine wpList_append_of rfl _ _ rfl rfl rfl r4 ?_)
          go_roundw
          case rel => exact ⟨j + 1, by omega, by go_num, by rw [hgn.out], by rw [hbn.out]; exact o4'.out, B4.out⟩
          case measure => simp [intOf]; omega
        ·have HHT := Lib.hid hHT
         rw [hHT] at hGn
         have hgn : Hid (goesTo (wfT (foldD p).rules) (wfF (foldD p).rules) (nth (foldD p).rules k).body (j + 1) = true) := by show _ = _; rw [hg1, hGn]; simp
         have hbn := Lib.hid (hbo (by rw [hGn]; rfl))
         clear hHT hGn hLn hg1 hbo hbi
         go_wp2_with fail
         refine (SetHas_calls _ _ _ _ _ hTr).mono ?_
         rintro e w' ⟨he, rfl⟩
         rw [HHT.out] at he
         subst he
         go_wp2
         go_roundw
         case rel => exact ⟨j + 1, by omega, by go_num, by rw [hgn.out], by rw [hbn.out]; exact OB.out, BB.out⟩
         case measure => simp [intOf]; omega
      ·obtain rfl : j = (nth (foldD p).rules k).body.length := by omega
       obtain ⟨av, nv, rfl, _, _⟩ := hoB.rd.sl
       obtain ⟨nB, hnB⟩ : ∃ nB : Nat, nB = (bodyTo (wfT (foldD p).rules) (wfF (foldD p).rules) (nth (foldD p).rules k).body (nth (foldD p).rules k).body.length).length := ⟨_, rfl⟩
       have OV := hoB.1.own
       rw [← hnB] at OV ⊢
       have hfx := fun i => frozen_of_row wr wo.heap.size i _ _ hbxi
       have bw : Below wo.heap.size wo wr := bA.trans (hbB.mono (by omega))
       have bS := Below.setCell bw (p := ⟨wo.heap.size, 4, none⟩) (Nat.le_refl _) (.slice av nB nv)
       have hoS := ((ho.bound.later bw).far (p := ⟨wo.heap.size, 4, none⟩) (fun h => by have := h.2; exact absurd this (Nat.lt_irrefl _)) (.slice av nB nv)).weak (D' := DC fps (w1.heap.size + 1) (k + 1)) (Nat.le_refl _) fun f hf => hf.1.up
       cases hg : goesTo (wfT (foldD p).rules) (wfF (foldD p).rules) (nth (foldD p).rules k).body (nth (foldD p).rules k).body.length
       ·have hcB : cutB (wfT (foldD p).rules) (wfF (foldD p).rules) (nth (foldD p).rules k) = true := by rw [hcN, hg]; rfl
        have hz4 : (wr.setCell ⟨wo.heap.size, 4, none⟩ (.slice av nB nv)).heap.size = wr.heap.size := by simp [World.setCell]
        have bC := bS.alloc bS.size (.cells #[.bool (nth (foldD p).rules k).choice, d1, .bool false, .int .i64 (nth (foldD p).rules k).bound, .slice av nB nv] 52)
        have hcn := Cells.new (wr.setCell ⟨wo.heap.size, 4, none⟩ (.slice av nB nv)) [.bool (nth (foldD p).rules k).choice, d1, .bool false, .int .i64 (nth (foldD p).rules k).bound, .slice av nB nv] 52
        rw [hz4] at hcn
        have hv : Own (wo.heap.size + 1) ((wr.setCell ⟨wo.heap.size, 4, none⟩ (.slice av nB nv)).alloc (.cells #[.bool (nth (foldD p).rules k).choice, d1, .bool false, .int .i64 (nth (foldD p).rules k).bound, .slice av nB nv] 52)) [.slice av nB nv] (bodyTo (wfT (foldD p).rules) (wfF (foldD p).rules) (nth (foldD p).rules k).body (nth (foldD p).rules k).body.length) := (OV.setBelow (p := ⟨wo.heap.size, 4, none⟩) (by show wo.heap.size < _; omega) _).alloc _
        rw [← hW] at hOr
        obtain ⟨fp', q1, q2⟩ := own_body (ys := bodyTo (wfT (foldD p).rules) (wfF (foldD p).rules) (nth (foldD p).rules k).body (nth (foldD p).rules k).body.length) hOr bC hv (by omega)
        have hO7 : Ow.O ((wr.setCell ⟨wo.heap.size, 4, none⟩ (.slice av nB nv)).alloc (.cells #[.bool (nth (foldD p).rules k).choice, d1, .bool false, .int .i64 (nth (foldD p).rules k).bound, .slice av nB nv] 52)) [.bool (nth (foldD p).rules k).choice, d1, .bool false, .int .i64 (nth (foldD p).rules k).bound, .slice av nB nv] (cutR (wfT (foldD p).rules) (wfF (foldD p).rules) (nth (foldD p).rules k)) fp' := by rw [hcR]; simp only [hW] at q1 ⊢; exact q1
        obtain ⟨a6, q6, w6, r6, o6, b6⟩ := cut_app (c := 1) (ty := 24) i3 _ hi3 hz30 hz31 hz32 rfl ho (by omega) bC hnd (fun f hf => by have := hfl f hf; omega) hcn hO7 (fun f hf => (q2 f hf).imp id fun h => by omega) (by omega)
        clear hv q1 q2 hO7 hcn hcN hcR hW hg OB BB OV hoB hbB hoS bS bw hOr hRr hnB hz4
        obtain ⟨av, nv, hv0⟩ := ho.form
        have hE := Lib.hid (cutTo_yes hcB)
        have O6 := Lib.hid o6
        have B6 := Lib.hid ((hb.trans (bC.mono hz)).trans b6)
        obtain ⟨nT, hnT⟩ : ∃ nT : Nat, nT = (cutTo (wfT (foldD p).rules) (wfF (foldD p).rules) (foldD p).rules k).length := ⟨_, rfl⟩
        rw [← hnT] at r6 O6 hv0
        subst hv0
        clear hcB o6 b6 ho hb bC hnT
        go_wp2_with (at_builtin; refine wpList_append_of rfl _ _ rfl rfl rfl r6 ?_)
        go_roundw
        case rel => exact ⟨k + 1, by omega, by go_num, by rw [hE.out]; exact O6.out, B6.out⟩
        case measure => simp [intOf]; omega
       ·have hcB : cutB (wfT (foldD p).rules) (wfF (foldD p).rules) (nth (foldD p).rules k) = false := by rw [hcN, hg]; rfl
        have hE := Lib.hid (cutTo_no hcB)
        have OS := Lib.hid hoS
        have BS := Lib.hid (hb.trans (bS.mono hz))
        clear hcB hg hcN hcR hoS bS bw OV hoB hbB OB BB ho hb hOr hRr hnB
        go_wp2
        go_roundw
        case rel => exact ⟨k + 1, by omega, by go_num, by rw [hE.out]; exact OS.out, BS.out⟩
        case measure => simp [intOf]; omega
   ·obtain rfl : k = (foldD p).rules.length := by omega
    have hGr := (hb.block w1.heap.size (by omega)).trans HGB.out
    have hRr := (hb.block (w.heap.size + 1) (by omega)).trans hRA
    obtain ⟨z0, z1, z2, z3, z4, z5, z6, z7⟩ := cells8 (cellsAtS hRr)
    have hfy := fun j => frozen_of_row _ w1.heap.size j _ _ hGr
    have hfz := fun j => frozen_of_row _ (w.heap.size + 1) j _ _ hRr
    have hPR := own_cut (q := foldD p) hRest (fun f hf => (hb.block f (by omega)).trans (hbk f hf)) hRl hfa (fun f hf => (hfl f hf).1) (by omega) (by omega) ho
    have hnG : ¬ DC fps (w1.heap.size + 1) (foldD p).rules.length w1.heap.size := fun hd => by
     rcases hd with hd | hd
     ·have := (hfl _ (take_in hd)).2; omega
     ·omega
    have hnR : ¬ DC fps (w1.heap.size + 1) (foldD p).rules.length (w.heap.size + 1) := fun hd => by
     rcases hd with hd | hd
     ·have := (hfl _ (take_in hd)).1; omega
     ·omega
    obtain ⟨av, nv, rfl⟩ := ho.form
    obtain ⟨nT, hnT⟩ : ∃ nT : Nat, nT = (cutTo (wfT (foldD p).rules) (wfF (foldD p).rules) (foldD p).rules (foldD p).rules.length).length := ⟨_, rfl⟩
    rw [← hnT] at hPR ⊢
    have PR := Lib.hid hPR
    have NG := Lib.hid hnG
    have NR := Lib.hid hnR
    have TW := Lib.hid (tA.trans (hb.mono (by omega)))
    have one2 := Rd.one hPR.own.rd
    have st2 := sto Tryz.prog (one2 c2 (by simp))
    have st4 := sto Tryz.prog (one2 c4 (by simp))
    have st5 := sto Tryz.prog (one2 c5 (by simp))
    have st6 := sto Tryz.prog (one2 c6 (by simp))
    have st7 := sto Tryz.prog (one2 c7 (by simp))
    clear hPR hnG hnR ho hb hnT hGr hRr one2
    go_wp2
    refine bodyPost_ret (v := .tuple #[.agg #[.int .i64 (foldD p).atoms, .slice av nT nv, c2, .bool (foldD p).projOn, c4, c5, c6, c7], .bool true])
     (by simp [results, Tryz.results51, go_sem, z0, z1, z2, z3, z4, z5, z6, z7]) rfl ⟨_, by rw [HP.out], ?_, ?_⟩
    ·rw [HC.out]
     unfold cutD
     exact (((PR.out.far (q := ⟨w1.heap.size, 1, none⟩) NG.out (.inr (Nat.le_refl _)) (.slice av nT nv)).chg (put_chg (w.heap.size + 1) [.int .i64 (foldD p).atoms, .slice av nT nv, c2, .bool (foldD p).projOn, c4, c5, c6, c7] _ 0) NR.out (.inl (by omega))).own).mono (by omega)
    ·exact (Below.setCell TW.out (p := ⟨w1.heap.size, 1, none⟩) (by show w.heap.size ≤ w1.heap.size; omega) (.slice av nT nv)).trans ((put_chg (w.heap.size + 1) [.int .i64 (foldD p).atoms, .slice av nT nv, c2, .bool (foldD p).projOn, c4, c5, c6, c7] _ 0).below fun g hg => by simp at hg; omega)

section
variable {rs : List RuleD} {x : List Int}
theorem wf_low (hw : Wts rs) (hc : ∀ r ∈ rs, r.choice = false) (hx : leastL rs x false = x) : ∀ n, Sub (wfIt rs n) x
 | 0 => fun a _ _ h => by simp [wfIt, hasB] at h
 | n + 1 => by
  have h1 := least_anti hw hc (wf_low hw hc hx n)
  rw [hx] at h1
  have h2 := least_anti hw hc h1
  rw [hx] at h2
  exact h2
theorem wf_high (hw : Wts rs) (hc : ∀ r ∈ rs, r.choice = false) (hx : leastL rs x false = x) : Sub x (wfF rs) := by
 have := least_anti hw hc (wf_low hw hc hx 13)
 rw [hx] at this
 exact this
theorem wf_apart (hw : Wts rs) (hc : ∀ r ∈ rs, r.choice = false) : ∀ n, Sub (wfIt rs n) (leastL rs (wfIt rs n) false)
 | 0 => fun a _ _ h => by simp [wfIt, hasB] at h
 | n + 1 => by
  have h1 := least_anti hw hc (wf_apart hw hc n)
  exact least_anti hw hc h1
theorem wf_sub (hw : Wts rs) (hc : ∀ r ∈ rs, r.choice = false) : Sub (wfT rs) (wfF rs) := wf_apart hw hc 13
end
theorem ans_least {q : ProgD} {x : List Int} (h : ansB q x = true) : setOkB x q.atoms = true ∧ modelB q x = true ∧ leastL q.rules x false = x := by
 simpa only [ansB, Bool.and_eq_true, decide_eq_true_eq] using h
theorem setN_inj {j k : Nat} (hj : j < 4096) (hk : k < 4096) (h : setN j = setN k) : j = k := by
 have key : ∀ {n : Nat}, n < 4096 → maskOf (setN n) = n := fun {n} hn => by
  have e : setN n = mset n := by
   unfold setN
   rw [← of_same]
   unfold setOf mset
   rw [if_pos (by omega)]
   rfl
  rw [e, mask_mset hn]
 rw [← key hj, ← key hk, h]
theorem ans_single {q : ProgD} {t : List Int} : ∀ {n : Nat}, n ≤ 4096 → (∀ x ∈ ansTo q n, x = t) → (ansTo q n).length ≤ 1
 | 0, _, _ => by simp [ansTo]
 | n + 1, hn, h => by
  cases ha : ansB q (setN n)
  ·rw [ansTo_no ha] at h ⊢
   exact ans_single (by omega) h
  ·rw [ansTo_yes ha] at h ⊢
   have h1 := h (setN n) (List.mem_append_right _ (List.mem_singleton_self _))
   have h2 : ansTo q n = [] := by
    rw [List.eq_nil_iff_forall_not_mem]
    intro y hy
    have h3 := h y (List.mem_append_left _ hy)
    obtain ⟨k, hk, rfl, _⟩ := mem_ansTo.1 hy
    have := setN_inj (show k < 4096 by omega) (show n < 4096 by omega) (h3.trans h1.symm)
    omega
   rw [h2]; simp

theorem mem_goesTo {t f : List Int} {b : List (Int × Int)} : ∀ {k : Nat}, k ≤ b.length → (goesTo t f b k = true ↔ ∃ i, i < k ∧ goesL t f (nth b i) = true)
 | 0, _ => ⟨fun h => (by cases h), fun ⟨i, hi, _⟩ => absurd hi (by omega)⟩
 | k + 1, hk => by
  show (goesTo t f b k || goesL t f (nth b k)) = true ↔ _
  rw [Bool.or_eq_true, mem_goesTo (by omega)]
  constructor
  ·rintro (⟨i, hi, h⟩ | h)
   ·exact ⟨i, by omega, h⟩
   ·exact ⟨k, by omega, h⟩
  ·rintro ⟨i, hi, h⟩
   rcases Nat.lt_or_ge i k with hik | hik
   ·exact .inl ⟨i, hik, h⟩
   ·obtain rfl : i = k := by omega
    exact .inr h
theorem mem_bodyTo {t f : List Int} {b : List (Int × Int)} {p : Int × Int} : ∀ {k : Nat}, k ≤ b.length → (p ∈ bodyTo t f b k ↔ ∃ i, i < k ∧ p = nth b i ∧ (goesL t f p || leftL t f p) = false)
 | 0, _ => ⟨fun h => (by cases h), fun ⟨i, hi, _⟩ => absurd hi (by omega)⟩
 | k + 1, hk => by
  have ih := mem_bodyTo (t := t) (f := f) (b := b) (p := p) (k := k) (by omega)
  cases h : (goesL t f (nth b k) || leftL t f (nth b k))
  ·rw [bodyTo_in h, List.mem_append, ih, List.mem_singleton]
   constructor
   ·rintro (⟨i, hi, h1⟩ | rfl)
    ·exact ⟨i, by omega, h1⟩
    ·exact ⟨k, by omega, rfl, h⟩
   ·rintro ⟨i, hi, rfl, h1⟩
    rcases Nat.lt_or_ge i k with hik | hik
    ·exact .inl ⟨i, hik, rfl, h1⟩
    ·obtain rfl : i = k := by omega
     exact .inr rfl
  ·rw [bodyTo_out h, ih]
   constructor
   ·rintro ⟨i, hi, h1⟩; exact ⟨i, by omega, h1⟩
   ·rintro ⟨i, hi, rfl, h1⟩
    rcases Nat.lt_or_ge i k with hik | hik
    ·exact ⟨i, hik, rfl, h1⟩
    ·obtain rfl : i = k := by omega
     rw [h] at h1; cases h1
theorem mem_cutTo {t f : List Int} {rs : List RuleD} {r : RuleD} : ∀ {k : Nat}, k ≤ rs.length → (r ∈ cutTo t f rs k ↔ ∃ i, i < k ∧ cutB t f (nth rs i) = true ∧ r = cutR t f (nth rs i))
 | 0, _ => ⟨fun h => (by cases h), fun ⟨i, hi, _⟩ => absurd hi (by omega)⟩
 | k + 1, hk => by
  have ih := mem_cutTo (t := t) (f := f) (rs := rs) (r := r) (k := k) (by omega)
  cases h : cutB t f (nth rs k)
  ·rw [cutTo_no h, ih]
   constructor
   ·rintro ⟨i, hi, h1⟩; exact ⟨i, by omega, h1⟩
   ·rintro ⟨i, hi, h1, h2⟩
    rcases Nat.lt_or_ge i k with hik | hik
    ·exact ⟨i, hik, h1, h2⟩
    ·obtain rfl : i = k := by omega
     rw [h] at h1; cases h1
  ·rw [cutTo_yes h, List.mem_append, ih, List.mem_singleton]
   constructor
   ·rintro (⟨i, hi, h1⟩ | rfl)
    ·exact ⟨i, by omega, h1⟩
    ·exact ⟨k, by omega, h, rfl⟩
   ·rintro ⟨i, hi, h1, rfl⟩
    rcases Nat.lt_or_ge i k with hik | hik
    ·exact .inl ⟨i, hik, h1, rfl⟩
    ·obtain rfl : i = k := by omega
     exact .inr rfl
theorem mem_cut {t f : List Int} {rs : List RuleD} {r : RuleD} : r ∈ cutTo t f rs rs.length ↔ ∃ s ∈ rs, cutB t f s = true ∧ r = cutR t f s := by
 rw [mem_cutTo (Nat.le_refl _)]
 constructor
 ·rintro ⟨i, hi, h1, h2⟩; exact ⟨_, nth_mem hi, h1, h2⟩
 ·rintro ⟨s, hs, h1, h2⟩
  obtain ⟨i, hi, rfl⟩ := List.getElem_of_mem hs
  rw [← nth_eq hi] at h1 h2
  exact ⟨i, hi, h1, h2⟩
section
variable {t f : List Int} {r : RuleD} {g : Int × Int → Bool}
theorem cutB_iff (hw : r.weight = false) : cutB t f r = true ↔ ∀ p ∈ r.body, goesL t f p = false := by
 rw [cutB_n hw, Bool.not_eq_true']
 constructor
 ·intro h p hp
  cases hg : goesL t f p
  ·rfl
  ·obtain ⟨i, hi, rfl⟩ := List.getElem_of_mem hp
   rw [← nth_eq hi] at hg
   rw [(mem_goesTo (Nat.le_refl _)).2 ⟨i, hi, hg⟩] at h
   cases h
 ·intro h
  cases hg : goesTo t f r.body r.body.length
  ·rfl
  ·obtain ⟨i, hi, h1⟩ := (mem_goesTo (Nat.le_refl _)).1 hg
   rw [h _ (nth_mem hi)] at h1
   cases h1
theorem cut_stays (h : ∀ p ∈ r.body, goesL t f p = true → g p = false) (hr : reachB r g = true) : cutB t f r = true := by
 cases hw : r.weight
 ·rw [cutB_iff hw]
  rw [reachB_F hw, List.all_eq_true] at hr
  intro p hp
  cases hg : goesL t f p
  ·rfl
  ·have := hr p hp
   rw [h p hp hg] at this
   cases this
 ·exact cutB_w hw
theorem cut_down (hr : reachB r g = true) : reachB (cutR t f r) g = true := by
 cases hw : r.weight
 ·rw [cutR_n hw]
  rw [reachB_F hw, List.all_eq_true] at hr
  rw [reachB_F (show ({ r with body := bodyTo t f r.body r.body.length } : RuleD).weight = false from hw), List.all_eq_true]
  intro p hp
  obtain ⟨i, hi, rfl, _⟩ := (mem_bodyTo (Nat.le_refl _)).1 hp
  exact hr _ (nth_mem hi)
 ·rw [cutR_w hw]; exact hr
theorem cut_up (hc : cutB t f r = true) (h : ∀ p ∈ r.body, leftL t f p = true → g p = true) (hr : reachB (cutR t f r) g = true) : reachB r g = true := by
 cases hw : r.weight
 ·rw [cutB_iff hw] at hc
  rw [cutR_n hw, reachB_F (show ({ r with body := bodyTo t f r.body r.body.length } : RuleD).weight = false from hw), List.all_eq_true] at hr
  rw [reachB_F hw, List.all_eq_true]
  intro p hp
  cases hl : leftL t f p
  ·obtain ⟨i, hi, rfl⟩ := List.getElem_of_mem hp
   refine hr _ ((mem_bodyTo (Nat.le_refl _)).2 ⟨i, hi, (nth_eq hi).symm, ?_⟩)
   rw [hc _ hp, hl]; rfl
  ·exact h p hp hl
 ·rw [cutR_w hw] at hr; exact hr
theorem cutR_heads : (cutR t f r).heads = r.heads := by unfold cutR; split <;> rfl
theorem cutR_choice : (cutR t f r).choice = r.choice := by unfold cutR; split <;> rfl
theorem cutR_put {x : List Int} : putL false x (cutR t f r) = putL false x r := by unfold putL; rw [cutR_heads, cutR_choice]
theorem cutR_ok {n : Int} (h : ruleOkB r n = true) : ruleOkB (cutR t f r) n = true := by
 cases hw : r.weight
 ·rw [cutR_n hw]
  simp only [ruleOkB, headsB, bodyB, Bool.and_eq_true, List.all_eq_true, decide_eq_true_eq] at h ⊢
  obtain ⟨a1, ⟨⟨a2, a3⟩, a4⟩, a5⟩ := h
  refine ⟨a1, ⟨⟨Nat.le_trans (bodyTo_len _ _ _ _) a2, a3⟩, a4⟩, fun p hp => ?_⟩
  obtain ⟨i, hi, rfl, _⟩ := (mem_bodyTo (Nat.le_refl _)).1 hp
  exact a5 _ (nth_mem hi)
 ·rw [cutR_w hw]; exact h
theorem goes_false {s y : List Int} {p : Int × Int} (hl : litB p.1 12 = true) (hs : Sub s f) (ht : Sub t y) (h : goesL t f p = true) : h2B s y p = false := by
 rcases lit12 hl with h1 | h1
 ·rw [h2B_pos (by omega), holdsB_pos h1]
  unfold goesL at h
  rw [decide_eq_true (show 0 < p.1 by omega), decide_eq_false (show ¬ p.1 < 0 by omega), Bool.true_and, Bool.false_and, Bool.or_false, Bool.not_eq_true'] at h
  cases hh : hasB s p.1
  ·rfl
  ·rw [hs _ h1.1 h1.2 hh] at h; cases h
 ·rw [h2B_neg (by omega), holdsB_neg ⟨by omega, by omega⟩]
  unfold goesL at h
  rw [decide_eq_false (show ¬ 0 < p.1 by omega), decide_eq_true (show p.1 < 0 by omega), Bool.true_and, Bool.false_and, Bool.false_or] at h
  rw [ht _ (by omega) (by omega) h]; rfl
theorem left_true {s y : List Int} {p : Int × Int} (hl : litB p.1 12 = true) (hs : Sub t s) (ht : Sub y f) (h : leftL t f p = true) : h2B s y p = true := by
 rcases lit12 hl with h1 | h1
 ·rw [h2B_pos (by omega), holdsB_pos h1]
  unfold leftL at h
  rw [decide_eq_true (show 0 < p.1 by omega), decide_eq_false (show ¬ p.1 < 0 by omega), Bool.true_and, Bool.false_and, Bool.or_false] at h
  exact hs _ h1.1 h1.2 h
 ·rw [h2B_neg (by omega), holdsB_neg ⟨by omega, by omega⟩]
  unfold leftL at h
  rw [decide_eq_false (show ¬ 0 < p.1 by omega), decide_eq_true (show p.1 < 0 by omega), Bool.true_and, Bool.false_and, Bool.false_or, Bool.not_eq_true'] at h
  cases hh : hasB y (-p.1)
  ·rfl
  ·rw [ht _ (by omega) (by omega) hh] at h; cases h
end
section
variable {q : ProgD} {x : List Int}
theorem body12 (hq : progOkB q = true) {r : RuleD} (hr : r ∈ q.rules) {p : Int × Int} (hp : p ∈ r.body) : litB p.1 12 = true := by
 have := rules12 hq r hr
 exact ((ruleOk_facts this).2.2 p hp).1
theorem cutD_ok (hq : progOkB q = true) : progOkB (cutD q) = true := by
 have hr := progOk_rules hq
 have e : rulesB (cutTo (wfT q.rules) (wfF q.rules) q.rules q.rules.length) q.atoms = true := by
  simp only [rulesB, Bool.and_eq_true, decide_eq_true_eq, List.all_eq_true]
  refine ⟨Nat.le_trans (cutTo_len _ _ _ _) hr.1, fun r h => ?_⟩
  obtain ⟨s, hs, _, rfl⟩ := mem_cut.1 h
  exact cutR_ok (hr.2 s hs)
 unfold progOkB at hq ⊢
 simp only [Bool.and_eq_true] at hq ⊢
 exact ⟨hq.1, e, hq.2.2.1, hq.2.2.2.1, hq.2.2.2.2.1, hq.2.2.2.2.2.1, hq.2.2.2.2.2.2⟩
theorem cut_model (hq : progOkB q = true) (hT : Sub (wfT q.rules) x) (hF : Sub x (wfF q.rules)) : modelB (cutD q) x = modelB q x := by
 rw [modelB_yes hq, modelB_yes (cutD_ok hq), Bool.eq_iff_iff, List.all_eq_true, List.all_eq_true]
 have key : ∀ s ∈ q.rules, cutB (wfT q.rules) (wfF q.rules) s = true → ruleHoldsB x (cutR (wfT q.rules) (wfF q.rules) s) = ruleHoldsB x s := fun s hs hc => by
  have hok := rules12 hq s hs
  have e : reachB (cutR (wfT q.rules) (wfF q.rules) s) (h2B x x) = reachB s (h2B x x) := by
   rw [Bool.eq_iff_iff]
   exact ⟨cut_up hc fun p hp h => left_true (body12 hq hs hp) hT hF h, cut_down⟩
  unfold ruleHoldsB meetB
  rw [cutR_heads, cutR_choice, bodyHoldsB_yes hok, bodyHoldsB_yes (cutR_ok hok), ← reach_same, ← reach_same, e]
 constructor
 ·intro h s hs
  cases hb : reachB s (h2B x x)
  ·refine ruleHolds_B ?_
   rw [bodyHoldsB_yes (rules12 hq s hs), ← reach_same, hb]
  ·have hc : cutB (wfT q.rules) (wfF q.rules) s = true := cut_stays (fun p hp h => goes_false (body12 hq hs hp) hF hT h) hb
   rw [← key s hs hc]
   exact h _ (mem_cut.2 ⟨s, hs, hc, rfl⟩)
 ·intro h r hr
  obtain ⟨s, hs, hc, rfl⟩ := mem_cut.1 hr
  rw [key s hs hc]
  exact h s hs
theorem wts_cut (hq : progOkB q = true) : Wts (cutD q).rules := wts_ok (progOk_rules (cutD_ok hq)).2
theorem cut_least (hq : progOkB q = true) (hc : ∀ r ∈ q.rules, r.choice = false) (hx : IsP x) (h : leastL q.rules x false = x) : leastL (cutD q).rules x false = x := by
 have hw := wts_ok (progOk_rules hq).2
 have hwc := wts_cut hq
 have hT := wf_low hw hc h 13
 have hF := wf_high hw hc h
 have ha : Sub (leastL (cutD q).rules x false) x := least_min hwc fun r hr hre => by
  obtain ⟨s, hs, hcs, rfl⟩ := mem_cut.1 hr
  rw [cutR_put]
  have h1 := cut_up hcs (fun p hp h => left_true (body12 hq hs hp) hT hF h) hre
  have h2 := least_closed (rs := q.rules) (xs := x) (all := false) s hs (by rw [h]; exact h1)
  rw [h] at h2
  exact h2
 refine least_isP.eq hx ha ?_
 have hb : Sub (leastL q.rules x false) (leastL (cutD q).rules x false) := least_min hw fun s hs hre => by
  have hcs : cutB (wfT q.rules) (wfF q.rules) s = true := cut_stays (fun p hp h => goes_false (body12 hq hs hp) (ha.trans hF) hT h) hre
  have h2 := least_closed (rs := (cutD q).rules) (xs := x) (all := false) _ (mem_cut.2 ⟨s, hs, hcs, rfl⟩) (cut_down hre)
  rw [cutR_put] at h2
  exact h2
 rw [h] at hb
 exact hb
theorem cut_above (hq : progOkB q = true) (hc : ∀ r ∈ q.rules, r.choice = false) (h : leastL (cutD q).rules x false = x) {y : List Int} (hy : Sub y (wfT q.rules)) (hyx : Sub y x) : Sub x (leastL q.rules y false) := by
 have hw := wts_ok (progOk_rules hq).2
 have hwc := wts_cut hq
 have hTF := wf_sub hw hc
 have hFn : Sub (wfF q.rules) (leastL q.rules y false) := least_anti hw hc hy
 have h1 : Sub (leastL (cutD q).rules x false) (leastL q.rules y false) := least_min hwc fun r hr hre => by
  have hwr := hwc r hr
  obtain ⟨s, hs, hcs, rfl⟩ := mem_cut.1 hr
  have h2 := reachB_mono hwr (fun p _ => h2B_anti hyx) hre
  have h3 := cut_up hcs (fun p hp h => left_true (body12 hq hs hp) (hTF.trans hFn) (hy.trans hTF) h) h2
  have h4 := least_closed (rs := q.rules) (xs := y) (all := false) s hs h3
  rw [cutR_put]
  rw [putL_F (by rw [hc s hs]; rfl)] at h4 ⊢
  exact h4
 rw [h] at h1
 exact h1
theorem wfIt_up {rs : List RuleD} (hw : Wts rs) (hc : ∀ r ∈ rs, r.choice = false) {n : Nat} : ∀ k, Sub (wfIt rs n) (wfIt rs (n + k))
 | 0 => Sub.refl _
 | k + 1 => (wfIt_up hw hc k).trans (wfIt_sub hw hc (n + k))
theorem wfIt_T {rs : List RuleD} (hw : Wts rs) (hc : ∀ r ∈ rs, r.choice = false) {n : Nat} (h : n ≤ 13) : Sub (wfIt rs n) (wfT rs) := by
 have := wfIt_up hw hc (n := n) (13 - n)
 rw [show n + (13 - n) = 13 by omega] at this
 exact this
theorem cut_bound (hq : progOkB q = true) (hc : ∀ r ∈ q.rules, r.choice = false) (h : leastL (cutD q).rules x false = x) : ∀ n, n ≤ 13 → Sub (wfIt q.rules n) x
 | 0, _ => fun a _ _ h => by simp [wfIt, hasB] at h
 | n + 1, hn => by
  have hw := wts_ok (progOk_rules hq).2
  have hwc := wts_cut hq
  have hTF := wf_sub hw hc
  have ih := cut_bound hq hc h n (by omega)
  have hTn := wfIt_T hw hc (n := n) (by omega)
  have hFn : Sub (wfF q.rules) (leastL q.rules (wfIt q.rules n) false) := least_anti hw hc hTn
  have hx := cut_above hq hc h hTn ih
  have hfix := wfT_fix hw hc
  show Sub (leastL q.rules (leastL q.rules (wfIt q.rules n) false) false) x
  generalize leastL q.rules (wfIt q.rules n) false = Fn at *
  have hCT : Sub (pickTo (pickM x (wfT q.rules)) 12) (wfT q.rules) := fun a h1 h2 ha => by
   rw [hasB_meet ⟨h1, h2⟩, Bool.and_eq_true] at ha; exact ha.2
  have hCx : Sub (pickTo (pickM x (wfT q.rules)) 12) x := fun a h1 h2 ha => by
   rw [hasB_meet ⟨h1, h2⟩, Bool.and_eq_true] at ha; exact ha.1
  refine Sub.trans (least_min hw (c := pickTo (pickM x (wfT q.rules)) 12) fun s hs hre => ?_) hCx
  have hws := hw s hs
  have h1 : Sub s.heads (wfT q.rules) := by
   have h3 := least_closed (rs := q.rules) (xs := wfF q.rules) (all := false) s hs (by
    rw [hfix]
    exact reachB_mono hws (fun p _ hp => h2B_anti hFn (h2B_mono hCT hp)) hre)
   rw [putL_F (by rw [hc s hs]; rfl), hfix] at h3
   exact h3
  have hcs : cutB (wfT q.rules) (wfF q.rules) s = true := cut_stays (fun p hp h => goes_false (body12 hq hs hp) (hCT.trans hTF) (hTF.trans hFn) h) hre
  have h2 : Sub s.heads x := by
   have hm := mem_cut.2 ⟨s, hs, hcs, rfl⟩
   have h3 := least_closed (rs := (cutD q).rules) (xs := x) (all := false) _ hm (by
    rw [h]
    exact reachB_mono (hwc _ hm) (fun p _ hp => h2B_anti hx (h2B_mono hCx hp)) (cut_down hre))
   rw [cutR_put, putL_F (by rw [hc s hs]; rfl), h] at h3
   exact h3
  rw [putL_F (by rw [hc s hs]; rfl)]
  intro a a1 a2 ha
  rw [hasB_meet ⟨a1, a2⟩, h2 a a1 a2 ha, h1 a a1 a2 ha]
  rfl
theorem cut_ans (hq : progOkB q = true) (hc : ∀ r ∈ q.rules, r.choice = false) : ansB (cutD q) x = ansB q x := by
 have hw := wts_ok (progOk_rules hq).2
 have hwc := wts_cut hq
 rw [Bool.eq_iff_iff]
 constructor
 ·intro h
  obtain ⟨h1, h2, h3⟩ := ans_least h
  have hs : setOkB x q.atoms = true := h1
  have hx : IsP x := progOk_len hs (progOk_atoms hq)
  have hT : Sub (wfT q.rules) x := cut_bound hq hc h3 13 (Nat.le_refl _)
  have hF : Sub x (wfF q.rules) := cut_above hq hc h3 (Sub.refl _) hT
  rw [cut_model hq hT hF] at h2
  rw [ansB_C hs h2, decide_eq_true_eq]
  have ha : Sub (leastL q.rules x false) x := least_min hw fun s hs hre => by
   have hcs : cutB (wfT q.rules) (wfF q.rules) s = true := cut_stays (fun p hp h => goes_false (body12 hq hs hp) hF hT h) hre
   have h4 := least_closed (rs := (cutD q).rules) (xs := x) (all := false) _ (mem_cut.2 ⟨s, hs, hcs, rfl⟩) (by rw [h3]; exact cut_down hre)
   rw [cutR_put, h3] at h4
   exact h4
  have hTl : Sub (wfT q.rules) (leastL q.rules x false) := by
   have := least_anti hw hc hF
   rw [wfT_fix hw hc] at this
   exact this
  have hb : Sub (leastL (cutD q).rules x false) (leastL q.rules x false) := least_min hwc fun r hr hre => by
   obtain ⟨s, hs, hcs, rfl⟩ := mem_cut.1 hr
   rw [cutR_put]
   exact least_closed (rs := q.rules) (xs := x) (all := false) s hs (cut_up hcs (fun p hp h => left_true (body12 hq hs hp) hTl hF h) hre)
  rw [h3] at hb
  exact least_isP.eq hx ha hb
 ·intro h
  obtain ⟨h1, h2, h3⟩ := ans_least h
  have hs : setOkB x (cutD q).atoms = true := h1
  have hx : IsP x := progOk_len (p := q) h1 (progOk_atoms hq)
  have hm : modelB (cutD q) x = true := by rw [cut_model hq (wf_low hw hc h3 13) (wf_high hw hc h3)]; exact h2
  rw [ansB_C hs hm, decide_eq_true_eq]
  exact cut_least hq hc hx h3
end
theorem cut_fold {p : ProgD} (h : plainB p = true) : foldB (cutP p) = true ∧ foldD (cutP p) = cutP p := by
 have hF := plainB_fold h
 have hq := foldR_ok hF
 have hok := cutD_ok hq
 rw [cutP_yes h]
 have e1 : extR (cutD (foldD p)) = [] := rfl
 have e2 : asmR (cutD (foldD p)) = [] := by unfold asmR asmTo; rfl
 refine ⟨?_, ?_⟩
 ·rw [foldB_yes hok, decide_eq_true_eq, e1]
  have h2 := (progOk_rules hok).1
  exact h2
 ·unfold foldD
  rw [show (cutD { p with rules := (p.rules ++ extR p) ++ asmR p, exts := [], assume := [] }) = cutD (foldD p) from rfl, e1, e2]
  simp [cutD, foldD]
theorem cut_answers {p : ProgD} (h : plainB p = true) : answersL (cutP p) = answersL p := by
 obtain ⟨h1, h2⟩ := cut_fold h
 have hF := plainB_fold h
 rw [answersL_yes h1, answersL_yes hF, h2, cutP_yes h]
 exact ansTo_congr fun k _ => cut_ans (foldR_ok hF) (plainB_ch h)
theorem cut_fewer {p : ProgD} (h : plainB p = true) : (cutP p).rules.length ≤ (foldD p).rules.length := by
 rw [cutP_yes h]
 exact cutTo_len _ _ _ _

def leftTo (g : RuleD → Option RuleD) (rs : List RuleD) : Nat → List RuleD
 | 0 => []
 | k + 1 => match g (nth rs k) with
  | some y => leftTo g rs k ++ [y]
  | none => leftTo g rs k
section
variable {g : RuleD → Option RuleD} {rs : List RuleD}
theorem leftTo_yes {k : Nat} {y : RuleD} (h : g (nth rs k) = some y) : leftTo g rs (k + 1) = leftTo g rs k ++ [y] := by simp [leftTo, h]
theorem leftTo_no {k : Nat} (h : g (nth rs k) = none) : leftTo g rs (k + 1) = leftTo g rs k := by simp [leftTo, h]
theorem leftTo_len : ∀ k, (leftTo g rs k).length ≤ k
 | 0 => by simp [leftTo]
 | k + 1 => by
  have ih := leftTo_len k
  cases h : g (nth rs k)
  ·rw [leftTo_no h]; omega
  ·rw [leftTo_yes h, List.length_append, List.length_singleton]; omega
end
def StepQ (w : World) (r : RuleD) (fp : List Nat) (g : RuleD → Option RuleD) (e : Ending) (w' : World) : Prop :=
 Below w.heap.size w w' ∧ ((∃ y ecs fp', g r = some y ∧ e = .returned (.tuple #[.agg (List.toArray ecs), .bool true]) ∧ Ow.O w' ecs y fp' ∧ ∀ f ∈ fp', f ∈ fp ∨ w.heap.size ≤ f) ∨
  (g r = none ∧ e = .returned (.tuple #[.agg #[.bool false, .slice none 0 0, .bool false, .int .i64 0, .slice none 0 0], .bool false])))
set_option maxHeartbeats 8000000 in
theorem leftOf_calls {W : World} {a1 : Option Addr} {k1 G : Nat} {u : Value} {rs : List RuleD} {fps : List (List Nat)} {g : RuleD → Option RuleD}
  (ha : 0 < rs.length → a1 = some ⟨G, 0, none⟩) (hnd : fps.flatten.Nodup) (hfl : ∀ f ∈ fps.flatten, f < W.heap.size)
  (hel : ∀ i, i < rs.length → ∃ ecs, Cells W G (i * 5) ecs ∧ Ow.O W ecs (nth rs i) (fps.getD i [])) (hl : rs.length ≤ 60)
  (HS : ∀ i, i < rs.length → ∀ w' ecs, Below W.heap.size W w' → Ow.O w' ecs (nth rs i) (fps.getD i []) → Calls Tryz.prog 201 #[.agg ecs.toArray, u] w' (StepQ w' (nth rs i) (fps.getD i []) g)) :
  Calls Tryz.prog 114 #[.slice a1 rs.length k1, u] W fun e w' => ∃ v, e = .returned v ∧ OwnD W.heap.size (DC fps W.heap.size rs.length) 52 w' v (leftTo g rs rs.length) ∧ Below W.heap.size W w' := by
 obtain ⟨i3, hi3, hz30, hz31, hz32⟩ := info_parts info_copiesRule
 go_enter Tryz.func114, Tryz.ntmps114
 go_wp2
 go_loopw [5, 7, 8, 9, 12] (fun v _ _ _ i wr => ∃ k : Nat, k ≤ rs.length ∧ i = .int .i64 k ∧ OwnD W.heap.size (DC fps W.heap.size k) 52 wr v (leftTo g rs k) ∧ Below W.heap.size W wr) (fun _ _ _ _ i _ => rs.length - (intOf i).toNat)
 case atStart => exact ⟨0, Nat.zero_le _, rfl, OwnD.start (World.ownsRow_nil _ _ _ _) (fun g hg => by simp [Value.ownBlock] at hg), Below.refl _ _⟩
 case round =>
  obtain ⟨k, hk, rfl, ho, hb⟩ := hrel
  have hz := hb.size
  have hct := leftTo_len (g := g) (rs := rs) k
  by_cases hlt : k < rs.length
  ·obtain rfl := ha (by omega)
   obtain ⟨ecs, hC, hO⟩ := hel k hlt
   have HSk := HS k hlt
   have hOr := Ow.kept hO (w' := wr) fun f hf => hb.block f (Ow.lt hO f hf)
   have hRr := Ow.rd hOr
   have hCr := hC.later hb
   have lx := Rd.one hRr
   obtain ⟨e0, e1, e2, e3, e4, rfl⟩ := list5 (Rd.len hRr)
   have so0 := sto Tryz.prog (lx e0 (by simp))
   have so1 := sto Tryz.prog (lx e1 (by simp))
   have so2 := sto Tryz.prog (lx e2 (by simp))
   have so3 := sto Tryz.prog (lx e3 (by simp))
   have so4 := sto Tryz.prog (lx e4 (by simp))
   have u0 := hCr.c0
   have u1 := hCr.c1
   have u2 := hCr.c2
   have u3 := hCr.c3
   have u4 := hCr.c4
   have bA := (Below.refl wr.heap.size wr).alloc (Nat.le_refl _) (.cells #[e0, e1, e2, e3, e4] 52)
   have hOA := Ow.kept hOr (w' := wr.alloc (.cells #[e0, e1, e2, e3, e4] 52)) fun f hf => bA.block f (Ow.lt hOr f hf)
   have hcon := HSk _ _ (hb.alloc hz (.cells #[e0, e1, e2, e3, e4] 52)) hOA
   have zA : (wr.alloc (.cells #[e0, e1, e2, e3, e4] 52)).heap.size = wr.heap.size + 1 := World.size_alloc _ _
   obtain ⟨x0, x1, x2, x3, x4⟩ := cells5 (Cells.new wr [e0, e1, e2, e3, e4] 52)
   have HN := Lib.hid (fun (h : g (nth rs k) = none) => leftTo_no (rs := rs) h)
   have HY := Lib.hid (fun y (h : g (nth rs k) = some y) => leftTo_yes (rs := rs) h)
   have hki : (k : Int) < (rs.length : Int) := by omega
   clear hC hCr hel hO HS HSk lx hRr ha
   go_wp2_with fail
   refine hcon.mono ?_
   rintro e w5 ⟨b5, hst⟩
   have bq := bA.trans (b5.mono (by omega))
   clear u0 u1 u2 u3 u4 x0 x1 x2 x3 x4 so0 so1 so2 so3 so4 hcon hOA
   rcases hst with ⟨y, ecs', fp', hgy, rfl, hO5, hfp'⟩ | ⟨hgn, rfl⟩
   ·have lx := Rd.one (Ow.rd hO5)
    obtain ⟨d0, d1, d2, d3, d4, rfl⟩ := list5 (Rd.len (Ow.rd hO5))
    have so0 := sto Tryz.prog (lx d0 (by simp))
    have so1 := sto Tryz.prog (lx d1 (by simp))
    have so2 := sto Tryz.prog (lx d2 (by simp))
    have so3 := sto Tryz.prog (lx d3 (by simp))
    have so4 := sto Tryz.prog (lx d4 (by simp))
    have bB := bq.alloc bq.size (.cells #[d0, d1, d2, d3, d4] 52)
    have bC := bB.alloc bB.size (.cells #[d0, d1, d2, d3, d4] 52)
    have hcn := Cells.new (w5.alloc (.cells #[d0, d1, d2, d3, d4] 52)) [d0, d1, d2, d3, d4] 52
    rw [World.size_alloc] at hcn
    obtain ⟨x0, x1, x2, x3, x4⟩ := cells5 (Cells.new w5 [d0, d1, d2, d3, d4] 52)
    have hO7 := Ow.kept hO5 (w' := (w5.alloc (.cells #[d0, d1, d2, d3, d4] 52)).alloc (.cells #[d0, d1, d2, d3, d4] 52)) fun f hf => by
     have := Ow.lt hO5 f hf
     exact (Below.heap_alloc _ _ f (by simp; omega)).trans (Below.heap_alloc _ _ f this)
    obtain ⟨a6, q6, w6, r6, o6, b6⟩ := cut_app (c := 1) (ty := 24) i3 _ hi3 hz30 hz31 hz32 rfl ho (by omega) bC hnd hfl hcn hO7 (fun f hf => (hfp' f hf).imp id fun h => by omega) (by omega)
    obtain ⟨av, nv, hv0⟩ := ho.form
    have hE := HY.out y hgy
    have HE := Lib.hid hE
    have O6 := Lib.hid o6
    have B6 := Lib.hid ((hb.trans (bC.mono hz)).trans b6)
    obtain ⟨nT, hnT⟩ : ∃ nT : Nat, nT = (leftTo g rs k).length := ⟨_, rfl⟩
    rw [← hnT] at r6 O6 hv0
    subst hv0
    clear hgy hO5 hfp' lx bB bC hcn hO7 o6 b6 ho hb bq b5 bA hOr hnT hE HN HY
    go_wp2_with (at_builtin; refine wpList_append_of rfl _ _ rfl rfl rfl r6 ?_)
    go_roundw
    case rel => exact ⟨k + 1, by omega, by go_num, by rw [HE.out]; exact O6.out, B6.out⟩
    case measure => simp [intOf]; omega
   ·have HE := Lib.hid (HN.out hgn)
    have bB := bq.alloc bq.size (.cells #[.bool false, .slice none 0 0, .bool false, .int .i64 0, .slice none 0 0] 52)
    have O6 := Lib.hid ((ho.later bB).weak (Nat.le_refl _) fun f hf => DC.up hf)
    have B6 := Lib.hid (hb.trans (bB.mono hz))
    clear hgn ho hb bq b5 bA bB hOr HN HY
    go_wp2
    go_roundw
    case rel => exact ⟨k + 1, by omega, by go_num, by rw [HE.out]; exact O6.out, B6.out⟩
    case measure => simp [intOf]; omega
  ·obtain rfl : k = rs.length := by omega
   go_wp2
   go_ret
   exact ⟨_, rfl, ho, hb⟩

def cutS (t f : List Int) (r : RuleD) : Option RuleD := if cutB t f r then some (cutR t f r) else none
theorem cutS_yes {t f : List Int} {r : RuleD} (h : cutB t f r = true) : cutS t f r = some (cutR t f r) := if_pos h
theorem cutS_no {t f : List Int} {r : RuleD} (h : cutB t f r = false) : cutS t f r = none := by unfold cutS; rw [h]; rfl
theorem leftTo_cut (t f : List Int) (rs : List RuleD) : ∀ k, leftTo (cutS t f) rs k = cutTo t f rs k
 | 0 => rfl
 | k + 1 => by
  have ih := leftTo_cut t f rs k
  cases h : cutB t f (nth rs k)
  ·rw [leftTo_no (cutS_no h), cutTo_no h, ih]
  ·rw [leftTo_yes (cutS_yes h), cutTo_yes h, ih]
set_option maxHeartbeats 4000000 in
theorem cut1_calls {r : RuleD} {w : World} {m1 m2 B1 B2 : Nat} {ecs : List Value} {fp : List Nat} (hO : Ow.O w ecs r fp) (hok : ruleOkB r 12 = true) (h1 : m1 < 4096) (h2 : m2 < 4096)
  (hB1 : w.cell? ⟨B1, 0, none⟩ = some (.int .u16 (m1 : Int))) (hB2 : w.cell? ⟨B2, 0, none⟩ = some (.int .u16 (m2 : Int))) :
  Calls Tryz.prog 115 #[.agg ecs.toArray, .pointer (some ⟨B1, 0, none⟩), .pointer (some ⟨B2, 0, none⟩)] w (StepQ w r fp (cutS (mset m1) (mset m2))) := by
 have hR := Ow.rd hO
 have hR0 := hR
 obtain ⟨d1, d4, rfl, hf, r1, r4⟩ := hR0
 have so1 := sto Tryz.prog r1.one1
 have so4 := sto Tryz.prog r4.one1
 have tA := (Below.refl w.heap.size w).alloc (Nat.le_refl _) (.cells #[.bool r.choice, d1, .bool r.weight, .int .i64 r.bound, d4] 52)
 have tB := tA.alloc tA.size (.cells #[.bool false, .slice none 0 0, .bool false, .int .i64 0, .slice none 0 0] 52)
 have hb1 := alloc_block (w.alloc (.cells #[.bool r.choice, d1, .bool r.weight, .int .i64 r.bound, d4] 52)) #[.bool false, .slice none 0 0, .bool false, .int .i64 0, .slice none 0 0] 52
 rw [World.size_alloc] at hb1
 have zB : ((w.alloc (.cells #[.bool r.choice, d1, .bool r.weight, .int .i64 r.bound, d4] 52)).alloc (.cells #[.bool false, .slice none 0 0, .bool false, .int .i64 0, .slice none 0 0] 52)).heap.size = w.heap.size + 2 := by simp
 have CX := (Cells.new w [.bool r.choice, d1, .bool r.weight, .int .i64 r.bound, d4] 52).alloc (.cells #[.bool false, .slice none 0 0, .bool false, .int .i64 0, .slice none 0 0] 52)
 obtain ⟨x0, x1, x2, x3, x4⟩ := cells5 CX
 have k1 := cell_kept tB hB1
 have k2 := cell_kept tB hB2
 have l1 := cell_lt hB1
 have l2 := cell_lt hB2
 clear r1 r4 hf CX
 go_enter Tryz.func115, Tryz.ntmps115
 go_wp2_with fail
 refine (ruleCut_calls (Rd.mono tB hR) hok h1 h2).mono ?_
 rintro e w5 ⟨hcut, b5⟩
 rw [zB] at hcut
 have hb5 := (b5.block (w.heap.size + 1) (by omega)).trans hb1
 have hz5 := b5.size
 rw [zB] at hz5
 obtain ⟨z0, z1, z2, z3, z4⟩ := cells5 (cellsAt hb5)
 have hfz := fun j => frozen_of_row _ (w.heap.size + 1) j _ _ hb5
 have tw := tB.step b5
 clear x0 x1 x2 x3 x4 k1 k2 hb1 b5 tA tB hB1 hB2 hb5
 rcases hcut with ⟨hcB, v4, rfl, hv4⟩ | ⟨hcB, rfl⟩
 ·obtain ⟨fp', hO5, hfp'⟩ : ∃ fp', Ow.O w5 [.bool r.choice, d1, .bool r.weight, .int .i64 r.bound, v4] (cutR (mset m1) (mset m2) r) fp' ∧ ∀ f ∈ fp', f ∈ fp ∨ w.heap.size + 2 ≤ f := by
   rcases hv4 with ⟨hw, rfl⟩ | ⟨hw, hv⟩
   ·rw [cutR_w hw]
    exact ⟨_, Ow.kept hO fun f hf => tw.block f (Ow.lt hO f hf), fun f hf => .inl hf⟩
   ·rw [cutR_n hw]
    obtain ⟨fp', q1, q2⟩ := own_body (ys := bodyTo (mset m1) (mset m2) r.body r.body.length) hO tw hv (by omega)
    exact ⟨fp', q1, q2⟩
  have lx := Rd.one (Ow.rd hO5)
  have s4 := sto Tryz.prog (lx v4 (by simp))
  have hO6 := Ow.kept hO5 (w' := put w5 (w.heap.size + 1) 0 [.bool r.choice, d1, .bool r.weight, .int .i64 r.bound, v4]) fun f hf => (put_chg (w.heap.size + 1) [.bool r.choice, d1, .bool r.weight, .int .i64 r.bound, v4] w5 0).block f (by
   rcases hfp' f hf with h | h
   ·have := Ow.lt hO f h
    simp
    omega
   ·simp
    omega)
  have HE := Lib.hid (cutS_yes hcB)
  have HT := Lib.hid tw
  have HF := Lib.hid hfp'
  have HO := Lib.hid hO6
  clear hv4 hO5 hfp' lx hO6 tw hcB hO hR
  go_wp2
  refine bodyPost_ret (v := .tuple #[.agg #[.bool r.choice, d1, .bool r.weight, .int .i64 r.bound, v4], .bool true])
   (by simp [results, Tryz.results115, go_sem, z0, z1, z2, z3, z4]) rfl ⟨?_, .inl ⟨_, _, fp', HE.out, rfl, HO.out, fun f hf => (HF.out f hf).imp id fun h => by omega⟩⟩
  exact HT.out.trans ((put_chg (w.heap.size + 1) [.bool r.choice, d1, .bool r.weight, .int .i64 r.bound, v4] w5 0).below fun g hg => by simp at hg; omega)
 ·have HE := Lib.hid (cutS_no hcB)
  have HT := Lib.hid tw
  clear tw hcB hO hR
  go_wp2
  refine bodyPost_ret (v := .tuple #[.agg #[.bool false, .slice none 0 0, .bool false, .int .i64 0, .slice none 0 0], .bool false])
   (by simp [results, Tryz.results115, go_sem, z0, z1, z2, z3, z4]) rfl ⟨?_, .inr ⟨HE.out, rfl⟩⟩
  exact HT.out.trans ((put_chg (w.heap.size + 1) [.bool false, .slice none 0 0, .bool false, .int .i64 0, .slice none 0 0] w5 0).below fun g hg => by simp at hg; omega)

set_option maxHeartbeats 8000000 in
theorem afterCut_calls {r : RuleD} {w : World} {m1 m2 B1 B2 gs cp : Nat} {ecs : List Value} {fp : List Nat} (hO : Ow.O w ecs r fp) (hok : ruleOkB r 12 = true) (h1 : m1 < 4096) (h2 : m2 < 4096)
  (hs : w.cell? ⟨gs, 0, none⟩ = some (.func (.func 115) #[] #[.pointer (some ⟨B1, 0, none⟩), .pointer (some ⟨B2, 0, none⟩)]))
  (hB1 : w.cell? ⟨B1, 0, none⟩ = some (.int .u16 (m1 : Int))) (hB2 : w.cell? ⟨B2, 0, none⟩ = some (.int .u16 (m2 : Int))) :
  Calls Tryz.prog 201 #[.agg ecs.toArray, .slice (some ⟨gs, 0, none⟩) 1 cp] w (StepQ w r fp (cutS (mset m1) (mset m2))) := by
 have hR := Ow.rd hO
 have hR0 := hR
 obtain ⟨d1, d4, rfl, hf, r1, r4⟩ := hR0
 have so1 := sto Tryz.prog r1.one1
 have so4 := sto Tryz.prog r4.one1
 have tA := (Below.refl w.heap.size w).alloc (Nat.le_refl _) (.cells #[.bool r.choice, d1, .bool r.weight, .int .i64 r.bound, d4] 52)
 have tB := tA.alloc tA.size (.cells #[.bool false, .slice none 0 0, .bool false, .int .i64 0, .slice none 0 0] 52)
 have hb0 := (Below.heap_alloc (w.alloc (.cells #[.bool r.choice, d1, .bool r.weight, .int .i64 r.bound, d4] 52)) (.cells #[.bool false, .slice none 0 0, .bool false, .int .i64 0, .slice none 0 0] 52) w.heap.size (by simp)).trans (alloc_block w #[.bool r.choice, d1, .bool r.weight, .int .i64 r.bound, d4] 52)
 have hb1 := alloc_block (w.alloc (.cells #[.bool r.choice, d1, .bool r.weight, .int .i64 r.bound, d4] 52)) #[.bool false, .slice none 0 0, .bool false, .int .i64 0, .slice none 0 0] 52
 rw [World.size_alloc] at hb1
 have zB : ((w.alloc (.cells #[.bool r.choice, d1, .bool r.weight, .int .i64 r.bound, d4] 52)).alloc (.cells #[.bool false, .slice none 0 0, .bool false, .int .i64 0, .slice none 0 0] 52)).heap.size = w.heap.size + 2 := by simp
 have CX := (Cells.new w [.bool r.choice, d1, .bool r.weight, .int .i64 r.bound, d4] 52).alloc (.cells #[.bool false, .slice none 0 0, .bool false, .int .i64 0, .slice none 0 0] 52)
 obtain ⟨x0, x1, x2, x3, x4⟩ := cells5 CX
 have k1 := cell_kept tB hB1
 have k2 := cell_kept tB hB2
 have k3 := cell_kept tB hs
 have l1 := cell_lt hB1
 have l2 := cell_lt hB2
 have l3 := cell_lt hs
 have hOB := Ow.kept hO fun f hf => tB.block f (Ow.lt hO f hf)
 clear r1 r4 hf CX
 go_enter Tryz.func201, Tryz.ntmps201
 go_wp2
 refine wp_loop_rounds 2 ?_
 rw [rounds_succ]
 go_wp2_with fail
 go_at_call 115
 refine (cut1_calls hOB hok h1 h2 k1 k2).mono ?_
 rintro e w5 ⟨b5, hst⟩
 have hz5 := b5.size
 rw [zB] at hz5
 have hbp := (b5.block w.heap.size (by omega)).trans hb0
 have hbr := (b5.block (w.heap.size + 1) (by omega)).trans hb1
 have tw := tB.step b5
 clear x0 x1 x2 x3 x4 k1 k2 hb0 hb1 b5 tA tB hB1 hB2
 rcases hst with ⟨y, ecs', fp', hgy, rfl, hO5, hfp'⟩ | ⟨hgn, rfl⟩
 ·have lx := Rd.one (Ow.rd hO5)
  obtain ⟨v0, v1, v2, v3, v4, rfl⟩ := list5 (Rd.len (Ow.rd hO5))
  have sv0 := sto Tryz.prog (lx v0 (by simp))
  have sv1 := sto Tryz.prog (lx v1 (by simp))
  have sv2 := sto Tryz.prog (lx v2 (by simp))
  have sv3 := sto Tryz.prog (lx v3 (by simp))
  have sv4 := sto Tryz.prog (lx v4 (by simp))
  rw [zB] at hfp'
  have b8 := (Below.refl w5.heap.size w5).alloc (Nat.le_refl _) (.cells #[v0, v1, v2, v3, v4] 52)
  have hbp8 := (Below.heap_alloc w5 (.cells #[v0, v1, v2, v3, v4] 52) w.heap.size (by omega)).trans hbp
  have hbr8 := (Below.heap_alloc w5 (.cells #[v0, v1, v2, v3, v4] 52) (w.heap.size + 1) (by omega)).trans hbr
  have hO8 := Ow.kept hO5 fun f hf => b8.block f (Ow.lt hO5 f hf)
  have tw8 := tw.trans (b8.mono (by omega))
  have z8 : (w5.alloc (.cells #[v0, v1, v2, v3, v4] 52)).heap.size = w5.heap.size + 1 := World.size_alloc _ _
  have l8 : w5.heap.size < (w5.alloc (.cells #[v0, v1, v2, v3, v4] 52)).heap.size := by omega
  have C8 := Cells.new w5 [v0, v1, v2, v3, v4] 52
  have hnf : ∀ f ∈ fp', f ≠ w.heap.size ∧ f ≠ w.heap.size + 1 := fun f hf => by
   rcases hfp' f hf with h | h
   ·have := Ow.lt hO f h; omega
   ·omega
  obtain ⟨c0, c1, c2, c3, c4⟩ := cells5 C8
  obtain ⟨x0, x1, x2, x3, x4⟩ := cells5 (cellsAt hbp8)
  have hfx := fun j => frozen_of_row _ w.heap.size j _ _ hbp8
  clear C8
  have HN := Lib.hid hnf
  have HO := Lib.hid hO8
  have HG := Lib.hid hgy
  have HT := Lib.hid tw8
  have HF := Lib.hid hfp'
  obtain ⟨z0, z1, z2, z3, z4⟩ := cells5 (cellsAt hbr8)
  have hfz := fun j => frozen_of_row _ (w.heap.size + 1) j _ _ hbr8
  clear hnf hO8 hgy tw8 hfp' hbp hbr hbp8 hbr8 lx b8 hO5 tw hO hR hOB so1 so4
  go_wp2
  rw [rounds_succ]
  go_wp2
  refine bodyPost_ret (v := .tuple #[.agg #[v0, v1, v2, v3, v4], .bool true])
   (by simp [results, Tryz.results201, go_sem, z0, z1, z2, z3, z4]) rfl ⟨?_, .inl ⟨y, [v0, v1, v2, v3, v4], fp', HG.out, rfl, ?_, fun f hf => (HF.out f hf).imp id fun h => by omega⟩⟩
  ·exact (HT.out.trans ((put_chg w.heap.size [v0, v1, v2, v3, v4] (w5.alloc (.cells #[v0, v1, v2, v3, v4] 52)) 0).below fun g hg => by simp at hg; omega)).trans ((put_chg (w.heap.size + 1) [v0, v1, v2, v3, v4] (put (w5.alloc (.cells #[v0, v1, v2, v3, v4] 52)) w.heap.size 0 [v0, v1, v2, v3, v4]) 0).below fun g hg => by simp at hg; omega)
  ·exact Ow.kept HO.out (w' := put (put (w5.alloc (.cells #[v0, v1, v2, v3, v4] 52)) w.heap.size 0 [v0, v1, v2, v3, v4]) (w.heap.size + 1) 0 [v0, v1, v2, v3, v4]) fun f hf => ((put_chg (w.heap.size + 1) [v0, v1, v2, v3, v4] (put (w5.alloc (.cells #[v0, v1, v2, v3, v4] 52)) w.heap.size 0 [v0, v1, v2, v3, v4]) 0).block f (by have := HN.out f hf; simp; omega)).trans ((put_chg w.heap.size [v0, v1, v2, v3, v4] (w5.alloc (.cells #[v0, v1, v2, v3, v4] 52)) 0).block f (by have := HN.out f hf; simp; omega))
 ·have hbr8 := (Below.heap_alloc w5 (.cells #[.bool false, .slice none 0 0, .bool false, .int .i64 0, .slice none 0 0] 52) (w.heap.size + 1) (by omega)).trans hbr
  obtain ⟨z0, z1, z2, z3, z4⟩ := cells5 (cellsAt hbr8)
  have hfz := fun j => frozen_of_row _ (w.heap.size + 1) j _ _ hbr8
  have HT := Lib.hid (tw.alloc tw.size (.cells #[.bool false, .slice none 0 0, .bool false, .int .i64 0, .slice none 0 0] 52))
  have HG := Lib.hid hgn
  clear hbp hbr hbr8 tw hgn hO hR hOB so1 so4
  go_wp2
  refine bodyPost_ret (v := .tuple #[.agg #[.bool false, .slice none 0 0, .bool false, .int .i64 0, .slice none 0 0], .bool false])
   (by simp [results, Tryz.results201, go_sem, z0, z1, z2, z3, z4]) rfl ⟨?_, .inr ⟨HG.out, rfl⟩⟩
  exact HT.out.trans ((put_chg (w.heap.size + 1) [.bool false, .slice none 0 0, .bool false, .int .i64 0, .slice none 0 0] _ 0).below fun g hg => by simp at hg; omega)


set_option maxHeartbeats 8000000 in
theorem implCut_calls {cs : List Value} {p : ProgD} {w : World} (h : Rd.R w cs p) :
  Calls Tryz.prog 50 #[.agg cs.toArray] w fun e w' => ∃ cs', e = .returned (.tuple #[.agg cs'.toArray, .bool (plainB p)]) ∧ Own w.heap.size w' cs' (cutP p) ∧ Below w.heap.size w w' := by
 obtain ⟨i3, hi3, hz30, hz31, hz32⟩ := info_parts info_copiesRule
 obtain ⟨p0, p1, p2, p3, p4, p5, p6, p7, rfl⟩ := list8 (Rd.len h)
 have t0 : Below w.heap.size w ((w.alloc (.cells #[p0, p1, p2, p3, p4, p5, p6, p7] 30)).alloc (.cells #[.int .i64 0, .slice none 0 0, .slice none 0 0, .bool false, .slice none 0 0, .slice none 0 0, .slice none 0 0, .slice none 0 0] 30)) := ((Below.refl _ _).alloc (by simp) _).alloc (by simp) _
 have hb0 := alloc_block (w.alloc (.cells #[p0, p1, p2, p3, p4, p5, p6, p7] 30)) #[.int .i64 0, .slice none 0 0, .slice none 0 0, .bool false, .slice none 0 0, .slice none 0 0, .slice none 0 0, .slice none 0 0] 30
 rw [World.size_alloc] at hb0
 have hzs : ((w.alloc (.cells #[p0, p1, p2, p3, p4, p5, p6, p7] 30)).alloc (.cells #[.int .i64 0, .slice none 0 0, .slice none 0 0, .bool false, .slice none 0 0, .slice none 0 0, .slice none 0 0, .slice none 0 0] 30)).heap.size = w.heap.size + 2 := by simp
 go_enter Tryz.func50, Tryz.ntmps50
 go_wp2_with fail
 refine (plain_calls (Rd.mono t0 h)).mono ?_
 rintro e w1 ⟨cs1, he, o1, b1⟩
 rw [hzs] at o1
 have hb1 := (b1.block (w.heap.size + 1) (by rw [hzs]; omega)).trans hb0
 have hz1 : w.heap.size + 2 ≤ w1.heap.size := by have := b1.size; omega
 cases hP : plainB p
 case false =>
  have HP := Lib.hid hP
  have HC := Lib.hid (cutP_no hP)
  rw [hP] at he
  subst he
  have t1 := t0.step b1
  have l1 := Rd.one o1.rd
  obtain ⟨x0, x1, x2, x3, x4, x5, x6, x7, rfl⟩ := list8 (Rd.len o1.rd)
  have st0 := sto Tryz.prog (l1 x0 (by simp))
  have st1 := sto Tryz.prog (l1 x1 (by simp))
  have st2 := sto Tryz.prog (l1 x2 (by simp))
  have st3 := sto Tryz.prog (l1 x3 (by simp))
  have st4 := sto Tryz.prog (l1 x4 (by simp))
  have st5 := sto Tryz.prog (l1 x5 (by simp))
  have st6 := sto Tryz.prog (l1 x6 (by simp))
  have st7 := sto Tryz.prog (l1 x7 (by simp))
  have o1 := o1.alloc (.cells #[x0, x1, x2, x3, x4, x5, x6, x7] 30)
  have CX1 := Cells.new w1 [x0, x1, x2, x3, x4, x5, x6, x7] 30
  have t1 := t1.alloc t1.size (.cells #[x0, x1, x2, x3, x4, x5, x6, x7] 30)
  clear l1
  have hb2 := (Below.heap_alloc w1 (.cells #[x0, x1, x2, x3, x4, x5, x6, x7] 30) (w.heap.size + 1) (by omega)).trans hb1
  obtain ⟨z0, z1, z2, z3, z4, z5, z6, z7⟩ := cells8 (cellsAt hb2)
  have hfz := fun j => frozen_of_row _ (w.heap.size + 1) j _ _ hb2
  clear o1 CX1 hb0 hb1 b1 hP
  go_wp2
  exact bodyPost_ret (v := .tuple #[.agg #[.int .i64 0, .slice none 0 0, .slice none 0 0, .bool false, .slice none 0 0, .slice none 0 0, .slice none 0 0, .slice none 0 0], .bool false])
   (by simp [results, Tryz.results50, go_sem, z0, z1, z2, z3, z4, z5, z6, z7]) rfl ⟨_, by rw [HP.out], by rw [HC.out]; exact own_zero _ _, by
   repeat (refine Below.setCell ?_ (by simp; try omega) _)
   exact t1⟩
 case true =>
  have HP := Lib.hid hP
  have HC := Lib.hid (cutP_yes hP)
  have hok : progOkB (foldD p) = true := foldR_ok (plainB_fold hP)
  have hr12 := Lib.hid (rules12 hok)
  have nr := (progOk_rules hok).1
  have HCH := Lib.hid (plainB_ch hP)
  rw [hP] at he
  rw [plainP_yes hP] at o1
  subst he
  clear hP hok
  have oR := o1.rd
  obtain ⟨c1, c2, c4, c5, c6, c7, rfl, -, g1, g2, g4, g5, g6, g7⟩ := oR
  have st1 := sto Tryz.prog g1.one1
  have st2 := sto Tryz.prog g2.one1
  have st4 := sto Tryz.prog g4.one1
  have st5 := sto Tryz.prog g5.one1
  have st6 := sto Tryz.prog g6.one1
  have st7 := sto Tryz.prog g7.one1
  clear g1 g2 g4 g5 g6 g7
  obtain ⟨a1, k1, g, fps, fpR, rfl, ha, hnd, hfl, hel, hRest, hRl, hfa⟩ := own_rules o1
  have hbA := (Below.refl w1.heap.size w1).alloc (Nat.le_refl _) (.cells #[.int .i64 (foldD p).atoms, .slice a1 (foldD p).rules.length k1, c2, .bool (foldD p).projOn, c4, c5, c6, c7] 30)
  have t1 := (t0.step b1).step hbA
  have CX1 := Cells.new w1 [.int .i64 (foldD p).atoms, .slice a1 (foldD p).rules.length k1, c2, .bool (foldD p).projOn, c4, c5, c6, c7] 30
  have hG0 := alloc_block w1 #[.int .i64 (foldD p).atoms, .slice a1 (foldD p).rules.length k1, c2, .bool (foldD p).projOn, c4, c5, c6, c7] 30
  have o1 := o1.alloc (.cells #[.int .i64 (foldD p).atoms, .slice a1 (foldD p).rules.length k1, c2, .bool (foldD p).projOn, c4, c5, c6, c7] 30)
  obtain ⟨y0, y1, y2, y3, y4, y5, y6, y7⟩ := cells8 CX1
  go_wp2_with fail
  refine (wellP_calls o1.rd hr12.out HCH.out).mono ?_
  rintro e w2 ⟨m1, m2, rfl, ⟨hm1, hl1⟩, ⟨hm2, hl2⟩, b2⟩
  have hz2 := b2.size
  rw [World.size_alloc] at hz2
  have hb12 : ∀ f, f < w1.heap.size → w2.heap[f]? = w1.heap[f]? := fun f hf => (b2.block f (by rw [World.size_alloc]; omega)).trans (Below.heap_alloc w1 _ f hf)
  have hG2 := (b2.block w1.heap.size (by simp)).trans hG0
  have hR2 := (hb12 (w.heap.size + 1) (by omega)).trans hb1
  have t2 := t1.step b2
  have HT := Lib.hid hl1
  have HF := Lib.hid hl2
  obtain ⟨n, hn⟩ : ∃ n : Nat, n = (foldD p).rules.length := ⟨_, rfl⟩
  have B12 := Lib.hid hb12
  clear hl1 hl2 o1 CX1 hG0 hb0 hb1 b1 b2 t0 t1 hbA y0 y1 y2 y3 y4 y5 y6 y7 hb12
  obtain ⟨y0, y1, y2, y3, y4, y5, y6, y7⟩ := cells8 (cellsAt hG2)
  have hmf : ∀ (fn : Fn) (first cap : Array Value) (w : World), (Instr.makeFunc fn first cap).run Tryz.prog w = .ok (.func fn first cap) w := fun _ _ _ _ => rfl
  have hlt1 : w1.heap.size < w2.heap.size := by omega
  go_wp2_with fail
  generalize hW : World.alloc (World.alloc (World.alloc w2 _) _) _ = W
  have bW : Below w2.heap.size w2 W := by
   rw [← hW]
   exact ((((Below.refl w2.heap.size w2).alloc (Nat.le_refl _) _).alloc (by simp) _).alloc (by simp; omega) _)
  have hzW : W.heap.size = w2.heap.size + 3 := by rw [← hW]; simp
  have hB1 : W.cell? ⟨w2.heap.size, 0, none⟩ = some (.int .u16 (m1 : Int)) := by
   rw [← hW]
   exact (((Cells.new w2 [.int .u16 (m1 : Int)] _).alloc _).alloc _).c0
  have hB2 : W.cell? ⟨w2.heap.size + 1, 0, none⟩ = some (.int .u16 (m2 : Int)) := by
   rw [← hW, ← World.size_alloc w2 (.cells #[.int .u16 (m1 : Int)] 93)]
   exact ((Cells.new (w2.alloc (.cells #[.int .u16 (m1 : Int)] 93)) [.int .u16 (m2 : Int)] _).alloc _).c0
  have hs : W.cell? ⟨w2.heap.size + 2, 0, none⟩ = some (.func (.func 115) #[] #[.pointer (some ⟨w2.heap.size, 0, none⟩), .pointer (some ⟨w2.heap.size + 1, 0, none⟩)]) := by
   have hz : ((w2.alloc (.cells #[.int .u16 (m1 : Int)] 93)).alloc (.cells #[.int .u16 (m2 : Int)] 93)).heap.size = w2.heap.size + 2 := by simp
   rw [← hW, ← hz]
   exact (Cells.new _ [.func (.func 115) #[] #[.pointer (some ⟨w2.heap.size, 0, none⟩), .pointer (some ⟨w2.heap.size + 1, 0, none⟩)]] _).c0
  have helW : ∀ i, i < (foldD p).rules.length → ∃ ecs, Cells W g (i * 5) ecs ∧ Ow.O W ecs (nth (foldD p).rules i) (fps.getD i []) := fun i hi => by
   obtain ⟨ecs, hC, hO⟩ := hel i hi
   have hgl : g < w1.heap.size := by
    obtain ⟨e0, e1, e2, e3, e4, he5⟩ := list5 (Rd.len (Ow.rd hO))
    rw [he5] at hC
    exact hC.lt
   have hbk : ∀ f, f < w1.heap.size → W.heap[f]? = w1.heap[f]? := fun f hf => (bW.block f (by omega)).trans (B12.out f hf)
   exact ⟨ecs, hC.kept (hbk g hgl), Ow.kept hO fun f hf => hbk f (Ow.lt hO f hf)⟩
  have HS : ∀ i, i < (foldD p).rules.length → ∀ w' ecs, Below W.heap.size W w' → Ow.O w' ecs (nth (foldD p).rules i) (fps.getD i []) → Calls Tryz.prog 201 #[.agg ecs.toArray, .slice (some ⟨w2.heap.size + 2, 0, none⟩) 1 1] w' (StepQ w' (nth (foldD p).rules i) (fps.getD i []) (cutS (mset m1) (mset m2))) :=
   fun i hi w' ecs hb' hO' => afterCut_calls hO' (hr12.out _ (nth_mem hi)) hm1 hm2 (cell_kept hb' hs) (cell_kept hb' hB1) (cell_kept hb' hB2)
  refine (leftOf_calls ha hnd (fun f hf => by have := (hfl f hf).2; omega) helW nr HS).mono ?_
  rintro e w5 ⟨v, rfl, ho, b5⟩
  rw [leftTo_cut] at ho
  have hz5 := b5.size
  have hGr := (b5.block w1.heap.size (by omega)).trans ((bW.block w1.heap.size (by omega)).trans hG2)
  have hRr := (b5.block (w.heap.size + 1) (by omega)).trans ((bW.block (w.heap.size + 1) (by omega)).trans hR2)
  clear y0 y1 y2 y3 y4 y5 y6 y7
  obtain ⟨y0, y1, y2, y3, y4, y5, y6, y7⟩ := cells8 (cellsAt hGr)
  obtain ⟨z0, z1, z2, z3, z4, z5, z6, z7⟩ := cells8 (cellsAt hRr)
  have hfy := fun j => frozen_of_row _ w1.heap.size j _ _ hGr
  have hfz := fun j => frozen_of_row _ (w.heap.size + 1) j _ _ hRr
  have hPR := own_cut (q := foldD p) hRest (fun f hf => ((b5.block f (by omega)).trans (bW.block f (by omega))).trans (B12.out f hf)) hRl hfa (fun f hf => (hfl f hf).1) (by omega) (by omega) ho
  have hnG : ¬ DC fps W.heap.size (foldD p).rules.length w1.heap.size := fun hd => by
   rcases hd with hd | hd
   ·have := (hfl _ (take_in hd)).2; omega
   ·omega
  have hnR : ¬ DC fps W.heap.size (foldD p).rules.length (w.heap.size + 1) := fun hd => by
   rcases hd with hd | hd
   ·have := (hfl _ (take_in hd)).1; omega
   ·omega
  obtain ⟨av, nv, rfl⟩ := ho.form
  obtain ⟨nT, hnT⟩ : ∃ nT : Nat, nT = (cutTo (mset m1) (mset m2) (foldD p).rules (foldD p).rules.length).length := ⟨_, rfl⟩
  rw [← hnT] at hPR ⊢
  have PR := Lib.hid hPR
  have NG := Lib.hid hnG
  have NR := Lib.hid hnR
  have TW := Lib.hid ((t2.step bW).step b5)
  clear hPR hnG hnR ho b5 bW hnT hGr hRr hs hB1 hB2 HS helW hW
  go_wp2
  refine bodyPost_ret (v := .tuple #[.agg #[.int .i64 (foldD p).atoms, .slice av nT nv, c2, .bool (foldD p).projOn, c4, c5, c6, c7], .bool true])
   (by simp [results, Tryz.results50, go_sem, z0, z1, z2, z3, z4, z5, z6, z7]) rfl ⟨_, by rw [HP.out], ?_, ?_⟩
  ·rw [HC.out]
   unfold cutD
   rw [← HT.out, ← HF.out]
   exact (((PR.out.far (q := ⟨w1.heap.size, 1, none⟩) NG.out (.inr (Nat.le_refl _)) (.slice av nT nv)).chg (put_chg (w.heap.size + 1) [.int .i64 (foldD p).atoms, .slice av nT nv, c2, .bool (foldD p).projOn, c4, c5, c6, c7] _ 0) NR.out (.inl (by omega))).own).mono (by omega)
  ·exact (Below.setCell TW.out (p := ⟨w1.heap.size, 1, none⟩) (by show w.heap.size ≤ w1.heap.size; omega) (.slice av nT nv)).trans ((put_chg (w.heap.size + 1) [.int .i64 (foldD p).atoms, .slice av nT nv, c2, .bool (foldD p).projOn, c4, c5, c6, c7] _ 0).below fun g hg => by simp at hg; omega)


end Go.Proofs.YthfbnalgnnjbbaaGreat
