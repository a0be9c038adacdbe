/-
  The well-founded part: what it is, what the program and spec answer; a program cut by it. No condition of its own.
-/
import Derived.Test.YthfbnalgnnjbbaaGreatAnsD
import Derived.Test.YthfbnalgnnjbbaaGreatMak
import Derived.Test.YthfbnalgnnjbbaaGreatAnsL
import Derived.Test.YthfbnalgnnjbbaaGreatBothI
import Derived.Test.YthfbnalgnnjbbaaGreatAnsU
import Derived.Test.YthfbnalgnnjbbaaGreatAppend
import Derived.Test.YthfbnalgnnjbbaaGreatOwnD
import Derived.Test.YthfbnalgnnjbbaaGreatPRow
namespace Go.Proofs.YthfbnalgnnjbbaaGreat
set_option linter.unusedVariables false
set_option linter.unusedSimpArgs false
open Go.RowKit
set_option maxRecDepth 100000

/-! ### Cut -/
/-! ### WfD -/
def noCh (r : RuleD) : Bool := !r.choice
def plainB (p : ProgD) : Bool := foldB p && (foldD p).rules.all noCh
theorem plainB_A {p : ProgD} (h : foldB p = false) : plainB p = false := by simp only [plainB, h, Bool.false_and]
theorem plainB_B {p : ProgD} (h : foldB p = true) : plainB p = (foldD p).rules.all noCh := by simp only [plainB, h, Bool.true_and]
theorem plainB_fold {p : ProgD} (h : plainB p = true) : foldB p = true := by
  unfold plainB at h
  cases hf : foldB p
  · rw [hf] at h; cases h
  · rfl
theorem plainB_ch {p : ProgD} (h : plainB p = true) : ∀ r ∈ (foldD p).rules, r.choice = false := by
  rw [plainB_B (plainB_fold h), List.all_eq_true] at h
  intro r hr
  have := h r hr
  simpa [noCh] using this

/-- What must be, as far as it is known after n rounds. -/
def wfIt (rs : List RuleD) : Nat → List Int
  | 0 => []
  | n + 1 => leastL rs (leastL rs (wfIt rs n) false) false
def wfT (rs : List RuleD) : List Int := wfIt rs 13
def wfF (rs : List RuleD) : List Int := leastL rs (wfT rs) false
section
variable {rs : List RuleD}
theorem wfIt_isP : ∀ n, IsP (wfIt rs n)
  | 0 => isP_nil
  | _ + 1 => least_isP
theorem wfIt_sub (hw : Wts rs) (hc : ∀ r ∈ rs, r.choice = false) : ∀ n, Sub (wfIt rs n) (wfIt rs (n + 1))
  | 0 => fun a _ _ h => by simp [wfIt, hasB] at h
  | n + 1 => least_anti hw hc (least_anti hw hc (wfIt_sub hw hc n))
theorem wfIt_len (hw : Wts rs) (hc : ∀ r ∈ rs, r.choice = false) (n : Nat) : (wfIt rs n).length ≤ (wfIt rs (n + 1)).length ∧ ((wfIt rs (n + 1)).length = (wfIt rs n).length → wfIt rs (n + 1) = wfIt rs n) := by
  have := (wfIt_isP (rs := rs) n).len (wfIt_isP (n + 1)) (wfIt_sub hw hc n)
  exact ⟨this.1, fun e => (this.2 e.symm).symm⟩
theorem wfIt_stay {n : Nat} (h : wfIt rs (n + 1) = wfIt rs n) : ∀ k, wfIt rs (n + k) = wfIt rs n
  | 0 => rfl
  | k + 1 => by
    have ih := wfIt_stay h k
    show leastL rs (leastL rs (wfIt rs (n + k)) false) false = _
    rw [ih]
    exact h
theorem wfIt_end {n : Nat} (hn : n ≤ 13) (h : wfIt rs (n + 1) = wfIt rs n) : wfIt rs n = wfT rs := by
  have h2 := wfIt_stay h (13 - n)
  rw [show n + (13 - n) = 13 by omega] at h2
  exact h2.symm
/-- A round that changes something makes it longer. -/
theorem wfIt_more (hw : Wts rs) (hc : ∀ r ∈ rs, r.choice = false) {n : Nat} (hn : n ≤ (wfIt rs n).length) (h : wfIt rs (n + 1) ≠ wfIt rs n) : n + 1 ≤ (wfIt rs (n + 1)).length ∧ (wfIt rs n).length < (wfIt rs (n + 1)).length := by
  obtain ⟨h1, h2⟩ := wfIt_len hw hc n
  have : (wfIt rs (n + 1)).length ≠ (wfIt rs n).length := fun e => h (h2 e)
  omega
theorem wfIt_grow (hw : Wts rs) (hc : ∀ r ∈ rs, r.choice = false) : ∀ n, n ≤ (wfIt rs n).length ∨ wfIt rs (n + 1) = wfIt rs n
  | 0 => .inl (Nat.zero_le _)
  | n + 1 => by
    rcases wfIt_grow hw hc n with h | h
    · by_cases e : wfIt rs (n + 1) = wfIt rs n
      · exact .inr ((wfIt_stay e 2).trans (wfIt_stay e 1).symm)
      · exact .inl (wfIt_more hw hc h e).1
    · exact .inr ((wfIt_stay h 2).trans (wfIt_stay h 1).symm)
/-- A round more changes nothing. -/
theorem wfT_fix (hw : Wts rs) (hc : ∀ r ∈ rs, r.choice = false) : leastL rs (wfF rs) false = wfT rs := by
  rcases wfIt_grow hw hc 13 with h | h
  · have := (wfIt_isP (rs := rs) 13).le
    omega
  · exact h
theorem wfT_isP : IsP (wfT rs) := wfIt_isP 13
theorem wfF_isP : IsP (wfF rs) := least_isP
end
def wfTR (p : ProgD) : List Int := if plainB p then wfT (foldD p).rules else []
def wfFR (p : ProgD) : List Int := if plainB p then wfF (foldD p).rules else []
theorem wfTR_no {p : ProgD} (h : plainB p = false) : wfTR p = [] := by simp [wfTR, h]
theorem wfTR_yes {p : ProgD} (h : plainB p = true) : wfTR p = wfT (foldD p).rules := by simp [wfTR, h]
theorem wfFR_no {p : ProgD} (h : plainB p = false) : wfFR p = [] := by simp [wfFR, h]
theorem wfFR_yes {p : ProgD} (h : plainB p = true) : wfFR p = wfF (foldD p).rules := by simp [wfFR, h]
theorem wfTR_len (p : ProgD) : (wfTR p).length ≤ 12 := by
  unfold wfTR; split
  · exact wfT_isP.le
  · simp
theorem wfFR_len (p : ProgD) : (wfFR p).length ≤ 12 := by
  unfold wfFR; split
  · exact wfF_isP.le
  · simp
def setlB (p : ProgD) : Bool := plainB p && decide (wfTR p = wfFR p)
theorem setlB_no {p : ProgD} (h : plainB p = false) : setlB p = false := by simp only [setlB, h, Bool.false_and]
theorem setlB_yes {p : ProgD} (h : plainB p = true) : setlB p = decide (wfT (foldD p).rules = wfF (foldD p).rules) := by simp only [setlB, h, Bool.true_and, wfTR_yes h, wfFR_yes h]

/-- A literal for which a rule goes; one that is left out. -/
def goesL (t f : List Int) (q : Int × Int) : Bool := (decide (0 < q.1) && !hasB f q.1) || (decide (q.1 < 0) && hasB t (-q.1))
def leftL (t f : List Int) (q : Int × Int) : Bool := (decide (0 < q.1) && hasB t q.1) || (decide (q.1 < 0) && !hasB f (-q.1))
def bodyTo (t f : List Int) (b : List (Int × Int)) : Nat → List (Int × Int)
  | 0 => []
  | k + 1 => if goesL t f (nth b k) || leftL t f (nth b k) then bodyTo t f b k else bodyTo t f b k ++ [nth b k]
theorem bodyTo_out {t f : List Int} {b : List (Int × Int)} {k : Nat} (h : (goesL t f (nth b k) || leftL t f (nth b k)) = true) : bodyTo t f b (k + 1) = bodyTo t f b k := if_pos h
theorem bodyTo_in {t f : List Int} {b : List (Int × Int)} {k : Nat} (h : (goesL t f (nth b k) || leftL t f (nth b k)) = false) : bodyTo t f b (k + 1) = bodyTo t f b k ++ [nth b k] := by
  show (if (goesL t f (nth b k) || leftL t f (nth b k)) = true then _ else _) = _
  rw [h]; rfl
theorem bodyTo_len (t f : List Int) (b : List (Int × Int)) : ∀ k, (bodyTo t f b k).length ≤ k
  | 0 => by simp [bodyTo]
  | k + 1 => by
    have := bodyTo_len t f b k
    unfold bodyTo; split <;> simp <;> omega
def goesTo (t f : List Int) (b : List (Int × Int)) : Nat → Bool
  | 0 => false
  | k + 1 => goesTo t f b k || goesL t f (nth b k)
theorem goesTo_up {t f : List Int} {b : List (Int × Int)} {k : Nat} (h : goesTo t f b k = true) : ∀ n, goesTo t f b (k + n) = true
  | 0 => h
  | n + 1 => by show (goesTo t f b (k + n) || _) = true; rw [goesTo_up h n]; rfl
/-- Does a rule stay, and what is left of it? -/
def cutB (t f : List Int) (r : RuleD) : Bool := r.weight || !goesTo t f r.body r.body.length
def cutR (t f : List Int) (r : RuleD) : RuleD := if r.weight then r else { r with body := bodyTo t f r.body r.body.length }
theorem cutB_w {t f : List Int} {r : RuleD} (h : r.weight = true) : cutB t f r = true := by simp [cutB, h]
theorem cutR_w {t f : List Int} {r : RuleD} (h : r.weight = true) : cutR t f r = r := by simp [cutR, h]
theorem cutB_n {t f : List Int} {r : RuleD} (h : r.weight = false) : cutB t f r = !goesTo t f r.body r.body.length := by simp [cutB, h]
theorem cutR_n {t f : List Int} {r : RuleD} (h : r.weight = false) : cutR t f r = { r with body := bodyTo t f r.body r.body.length } := by simp [cutR, h]
def cutTo (t f : List Int) (rs : List RuleD) : Nat → List RuleD
  | 0 => []
  | k + 1 => if cutB t f (nth rs k) then cutTo t f rs k ++ [cutR t f (nth rs k)] else cutTo t f rs k
theorem cutTo_yes {t f : List Int} {rs : List RuleD} {k : Nat} (h : cutB t f (nth rs k) = true) : cutTo t f rs (k + 1) = cutTo t f rs k ++ [cutR t f (nth rs k)] := if_pos h
theorem cutTo_no {t f : List Int} {rs : List RuleD} {k : Nat} (h : cutB t f (nth rs k) = false) : cutTo t f rs (k + 1) = cutTo t f rs k := by
  show (if cutB t f (nth rs k) = true then _ else _) = _
  rw [h]; rfl
theorem cutTo_len (t f : List Int) (rs : List RuleD) : ∀ k, (cutTo t f rs k).length ≤ k
  | 0 => by simp [cutTo]
  | k + 1 => by
    have := cutTo_len t f rs k
    unfold cutTo; split <;> simp <;> omega
theorem cutTo_mem {t f : List Int} {rs : List RuleD} {r : RuleD} : ∀ {k : Nat}, k ≤ rs.length → r ∈ cutTo t f rs k → ∃ x, x ∈ rs ∧ r = cutR t f x
  | 0, _, h => by simp [cutTo] at h
  | k + 1, hk, h => by
    unfold cutTo at h
    split at h
    · rcases List.mem_append.1 h with h | h
      · exact cutTo_mem (by omega) h
      · exact ⟨_, nth_mem (by omega), List.mem_singleton.1 h⟩
    · exact cutTo_mem (by omega) h
def cutD (q : ProgD) : ProgD := { q with rules := cutTo (wfT q.rules) (wfF q.rules) q.rules q.rules.length }
def cutP (p : ProgD) : ProgD := if plainB p then cutD (foldD p) else default

/-! ### WfI -/

theorem Own.putB {α : Type} [Ow α] {lo : Nat} {w : World} {cs : List Value} {x : α} (h : Own lo w cs x) {g : Nat} (hg : g < lo) (o : Nat) (vs : List Value) : Own lo (put w g o vs) cs x := by
  obtain ⟨fp, h, hl⟩ := h
  exact ⟨fp, Ow.kept h fun b hb => (put_chg g vs w o).block b (by have := hl b hb; simp; omega), hl⟩
theorem cellsAt {W : World} {b : Nat} {cs : List Value} {t : TypeId} (h : W.heap[b]? = some (.cells cs.toArray t (0, 0))) : Cells W b 0 cs := fun j v hv => by
  rw [Nat.zero_add, cell_of_row W b j _ _ _ h]; simpa using hv
theorem allCh_no {rs : List RuleD} {k : Nat} (h : k < rs.length) (hc : (nth rs k).choice = true) : rs.all noCh = false := by
  rw [List.all_eq_false]
  exact ⟨_, nth_mem h, by simp [noCh, hc]⟩
theorem allCh_yes {rs : List RuleD} (h : ∀ j, j < rs.length → (nth rs j).choice = false) : rs.all noCh = true := by
  rw [List.all_eq_true]
  intro r hr
  obtain ⟨i, hi, rfl⟩ := List.getElem_of_mem hr
  rw [← nth_eq hi]
  simp [noCh, h i hi]

theorem choice_calls {cs : List Value} {r : RuleD} {w : World} (h : Rd.R w cs r) :
    Calls Tryz.prog 199 #[.agg cs.toArray] w fun e w' => e = .returned (.bool r.choice) ∧ Below w.heap.size w w' := by
  obtain ⟨d1, d4, rfl, hf', r1, r4⟩ := h
  have so1 := sto Tryz.prog r1.one1
  have so4 := sto Tryz.prog r4.one1
  have t0 : Below w.heap.size w (w.alloc (.cells #[.bool r.choice, d1, .bool r.weight, .int .i64 r.bound, d4] 52)) := (Below.refl _ _).alloc (Nat.le_refl _) _
  clear r1 r4
  go_enter Tryz.func199, Tryz.ntmps199
  go_wp2
  go_ret
  exact ⟨rfl, t0⟩

set_option maxHeartbeats 1000000 in
theorem indexCh_calls {w : World} {v : Value} {rs : List RuleD} (h : RdL w [v] rs) :
    Calls Tryz.prog 237 #[v, .func (.func 199) #[] #[]] w fun e w' => ∃ i : Int, e = .returned (.int .i64 i) ∧ decide (0 ≤ i) = !rs.all noCh ∧ Below w.heap.size w w' := by
  obtain ⟨a1, k1, rfl, _, h1⟩ := h.sl
  have hm1 := h1.1
  go_enter Tryz.func237, Tryz.ntmps237
  go_wp2
  go_loopw [5, 8] (fun _ i wr => ∃ k : Nat, k ≤ rs.length ∧ i = .int .i64 k ∧ (∀ j, j < k → (nth rs j).choice = false) ∧ Below w.heap.size w wr) (fun _ i _ => rs.length - (intOf i).toNat)
  case atStart => exact ⟨0, Nat.zero_le _, rfl, fun j hj => absurd hj (Nat.not_lt_zero _), Below.refl _ _⟩
  case round =>
    obtain ⟨k, hk, rfl, hA, hb⟩ := hrel
    have HA := Lib.hid hA
    clear hA
    by_cases hlt : k < rs.length
    · obtain ⟨b, off, rfl, hc⟩ := h1.base (by omega)
      obtain ⟨ecs, hC, hR⟩ := hc k hlt
      have hC := hC.later hb
      have hR := Rd.mono hb hR
      have hR0 := hR
      obtain ⟨d1, d4, rfl, hf', r1, r4⟩ := hR0
      have so1 := sto Tryz.prog r1.one1
      have so4 := sto Tryz.prog r4.one1
      have u0 := hC.c0
      have u1 := hC.c1
      have u2 := hC.c2
      have u3 := hC.c3
      have u4 := hC.c4
      rw [show Rd.k RuleD = 5 from rfl] at u0 u1 u2 u3 u4
      clear hC hc h1 r1 r4
      cases hch : (nth rs k).choice
      · have hN := Lib.hid hch
        clear hch
        go_wp2_with (go_at_call 199; refine (choice_calls hR).mono ?_; rintro e w' ⟨he, hb'⟩; rw [hN.out] at he; subst he)
        go_roundw
        case rel => exact ⟨k + 1, by omega, by go_num, fun j hj => by
          rcases Nat.lt_succ_iff_lt_or_eq.1 hj with h | h
          · exact HA.out j h
          · subst h; exact hN.out, hb.step hb'⟩
        case measure => simp [intOf]; omega
      · have hN := Lib.hid hch
        clear hch
        go_wp2_with (go_at_call 199; refine (choice_calls hR).mono ?_; rintro e w' ⟨he, hb'⟩; rw [hN.out] at he; subst he)
        go_ret
        exact ⟨_, rfl, by rw [allCh_no hlt hN.out]; simp, hb.step hb'⟩
    · obtain rfl : k = rs.length := by omega
      go_wp2
      go_ret
      exact ⟨_, rfl, by rw [allCh_yes HA.out]; simp, hb⟩

theorem hasCh_calls {w : World} {v : Value} {rs : List RuleD} (h : RdL w [v] rs) :
    Calls Tryz.prog 198 #[v, .func (.func 199) #[] #[]] w fun e w' => e = .returned (.bool (!rs.all noCh)) ∧ Below w.heap.size w w' := by
  obtain ⟨a1, k1, rfl, _, h1⟩ := h.sl
  go_enter Tryz.func198, Tryz.ntmps198
  go_wp2_with fail
  refine (indexCh_calls h).mono ?_
  rintro e w1 ⟨i, rfl, hi, b1⟩
  have HI := Lib.hid hi
  clear hi
  go_wp2
  go_ret
  exact ⟨ret_bool (by rw [← HI.out]), b1⟩

/-- What Fold makes of a program without Choice. -/
def plainP (p : ProgD) : ProgD := if plainB p then foldD p else default
theorem plainP_no {p : ProgD} (h : plainB p = false) : plainP p = default := by simp [plainP, h]
theorem plainP_yes {p : ProgD} (h : plainB p = true) : plainP p = foldD p := by simp [plainP, h]

set_option maxHeartbeats 4000000 in
theorem plain_calls {cs : List Value} {p : ProgD} {w : World} (h : Rd.R w cs p) :
    Calls Tryz.prog 112 #[.agg cs.toArray] w fun e w' => ∃ cs', e = .returned (.tuple #[.agg cs'.toArray, .bool (plainB p)]) ∧ Own w.heap.size w' cs' (plainP p) ∧ Below w.heap.size w w' := by
  obtain ⟨p0, p1, p2, p3, p4, p5, p6, p7, rfl⟩ := list8 (Rd.len h)
  have t0 : Below w.heap.size w ((w.alloc (.cells #[p0, p1, p2, p3, p4, p5, p6, p7] 30)).alloc (.cells #[.int .i64 0, .slice none 0 0, .slice none 0 0, .bool false, .slice none 0 0, .slice none 0 0, .slice none 0 0, .slice none 0 0] 30)) := ((Below.refl _ _).alloc (by simp) _).alloc (by simp) _
  have hb0 := alloc_block (w.alloc (.cells #[p0, p1, p2, p3, p4, p5, p6, p7] 30)) #[.int .i64 0, .slice none 0 0, .slice none 0 0, .bool false, .slice none 0 0, .slice none 0 0, .slice none 0 0, .slice none 0 0] 30
  rw [World.size_alloc] at hb0
  have hzs : ((w.alloc (.cells #[p0, p1, p2, p3, p4, p5, p6, p7] 30)).alloc (.cells #[.int .i64 0, .slice none 0 0, .slice none 0 0, .bool false, .slice none 0 0, .slice none 0 0, .slice none 0 0, .slice none 0 0] 30)).heap.size = w.heap.size + 2 := by simp
  go_enter Tryz.func112, Tryz.ntmps112
  go_wp2_with fail
  refine (implFold_calls (Rd.mono t0 h)).mono ?_
  rintro e w1 ⟨cs1, he, o1, b1⟩
  rw [hzs] at o1
  have hb1 := (b1.block (w.heap.size + 1) (by rw [hzs]; omega)).trans hb0
  have hz1 : w.heap.size + 2 ≤ w1.heap.size := by have := b1.size; omega
  cases hF : foldB p
  · have hP : Hid (plainB p = false) := plainB_A hF
    rw [hF] at he
    subst he
    have t1 := t0.step b1
    have l1 := Rd.one o1.rd
    obtain ⟨x0, x1, x2, x3, x4, x5, x6, x7, rfl⟩ := list8 (Rd.len o1.rd)
    have st0 := sto Tryz.prog (l1 x0 (by simp))
    have st1 := sto Tryz.prog (l1 x1 (by simp))
    have st2 := sto Tryz.prog (l1 x2 (by simp))
    have st3 := sto Tryz.prog (l1 x3 (by simp))
    have st4 := sto Tryz.prog (l1 x4 (by simp))
    have st5 := sto Tryz.prog (l1 x5 (by simp))
    have st6 := sto Tryz.prog (l1 x6 (by simp))
    have st7 := sto Tryz.prog (l1 x7 (by simp))
    have o1 := o1.alloc (.cells #[x0, x1, x2, x3, x4, x5, x6, x7] 30)
    have CX1 := Cells.new w1 [x0, x1, x2, x3, x4, x5, x6, x7] 30
    have t1 := t1.alloc t1.size (.cells #[x0, x1, x2, x3, x4, x5, x6, x7] 30)
    clear l1
    have hb2 := (Below.heap_alloc w1 (.cells #[x0, x1, x2, x3, x4, x5, x6, x7] 30) (w.heap.size + 1) (by omega)).trans hb1
    obtain ⟨z0, z1, z2, z3, z4, z5, z6, z7⟩ := cells8 (cellsAt hb2)
    have hfz := fun j => frozen_of_row _ (w.heap.size + 1) j _ _ hb2
    clear o1 CX1 hb0 hb1 b1
    go_wp2
    exact bodyPost_ret (v := .tuple #[.agg #[.int .i64 0, .slice none 0 0, .slice none 0 0, .bool false, .slice none 0 0, .slice none 0 0, .slice none 0 0, .slice none 0 0], .bool false])
      (by simp [results, Tryz.results112, go_sem, z0, z1, z2, z3, z4, z5, z6, z7]) rfl ⟨_, by rw [hP.out], by rw [plainP_no hP.out]; exact own_zero _ _, by
      repeat (refine Below.setCell ?_ (by simp; try omega) _)
      exact t1⟩
  · rw [foldR_yes hF] at o1
    rw [hF] at he
    subst he
    have t1 := t0.step b1
    have l1 := Rd.one o1.rd
    obtain ⟨x0, x1, x2, x3, x4, x5, x6, x7, rfl⟩ := list8 (Rd.len o1.rd)
    have st0 := sto Tryz.prog (l1 x0 (by simp))
    have st1 := sto Tryz.prog (l1 x1 (by simp))
    have st2 := sto Tryz.prog (l1 x2 (by simp))
    have st3 := sto Tryz.prog (l1 x3 (by simp))
    have st4 := sto Tryz.prog (l1 x4 (by simp))
    have st5 := sto Tryz.prog (l1 x5 (by simp))
    have st6 := sto Tryz.prog (l1 x6 (by simp))
    have st7 := sto Tryz.prog (l1 x7 (by simp))
    have o1 := o1.alloc (.cells #[x0, x1, x2, x3, x4, x5, x6, x7] 30)
    have CX1 := Cells.new w1 [x0, x1, x2, x3, x4, x5, x6, x7] 30
    have t1 := t1.alloc t1.size (.cells #[x0, x1, x2, x3, x4, x5, x6, x7] 30)
    clear l1
    have oR := o1.rd
    obtain ⟨_, _, _, _, _, _, hl, hfa, g1, _⟩ := oR
    simp only [List.cons.injEq, and_true] at hl
    obtain ⟨rfl, rfl, -⟩ := hl
    obtain ⟨y0, y1, y2, y3, y4, y5, y6, y7⟩ := cells8 CX1
    have hz2 := World.size_alloc w1 (.cells #[.int .i64 (foldD p).atoms, x1, x2, x3, x4, x5, x6, x7] 30)
    have hb2 := (Below.heap_alloc w1 (.cells #[.int .i64 (foldD p).atoms, x1, x2, x3, x4, x5, x6, x7] 30) (w.heap.size + 1) (by omega)).trans hb1
    cases hC : (foldD p).rules.all noCh
    · have hP : Hid (plainB p = false) := (plainB_B hF).trans hC
      go_wp2_with fail
      refine (hasCh_calls g1).mono ?_
      rintro e w3 ⟨he, b3⟩
      rw [hC] at he
      subst he
      have hb3 := (b3.block (w.heap.size + 1) (by omega)).trans hb2
      have hz3 := b3.size
      obtain ⟨z0, z1, z2, z3, z4, z5, z6, z7⟩ := cells8 (cellsAt hb3)
      have hfz := fun j => frozen_of_row _ (w.heap.size + 1) j _ _ hb3
      have t3 := t1.step b3
      clear o1 CX1 hb0 hb1 hb2 hb3 b1 y0 y1 y2 y3 y4 y5 y6 y7 hC
      go_wp2
      exact bodyPost_ret (v := .tuple #[.agg #[.int .i64 0, .slice none 0 0, .slice none 0 0, .bool false, .slice none 0 0, .slice none 0 0, .slice none 0 0, .slice none 0 0], .bool false])
        (by simp [results, Tryz.results112, go_sem, z0, z1, z2, z3, z4, z5, z6, z7]) rfl ⟨_, by rw [hP.out], by rw [plainP_no hP.out]; exact own_zero _ _, by
        repeat (refine Below.setCell ?_ (by simp; try omega) _)
        exact t3⟩
    · have hP : Hid (plainB p = true) := (plainB_B hF).trans hC
      go_wp2_with fail
      refine (hasCh_calls g1).mono ?_
      rintro e w3 ⟨he, b3⟩
      rw [hC] at he
      subst he
      have hb3 := (b3.block (w.heap.size + 1) (by omega)).trans hb2
      have hz3 := b3.size
      obtain ⟨z0, z1, z2, z3, z4, z5, z6, z7⟩ := cells8 (cellsAt hb3)
      have hfz := fun j => frozen_of_row _ (w.heap.size + 1) j _ _ hb3
      have t3 := t1.step b3
      have o3 := Lib.hid (o1.later b3)
      obtain ⟨v0, v1, v2, v3, v4, v5, v6, v7⟩ := cells8 (CX1.later b3)
      clear o1 CX1 hb0 hb1 hb2 hb3 b1 y0 y1 y2 y3 y4 y5 y6 y7 hC
      go_wp2
      refine bodyPost_ret (v := .tuple #[.agg #[.int .i64 (foldD p).atoms, x1, x2, x3, x4, x5, x6, x7], .bool true])
        (by simp [results, Tryz.results112, go_sem, z0, z1, z2, z3, z4, z5, z6, z7]) rfl ⟨_, by rw [hP.out], ?_, ?_⟩
      · rw [plainP_yes hP.out]
        exact (o3.out.putB (g := w.heap.size + 1) (by omega) 0 [.int .i64 (foldD p).atoms, x1, x2, x3, x4, x5, x6, x7]).mono (by omega)
      · exact t3.trans ((put_chg (w.heap.size + 1) [.int .i64 (foldD p).atoms, x1, x2, x3, x4, x5, x6, x7] _ 0).below fun g hg => by simp at hg; omega)

theorem step_calls {cs : List Value} {p : ProgD} {w : World} {B m : Nat} (hB : Cells w B 0 cs) (h : Rd.R w cs p) (hok : ∀ r ∈ p.rules, ruleOkB r 12 = true) (hm : m < 4096) :
    Calls Tryz.prog 200 #[.int .u16 (m : Int), .pointer (some ⟨B, 0, none⟩)] w fun e w' => ∃ m1 m2 : Nat, e = .returned (.tuple #[.int .u16 (m1 : Int), .int .u16 (m2 : Int)]) ∧ (m1 < 4096 ∧ mset m1 = leastL p.rules (leastL p.rules (mset m) false) false) ∧ (m2 < 4096 ∧ mset m2 = leastL p.rules (mset m) false) ∧ Below w.heap.size w w' := by
  obtain ⟨e0, e1, e2, e3, e4, e5, e6, e7, rfl⟩ := list8 (Rd.len h)
  obtain ⟨y0, y1, y2, y3, y4, y5, y6, y7⟩ := cells8 hB
  have h1 := leastP_calls (mset m) h hok
  rw [mask_mset hm] at h1
  have H1 := Lib.hid h1
  have HOK := Lib.hid hok
  clear h1 hok
  go_enter Tryz.func200, Tryz.ntmps200
  go_wp2_with fail
  refine H1.out.mono ?_
  rintro e w1 ⟨m2, rfl, ⟨hm2, hl2⟩, b1⟩
  have h2 := leastP_calls (mset m2) (Rd.mono b1 h) HOK.out
  rw [mask_mset hm2] at h2
  have H2 := Lib.hid h2
  have HL2 := Lib.hid hl2
  clear h2 hl2 y0 y1 y2 y3 y4 y5 y6 y7
  obtain ⟨y0, y1, y2, y3, y4, y5, y6, y7⟩ := cells8 (hB.later b1)
  go_wp2_with fail
  refine H2.out.mono ?_
  rintro e w2 ⟨m1, rfl, ⟨hm1, hl1⟩, b2⟩
  rw [HL2.out] at hl1
  have HL1 := Lib.hid hl1
  clear hl1
  go_wp2
  go_ret2
  exact ⟨m1, m2, rfl, ⟨hm1, HL1.out⟩, ⟨hm2, HL2.out⟩, b1.step b2⟩

theorem mset_inj {a b : Nat} (ha : a < 4096) (hb : b < 4096) (h : mset a = mset b) : a = b := by
  rw [← mask_mset ha, ← mask_mset hb, h]

set_option maxHeartbeats 2000000 in
theorem wellP_calls {cs : List Value} {q : ProgD} {w : World} (h : Rd.R w cs q) (hok : ∀ r ∈ q.rules, ruleOkB r 12 = true) (hch : ∀ r ∈ q.rules, r.choice = false) :
    Calls Tryz.prog 113 #[.agg cs.toArray] w fun e w' => ∃ m1 m2 : Nat, e = .returned (.tuple #[.int .u16 (m1 : Int), .int .u16 (m2 : Int)]) ∧ (m1 < 4096 ∧ mset m1 = wfT q.rules) ∧ (m2 < 4096 ∧ mset m2 = wfF q.rules) ∧ Below w.heap.size w w' := by
  have hmf : ∀ (fn : Fn) (first cap : Array Value) (w : World), (Instr.makeFunc fn first cap).run Tryz.prog w = .ok (.func fn first cap) w := fun _ _ _ _ => rfl
  have HW := Lib.hid (wts_ok hok)
  have HOK := Lib.hid hok
  have HCH := Lib.hid hch
  clear hok hch
  obtain ⟨e0, e1, e2, e3, e4, e5, e6, e7, rfl⟩ := list8 (Rd.len h)
  have t0 : Below w.heap.size w (w.alloc (.cells #[e0, e1, e2, e3, e4, e5, e6, e7] 30)) := (Below.refl _ _).alloc (by simp) _
  have CX := Lib.hid (Cells.new w [e0, e1, e2, e3, e4, e5, e6, e7] 30)
  have R0 := Rd.mono t0 h
  have hza : w.heap.size < (w.alloc (.cells #[e0, e1, e2, e3, e4, e5, e6, e7] 30)).heap.size := by simp
  go_enter Tryz.func113, Tryz.ntmps113
  go_wp2
  generalize w.alloc (.cells #[e0, e1, e2, e3, e4, e5, e6, e7] 30) = wa at *
  go_loopw [2] (fun s wr => ∃ n m : Nat, s = .int .u16 (m : Int) ∧ m < 4096 ∧ mset m = wfIt q.rules n ∧ n ≤ (wfIt q.rules n).length ∧ Below wa.heap.size wa wr) (fun s _ => 13 - (mset (natOf s)).length)
  case atStart => exact ⟨0, 0, rfl, by omega, mset_zero, Nat.zero_le _, Below.refl _ _⟩
  case round =>
    obtain ⟨n, m, rfl, hm, hl, hn, hb⟩ := hrel
    have HL := Lib.hid hl
    have HN := Lib.hid hn
    clear hl hn
    go_wp2_with (go_at_call 200; refine (step_calls (CX.out.later hb) (Rd.mono hb R0) HOK.out hm).mono ?_; rintro e w2 ⟨m1, m2, rfl, ⟨hm1, hl1⟩, ⟨hm2, hl2⟩, b2⟩)
    · rename_i h9
      have hq : m1 = m := by have := eq_of_beq h9; omega
      have HL1 := Lib.hid (hl1.trans (by rw [HL.out]; rfl : _ = wfIt q.rules (n + 1)))
      have HL2 := Lib.hid (hl2.trans (by rw [HL.out] : _ = leastL q.rules (wfIt q.rules n) false))
      clear hl1 hl2 h9
      subst hq
      have hE := Lib.hid (wfIt_end (rs := q.rules) (n := n) (by have := HN.out; have := (wfIt_isP (rs := q.rules) n).le; omega) (HL1.out.symm.trans HL.out))
      try go_wp2
      go_ret2
      refine ⟨m1, m2, rfl, ⟨hm1, HL.out.trans hE.out⟩, ⟨hm2, ?_⟩, t0.step (hb.step b2)⟩
      rw [HL2.out]; unfold wfF; rw [hE.out]
    · rename_i h9
      have hq : m1 ≠ m := fun e => by subst e; simp at h9
      have HL1 := Lib.hid (hl1.trans (by rw [HL.out]; rfl : _ = wfIt q.rules (n + 1)))
      have hne : wfIt q.rules (n + 1) ≠ wfIt q.rules n := fun e => hq (mset_inj hm1 hm ((HL1.out.trans e).trans HL.out.symm))
      have hM := wfIt_more HW.out HCH.out HN.out hne
      have hl12 := mset_len m1
      have HM1 : (mset m).length < (mset m1).length := by rw [HL.out, HL1.out]; exact hM.2
      clear hq hne h9
      refine ⟨⟨n + 1, m1, rfl, hm1, HL1.out, hM.1, hb.step b2⟩, ?_⟩
      simp [natOf]; omega


set_option maxHeartbeats 1000000 in
theorem implWellFounded_calls {cs : List Value} {p : ProgD} {w : World} (h : Rd.R w cs p) :
    Calls Tryz.prog 46 #[.agg cs.toArray] w fun e w' => ∃ u1 u2 M, e = .returned (.tuple #[u1, u2, .bool (plainB p)]) ∧ OwnIn w.heap.size M w' [u1] (wfTR p) ∧ Own M w' [u2] (wfFR p) ∧ w.heap.size ≤ M ∧ Below w.heap.size w w' := by
  obtain ⟨p0, p1, p2, p3, p4, p5, p6, p7, rfl⟩ := list8 (Rd.len h)
  have t0 : Below w.heap.size w (w.alloc (.cells #[p0, p1, p2, p3, p4, p5, p6, p7] 30)) := (Below.refl _ _).alloc (by simp) _
  go_enter Tryz.func46, Tryz.ntmps46
  go_wp2_with fail
  refine (plain_calls (Rd.mono t0 h)).mono ?_
  rintro e w1 ⟨cs1, he, o1, b1⟩
  cases hP : plainB p
  · have HPB := Lib.hid hP
    have hv1 := Lib.hid (wfTR_no hP)
    have hv2 := Lib.hid (wfFR_no hP)
    rw [hP] at he
    subst he
    have t1 := t0.step b1
    have l1 := Rd.one o1.rd
    obtain ⟨x0, x1, x2, x3, x4, x5, x6, x7, rfl⟩ := list8 (Rd.len o1.rd)
    have st0 := sto Tryz.prog (l1 x0 (by simp))
    have st1 := sto Tryz.prog (l1 x1 (by simp))
    have st2 := sto Tryz.prog (l1 x2 (by simp))
    have st3 := sto Tryz.prog (l1 x3 (by simp))
    have st4 := sto Tryz.prog (l1 x4 (by simp))
    have st5 := sto Tryz.prog (l1 x5 (by simp))
    have st6 := sto Tryz.prog (l1 x6 (by simp))
    have st7 := sto Tryz.prog (l1 x7 (by simp))
    have o1 := o1.alloc (.cells #[x0, x1, x2, x3, x4, x5, x6, x7] 30)
    have CX1 := Cells.new w1 [x0, x1, x2, x3, x4, x5, x6, x7] 30
    have t1 := t1.alloc t1.size (.cells #[x0, x1, x2, x3, x4, x5, x6, x7] 30)
    clear l1
    go_wp2
    refine bodyPost_ret (v := .tuple #[.slice none 0 0, .slice none 0 0, .bool false]) (by simp [results, Tryz.results46, go_sem]) rfl ?_
    refine ⟨_, _, w.heap.size, by rw [HPB.out], ?_, ?_, Nat.le_refl _, t1⟩
    · rw [hv1.out]; exact ⟨[], ⟨_, _, rfl, by simp, by simp, .inl ⟨rfl, rfl, rfl⟩⟩, by simp⟩
    · rw [hv2.out]; exact (OwnI.nil _ _).own
  · have HPB := Lib.hid hP
    have hv1 := Lib.hid (wfTR_yes hP)
    have hv2 := Lib.hid (wfFR_yes hP)
    have hF := plainB_fold hP
    have hok : progOkB (foldD p) = true := foldR_ok hF
    have hr12 := Lib.hid (rules12 hok)
    have HCH := Lib.hid (plainB_ch hP)
    rw [hP] at he
    rw [plainP_yes hP] at o1
    subst he
    have t1 := t0.step b1
    have l1 := Rd.one o1.rd
    obtain ⟨x0, x1, x2, x3, x4, x5, x6, x7, rfl⟩ := list8 (Rd.len o1.rd)
    have st0 := sto Tryz.prog (l1 x0 (by simp))
    have st1 := sto Tryz.prog (l1 x1 (by simp))
    have st2 := sto Tryz.prog (l1 x2 (by simp))
    have st3 := sto Tryz.prog (l1 x3 (by simp))
    have st4 := sto Tryz.prog (l1 x4 (by simp))
    have st5 := sto Tryz.prog (l1 x5 (by simp))
    have st6 := sto Tryz.prog (l1 x6 (by simp))
    have st7 := sto Tryz.prog (l1 x7 (by simp))
    have o1 := o1.alloc (.cells #[x0, x1, x2, x3, x4, x5, x6, x7] 30)
    have CX1 := Cells.new w1 [x0, x1, x2, x3, x4, x5, x6, x7] 30
    have t1 := t1.alloc t1.size (.cells #[x0, x1, x2, x3, x4, x5, x6, x7] 30)
    clear l1
    obtain ⟨y0, y1, y2, y3, y4, y5, y6, y7⟩ := cells8 CX1
    go_wp2_with fail
    refine (wellP_calls o1.rd hr12.out HCH.out).mono ?_
    rintro e w2 ⟨m1, m2, rfl, ⟨hm1, hl1⟩, ⟨hm2, hl2⟩, b2⟩
    have HL1 := Lib.hid hl1
    have HL2 := Lib.hid hl2
    have t2 := t1.step b2
    clear hl1 hl2 y0 y1 y2 y3 y4 y5 y6 y7
    go_wp2_with fail
    refine (list_calls m1 _ hm1).mono ?_
    rintro e w3 ⟨u1, rfl, o3, b3⟩
    go_wp2_with fail
    refine (list_calls m2 _ hm2).mono ?_
    rintro e w4 ⟨u2, rfl, o4, b4⟩
    have hz := t2.size
    have hz3 := b3.size
    go_wp2
    refine bodyPost_ret (v := .tuple #[u1, u2, .bool true]) (by simp [results, Tryz.results46, go_sem]) rfl ?_
    refine ⟨_, _, w3.heap.size, by rw [HPB.out], ?_, ?_, by omega, (t2.step b3).step b4⟩
    · rw [hv1.out, ← HL1.out]; exact ((o3.own.shut).later b4).mono hz (Nat.le_refl _)
    · rw [hv2.out, ← HL2.out]; exact o4.own

theorem implSettled_calls {cs : List Value} {p : ProgD} {w : World} (h : Rd.R w cs p) :
    Calls Tryz.prog 48 #[.agg cs.toArray] w fun e w' => e = .returned (.bool (setlB p)) ∧ Below w.heap.size w w' := by
  obtain ⟨p0, p1, p2, p3, p4, p5, p6, p7, rfl⟩ := list8 (Rd.len h)
  have t0 : Below w.heap.size w (w.alloc (.cells #[p0, p1, p2, p3, p4, p5, p6, p7] 30)) := (Below.refl _ _).alloc (by simp) _
  go_enter Tryz.func48, Tryz.ntmps48
  go_wp2_with fail
  refine (plain_calls (Rd.mono t0 h)).mono ?_
  rintro e w1 ⟨cs1, he, o1, b1⟩
  cases hP : plainB p
  · have hv := Lib.hid (setlB_no hP)
    rw [hP] at he
    subst he
    have t1 := t0.step b1
    have l1 := Rd.one o1.rd
    obtain ⟨x0, x1, x2, x3, x4, x5, x6, x7, rfl⟩ := list8 (Rd.len o1.rd)
    have st0 := sto Tryz.prog (l1 x0 (by simp))
    have st1 := sto Tryz.prog (l1 x1 (by simp))
    have st2 := sto Tryz.prog (l1 x2 (by simp))
    have st3 := sto Tryz.prog (l1 x3 (by simp))
    have st4 := sto Tryz.prog (l1 x4 (by simp))
    have st5 := sto Tryz.prog (l1 x5 (by simp))
    have st6 := sto Tryz.prog (l1 x6 (by simp))
    have st7 := sto Tryz.prog (l1 x7 (by simp))
    have o1 := o1.alloc (.cells #[x0, x1, x2, x3, x4, x5, x6, x7] 30)
    have CX1 := Cells.new w1 [x0, x1, x2, x3, x4, x5, x6, x7] 30
    have t1 := t1.alloc t1.size (.cells #[x0, x1, x2, x3, x4, x5, x6, x7] 30)
    clear l1
    go_wp2
    go_ret
    exact ⟨ret_bool hv.out.symm, t1⟩
  · have hv := Lib.hid (setlB_yes hP)
    have hF := plainB_fold hP
    have hok : progOkB (foldD p) = true := foldR_ok hF
    have hr12 := Lib.hid (rules12 hok)
    have HCH := Lib.hid (plainB_ch hP)
    rw [hP] at he
    rw [plainP_yes hP] at o1
    subst he
    have t1 := t0.step b1
    have l1 := Rd.one o1.rd
    obtain ⟨x0, x1, x2, x3, x4, x5, x6, x7, rfl⟩ := list8 (Rd.len o1.rd)
    have st0 := sto Tryz.prog (l1 x0 (by simp))
    have st1 := sto Tryz.prog (l1 x1 (by simp))
    have st2 := sto Tryz.prog (l1 x2 (by simp))
    have st3 := sto Tryz.prog (l1 x3 (by simp))
    have st4 := sto Tryz.prog (l1 x4 (by simp))
    have st5 := sto Tryz.prog (l1 x5 (by simp))
    have st6 := sto Tryz.prog (l1 x6 (by simp))
    have st7 := sto Tryz.prog (l1 x7 (by simp))
    have o1 := o1.alloc (.cells #[x0, x1, x2, x3, x4, x5, x6, x7] 30)
    have CX1 := Cells.new w1 [x0, x1, x2, x3, x4, x5, x6, x7] 30
    have t1 := t1.alloc t1.size (.cells #[x0, x1, x2, x3, x4, x5, x6, x7] 30)
    clear l1
    obtain ⟨y0, y1, y2, y3, y4, y5, y6, y7⟩ := cells8 CX1
    go_wp2_with fail
    refine (wellP_calls o1.rd hr12.out HCH.out).mono ?_
    rintro e w2 ⟨m1, m2, rfl, ⟨hm1, hl1⟩, ⟨hm2, hl2⟩, b2⟩
    have HL1 := Lib.hid hl1
    have HL2 := Lib.hid hl2
    have t2 := t1.step b2
    clear hl1 hl2 y0 y1 y2 y3 y4 y5 y6 y7
    have hE : ((m1 : Int) == (m2 : Int)) = decide (wfT (foldD p).rules = wfF (foldD p).rules) := by
      rw [← HL1.out, ← HL2.out, Bool.eq_iff_iff]
      simp only [beq_iff_eq, decide_eq_true_eq]
      exact ⟨fun e => by have e : m1 = m2 := by omega
                         rw [e], fun e => by rw [mset_inj hm1 hm2 e]⟩
    have HE := Lib.hid hE
    clear hE
    go_wp2
    go_ret
    exact ⟨ret_bool (by first | exact HE.out.trans hv.out.symm | (rw [hv.out, ← HE.out])), t2⟩

/-! ### WfS -/

theorem allCh_noS {rs : List RuleD} {k : Nat} (h : k < rs.length) (hc : (nth rs k).choice = true) : rs.all noCh = false := by
  rw [List.all_eq_false]
  exact ⟨_, nth_mem h, by simp [noCh, hc]⟩
theorem allCh_yesS {rs : List RuleD} (h : ∀ j, j < rs.length → (nth rs j).choice = false) : rs.all noCh = true := by
  rw [List.all_eq_true]
  intro r hr
  obtain ⟨i, hi, rfl⟩ := List.getElem_of_mem hr
  rw [← nth_eq hi]
  simp [noCh, h i hi]
theorem plainB_R {p : ProgD} {b : Bool} (hb : foldB p = b) : plainB p = (b && (foldR p).rules.all noCh) := by
  subst hb
  cases h : foldB p
  · rw [plainB_A h]; rfl
  · rw [plainB_B h, foldR_yes h, Bool.true_and]

set_option maxHeartbeats 1000000 in
theorem specPlain_calls {cs : List Value} {p : ProgD} {w : World} (h : Rd.R w cs p) :
    Calls Tryz.prog 47 #[.agg cs.toArray] w fun e w' => e = .returned (.bool (plainB p)) ∧ Below w.heap.size w w' := by
  obtain ⟨p0, p1, p2, p3, p4, p5, p6, p7, rfl⟩ := list8 (Rd.len h)
  have t0 : Below w.heap.size w (w.alloc (.cells #[p0, p1, p2, p3, p4, p5, p6, p7] 30)) := (Below.refl _ _).alloc (by simp) _
  go_enter Tryz.func47, Tryz.ntmps47
  go_wp2_with fail
  refine (specFold_calls (Rd.mono t0 h)).mono ?_
  rintro e w1 ⟨cs1, he, o1, b1⟩
  obtain ⟨fb, hfb⟩ : ∃ fb, foldB p = fb := ⟨_, rfl⟩
  have HP := Lib.hid (plainB_R hfb)
  rw [hfb] at he
  subst he
  clear hfb
  obtain ⟨R, hR⟩ : ∃ R, R = foldR p := ⟨_, rfl⟩
  rw [← hR] at o1 HP
  clear hR
  have t1 := t0.step b1
  have l1 := Rd.one o1.rd
  obtain ⟨x0, x1, x2, x3, x4, x5, x6, x7, rfl⟩ := list8 (Rd.len o1.rd)
  have st0 := sto Tryz.prog (l1 x0 (by simp))
  have st1 := sto Tryz.prog (l1 x1 (by simp))
  have st2 := sto Tryz.prog (l1 x2 (by simp))
  have st3 := sto Tryz.prog (l1 x3 (by simp))
  have st4 := sto Tryz.prog (l1 x4 (by simp))
  have st5 := sto Tryz.prog (l1 x5 (by simp))
  have st6 := sto Tryz.prog (l1 x6 (by simp))
  have st7 := sto Tryz.prog (l1 x7 (by simp))
  have o1 := o1.alloc (.cells #[x0, x1, x2, x3, x4, x5, x6, x7] 30)
  have CX1 := Cells.new w1 [x0, x1, x2, x3, x4, x5, x6, x7] 30
  have t1 := t1.alloc t1.size (.cells #[x0, x1, x2, x3, x4, x5, x6, x7] 30)
  clear l1
  have oR := o1.rd
  obtain ⟨_, _, _, _, _, _, hl, hfa, g1, _⟩ := oR
  simp only [List.cons.injEq, and_true] at hl
  obtain ⟨rfl, rfl, -⟩ := hl
  obtain ⟨a1, k1, rfl, _, h1⟩ := g1.sl
  have hm1 := h1.1
  have CXH := Lib.hid CX1
  have hzw : w1.heap.size < (w1.alloc (.cells #[.int .i64 (R).atoms, .slice a1 (R).rules.length k1, x2, x3, x4, x5, x6, x7] 30)).heap.size := by simp
  generalize hwa : w1.alloc (.cells #[.int .i64 (R).atoms, .slice a1 (R).rules.length k1, x2, x3, x4, x5, x6, x7] 30) = wa at *
  go_wp2
  try rw [hwa]
  clear st0 st1 st2 st3 st4 st5 st6 st7
  go_loopw [5] (fun i wr => ∃ k : Nat, k ≤ R.rules.length ∧ i = .int .i64 k ∧ (∀ j, j < k → (nth R.rules j).choice = false) ∧ Below wa.heap.size wa wr) (fun i _ => R.rules.length - (intOf i).toNat)
  case atStart => exact ⟨0, Nat.zero_le _, rfl, fun j hj => absurd hj (Nat.not_lt_zero _), Below.refl _ _⟩
  case round =>
    obtain ⟨k, hk, rfl, hA, hb⟩ := hrel
    have HA := Lib.hid hA
    clear hA
    obtain ⟨y0, y1, y2, y3, y4, y5, y6, y7⟩ := cells8 (CXH.out.later hb)
    by_cases hlt : k < R.rules.length
    · obtain ⟨b, off, rfl, hc⟩ := h1.base (by omega)
      obtain ⟨ecs, hC, hR⟩ := hc k hlt
      have hC := hC.later hb
      have hR := Rd.mono hb hR
      have hR0 := hR
      obtain ⟨d1, d4, rfl, hf', r1, r4⟩ := hR0
      have u0 := hC.c0
      rw [show Rd.k RuleD = 5 from rfl] at u0
      clear hC hc h1 r1 r4 hR
      cases hch : (nth R.rules k).choice
      · have hN := Lib.hid hch
        rw [hch] at u0
        clear hch
        go_wp2
        go_roundw
        case rel => exact ⟨k + 1, by omega, by go_num, fun j hj => by
          rcases Nat.lt_succ_iff_lt_or_eq.1 hj with h | h
          · exact HA.out j h
          · subst h; exact hN.out, hb⟩
        case measure => simp [intOf]; omega
      · have hN := Lib.hid hch
        rw [hch] at u0
        clear hch
        go_wp2
        go_ret
        exact ⟨ret_bool (by rw [HP.out, allCh_noS hlt hN.out, Bool.and_false]), t1.step hb⟩
    · obtain rfl : k = R.rules.length := by omega
      go_wp2
      go_ret
      exact ⟨ret_bool (by rw [HP.out, allCh_yesS HA.out, Bool.and_true]), t1.step hb⟩


/-! ### WfC -/
theorem take_up {fps : List (List Nat)} {k f : Nat} (h : f ∈ (fps.take k).flatten ∨ f ∈ fps.getD k []) : f ∈ (fps.take (k + 1)).flatten := by
  by_cases hk : k < fps.length
  · rw [List.take_add_one, List.flatten_append, List.mem_append]
    rcases h with h | h
    · exact .inl h
    · rw [List.getD_eq_getElem?_getD] at h
      rw [List.getElem?_eq_getElem hk] at h ⊢
      exact .inr (by simpa using h)
  · rw [List.take_of_length_le (by omega)]
    rcases h with h | h
    · rwa [List.take_of_length_le (by omega)] at h
    · rw [List.getD_eq_getElem?_getD, List.getElem?_eq_none (by omega)] at h; cases h

/-- Where the rules lie that have been put together: in what the first k rules had, or in what is new. -/
def DC (fps : List (List Nat)) (T k : Nat) (f : Nat) : Prop := f ∈ (fps.take k).flatten ∨ T ≤ f
theorem DC.up {fps : List (List Nat)} {T k f : Nat} (h : DC fps T k f) : DC fps T (k + 1) f := h.imp (fun h => take_up (.inl h)) id





/-! ### WfCI -/

def LitOk (l : Int) : Prop := (1 ≤ l ∧ l ≤ 12) ∨ (-12 ≤ l ∧ l ≤ -1)
theorem LitOk.fits {l : Int} (h : LitOk l) : Fits l := by unfold LitOk at h; unfold Fits; omega
def stlB (m1 m2 : Nat) (l : Int) : Bool := if 0 < l then litM m1 l else litM m2 l


/-- What is left of a rule, and whether it stays. -/
def CutQ (w : World) (r : RuleD) (t f : List Int) (d1 d4 : Value) (e : Ending) (w' : World) : Prop :=
  ((cutB t f r = true ∧ ∃ v4, e = .returned (.tuple #[.agg #[.bool r.choice, d1, .bool r.weight, .int .i64 r.bound, v4], .bool true]) ∧ ((r.weight = true ∧ v4 = d4) ∨ (r.weight = false ∧ Own w.heap.size w' [v4] (bodyTo t f r.body r.body.length)))) ∨
    (cutB t f r = false ∧ e = .returned (.tuple #[.agg #[.bool false, .slice none 0 0, .bool false, .int .i64 0, .slice none 0 0], .bool false]))) ∧ Below w.heap.size w w'



/-! ### WfCS -/



/-! ### CutF -/
theorem hasB_memC {xs : List Int} {a : Int} : hasB xs a = true ↔ a ∈ xs := by unfold hasB; exact decide_eq_true_iff
theorem lessC_nil {xs us : List Int} : ((pickTo (pickL xs us) 12).length : Int) == 0 ↔ Sub xs us := by
  have hb : ∀ {a : Int}, 1 ≤ a ∧ a ≤ 12 → hasB (pickTo (pickL xs us) 12) a = (hasB xs a && !hasB us a) := fun {a} h => by
    rw [hasB_pickTo h]
    unfold pickL pickF
    cases hasB xs a <;> cases hasB us a <;> rfl
  rw [beq_iff_eq]
  constructor
  · intro h a h1 h2 ha
    have h0 : pickTo (pickL xs us) 12 = [] := List.eq_nil_of_length_eq_zero (by omega)
    have := hb (a := a) ⟨h1, h2⟩
    rw [h0, hasB_nil, ha] at this
    cases hu : hasB us a
    · rw [hu] at this; cases this
    · rfl
  · intro h
    have : pickTo (pickL xs us) 12 = [] := by
      rw [List.eq_nil_iff_forall_not_mem]
      intro a ha
      have h1 := (mem_pickTo _ _ _).1 ha
      have h12 : 1 ≤ a ∧ a ≤ 12 := by omega
      have h3 := hb h12
      rw [hasB_memC.2 ha] at h3
      cases hx : hasB xs a
      · rw [hx] at h3; cases h3
      · rw [hx, h a h12.1 h12.2 hx] at h3; cases h3
    rw [this]; rfl
section
variable {rs : List RuleD} {x : List Int}
theorem wf_low (hw : Wts rs) (hc : ∀ r ∈ rs, r.choice = false) (hx : leastL rs x false = x) : ∀ n, Sub (wfIt rs n) x
  | 0 => fun a _ _ h => by simp [wfIt, hasB] at h
  | n + 1 => by
    have h1 := least_anti hw hc (wf_low hw hc hx n)
    rw [hx] at h1
    have h2 := least_anti hw hc h1
    rw [hx] at h2
    exact h2
theorem wf_high (hw : Wts rs) (hc : ∀ r ∈ rs, r.choice = false) (hx : leastL rs x false = x) : Sub x (wfF rs) := by
  have := least_anti hw hc (wf_low hw hc hx 13)
  rw [hx] at this
  exact this
theorem wf_apart (hw : Wts rs) (hc : ∀ r ∈ rs, r.choice = false) : ∀ n, Sub (wfIt rs n) (leastL rs (wfIt rs n) false)
  | 0 => fun a _ _ h => by simp [wfIt, hasB] at h
  | n + 1 => by
    have h1 := least_anti hw hc (wf_apart hw hc n)
    exact least_anti hw hc h1
theorem wf_sub (hw : Wts rs) (hc : ∀ r ∈ rs, r.choice = false) : Sub (wfT rs) (wfF rs) := wf_apart hw hc 13
end
theorem ans_least {q : ProgD} {x : List Int} (h : ansB q x = true) : setOkB x q.atoms = true ∧ modelB q x = true ∧ leastL q.rules x false = x := by
  simpa only [ansB, Bool.and_eq_true, decide_eq_true_eq] using h
theorem mem_answersL {p : ProgD} {x : List Int} (h : x ∈ answersL p) : foldB p = true ∧ ansB (foldD p) x = true := by
  unfold answersL at h
  split at h
  · rename_i hF
    obtain ⟨k, _, rfl, hk⟩ := mem_ansTo.1 h
    exact ⟨hF, hk⟩
  · cases h
theorem wf_answer {p : ProgD} (hp : plainB p = true) {x : List Int} (h : x ∈ answersL p) :
    (((pickTo (pickL (wfTR p) x) 12).length : Int) == 0) = true ∧ (((pickTo (pickL x (wfFR p)) 12).length : Int) == 0) = true := by
  have hF := plainB_fold hp
  have hw := foldD_wts hF
  have hc := plainB_ch hp
  have hx := (ans_least (mem_answersL h).2).2.2
  rw [wfTR_yes hp, wfFR_yes hp]
  exact ⟨lessC_nil.2 (wf_low hw hc hx 13), lessC_nil.2 (wf_high hw hc hx)⟩
theorem wf_in {p : ProgD} (hp : plainB p = true) : (((pickTo (pickL (wfTR p) (wfFR p)) 12).length : Int) == 0) = true := by
  rw [wfTR_yes hp, wfFR_yes hp]
  exact lessC_nil.2 (wf_sub (foldD_wts (plainB_fold hp)) (plainB_ch hp))
theorem wf_settled {p : ProgD} (hp : plainB p = true) : setlB p = eqB (wfTR p) (wfFR p) := by
  unfold setlB eqB
  rw [hp, Bool.true_and]
theorem wf_one {p : ProgD} (hp : plainB p = true) (hs : wfTR p = wfFR p) {x : List Int} (h : x ∈ answersL p) : x = wfTR p := by
  obtain ⟨h1, h2⟩ := wf_answer hp h
  have hx : IsP x := by
    obtain ⟨hF, ha⟩ := mem_answersL h
    exact progOk_len (ans_least ha).1 (progOk_atoms (foldR_ok hF))
  have hT : IsP (wfTR p) := by rw [wfTR_yes hp]; exact wfT_isP
  rw [← hs] at h2
  exact hx.eq hT (lessC_nil.1 h2) (lessC_nil.1 h1)
theorem setN_inj {j k : Nat} (hj : j < 4096) (hk : k < 4096) (h : setN j = setN k) : j = k := by
  have key : ∀ {n : Nat}, n < 4096 → maskOf (setN n) = n := fun {n} hn => by
    have e : setN n = mset n := by
      unfold setN
      rw [← of_same]
      unfold setOf mset
      rw [if_pos (by omega)]
      rfl
    rw [e, mask_mset hn]
  rw [← key hj, ← key hk, h]
theorem ans_single {q : ProgD} {t : List Int} : ∀ {n : Nat}, n ≤ 4096 → (∀ x ∈ ansTo q n, x = t) → (ansTo q n).length ≤ 1
  | 0, _, _ => by simp [ansTo]
  | n + 1, hn, h => by
    cases ha : ansB q (setN n)
    · rw [ansTo_no ha] at h ⊢
      exact ans_single (by omega) h
    · rw [ansTo_yes ha] at h ⊢
      have h1 := h (setN n) (List.mem_append_right _ (List.mem_singleton_self _))
      have h2 : ansTo q n = [] := by
        rw [List.eq_nil_iff_forall_not_mem]
        intro y hy
        have h3 := h y (List.mem_append_left _ hy)
        obtain ⟨k, hk, rfl, _⟩ := mem_ansTo.1 hy
        have := setN_inj (show k < 4096 by omega) (show n < 4096 by omega) (h3.trans h1.symm)
        omega
      rw [h2]; simp
theorem wf_few {p : ProgD} (hp : plainB p = true) (hs : wfTR p = wfFR p) : (answersL p).length ≤ 1 := by
  have hF := plainB_fold hp
  have h := fun x (hx : x ∈ answersL p) => wf_one hp hs hx
  rw [answersL_yes hF] at h ⊢
  have ha := progOk_atoms (foldR_ok hF)
  have h4 : (foldD p).atoms = p.atoms := rfl
  have h5 : 2 ^ p.atoms.toNat ≤ 2 ^ 12 := Nat.pow_le_pow_right (by omega) (by omega)
  exact ans_single (by omega) h

/-! ### a program that is cut -/
theorem mem_goesTo {t f : List Int} {b : List (Int × Int)} : ∀ {k : Nat}, k ≤ b.length → (goesTo t f b k = true ↔ ∃ i, i < k ∧ goesL t f (nth b i) = true)
  | 0, _ => ⟨fun h => (by cases h), fun ⟨i, hi, _⟩ => absurd hi (by omega)⟩
  | k + 1, hk => by
    show (goesTo t f b k || goesL t f (nth b k)) = true ↔ _
    rw [Bool.or_eq_true, mem_goesTo (by omega)]
    constructor
    · rintro (⟨i, hi, h⟩ | h)
      · exact ⟨i, by omega, h⟩
      · exact ⟨k, by omega, h⟩
    · rintro ⟨i, hi, h⟩
      rcases Nat.lt_or_ge i k with hik | hik
      · exact .inl ⟨i, hik, h⟩
      · obtain rfl : i = k := by omega
        exact .inr h
theorem mem_bodyTo {t f : List Int} {b : List (Int × Int)} {p : Int × Int} : ∀ {k : Nat}, k ≤ b.length → (p ∈ bodyTo t f b k ↔ ∃ i, i < k ∧ p = nth b i ∧ (goesL t f p || leftL t f p) = false)
  | 0, _ => ⟨fun h => (by cases h), fun ⟨i, hi, _⟩ => absurd hi (by omega)⟩
  | k + 1, hk => by
    have ih := mem_bodyTo (t := t) (f := f) (b := b) (p := p) (k := k) (by omega)
    cases h : (goesL t f (nth b k) || leftL t f (nth b k))
    · rw [bodyTo_in h, List.mem_append, ih, List.mem_singleton]
      constructor
      · rintro (⟨i, hi, h1⟩ | rfl)
        · exact ⟨i, by omega, h1⟩
        · exact ⟨k, by omega, rfl, h⟩
      · rintro ⟨i, hi, rfl, h1⟩
        rcases Nat.lt_or_ge i k with hik | hik
        · exact .inl ⟨i, hik, rfl, h1⟩
        · obtain rfl : i = k := by omega
          exact .inr rfl
    · rw [bodyTo_out h, ih]
      constructor
      · rintro ⟨i, hi, h1⟩; exact ⟨i, by omega, h1⟩
      · rintro ⟨i, hi, rfl, h1⟩
        rcases Nat.lt_or_ge i k with hik | hik
        · exact ⟨i, hik, rfl, h1⟩
        · obtain rfl : i = k := by omega
          rw [h] at h1; cases h1
theorem mem_cutTo {t f : List Int} {rs : List RuleD} {r : RuleD} : ∀ {k : Nat}, k ≤ rs.length → (r ∈ cutTo t f rs k ↔ ∃ i, i < k ∧ cutB t f (nth rs i) = true ∧ r = cutR t f (nth rs i))
  | 0, _ => ⟨fun h => (by cases h), fun ⟨i, hi, _⟩ => absurd hi (by omega)⟩
  | k + 1, hk => by
    have ih := mem_cutTo (t := t) (f := f) (rs := rs) (r := r) (k := k) (by omega)
    cases h : cutB t f (nth rs k)
    · rw [cutTo_no h, ih]
      constructor
      · rintro ⟨i, hi, h1⟩; exact ⟨i, by omega, h1⟩
      · rintro ⟨i, hi, h1, h2⟩
        rcases Nat.lt_or_ge i k with hik | hik
        · exact ⟨i, hik, h1, h2⟩
        · obtain rfl : i = k := by omega
          rw [h] at h1; cases h1
    · rw [cutTo_yes h, List.mem_append, ih, List.mem_singleton]
      constructor
      · rintro (⟨i, hi, h1⟩ | rfl)
        · exact ⟨i, by omega, h1⟩
        · exact ⟨k, by omega, h, rfl⟩
      · rintro ⟨i, hi, h1, rfl⟩
        rcases Nat.lt_or_ge i k with hik | hik
        · exact .inl ⟨i, hik, h1, rfl⟩
        · obtain rfl : i = k := by omega
          exact .inr rfl
theorem mem_cut {t f : List Int} {rs : List RuleD} {r : RuleD} : r ∈ cutTo t f rs rs.length ↔ ∃ s ∈ rs, cutB t f s = true ∧ r = cutR t f s := by
  rw [mem_cutTo (Nat.le_refl _)]
  constructor
  · rintro ⟨i, hi, h1, h2⟩; exact ⟨_, nth_mem hi, h1, h2⟩
  · rintro ⟨s, hs, h1, h2⟩
    obtain ⟨i, hi, rfl⟩ := List.getElem_of_mem hs
    rw [← nth_eq hi] at h1 h2
    exact ⟨i, hi, h1, h2⟩
section
variable {t f : List Int} {r : RuleD} {g : Int × Int → Bool}
theorem cutB_iff (hw : r.weight = false) : cutB t f r = true ↔ ∀ p ∈ r.body, goesL t f p = false := by
  rw [cutB_n hw, Bool.not_eq_true']
  constructor
  · intro h p hp
    cases hg : goesL t f p
    · rfl
    · obtain ⟨i, hi, rfl⟩ := List.getElem_of_mem hp
      rw [← nth_eq hi] at hg
      rw [(mem_goesTo (Nat.le_refl _)).2 ⟨i, hi, hg⟩] at h
      cases h
  · intro h
    cases hg : goesTo t f r.body r.body.length
    · rfl
    · obtain ⟨i, hi, h1⟩ := (mem_goesTo (Nat.le_refl _)).1 hg
      rw [h _ (nth_mem hi)] at h1
      cases h1
theorem cut_stays (h : ∀ p ∈ r.body, goesL t f p = true → g p = false) (hr : reachB r g = true) : cutB t f r = true := by
  cases hw : r.weight
  · rw [cutB_iff hw]
    rw [reachB_F hw, List.all_eq_true] at hr
    intro p hp
    cases hg : goesL t f p
    · rfl
    · have := hr p hp
      rw [h p hp hg] at this
      cases this
  · exact cutB_w hw
theorem cut_down (hr : reachB r g = true) : reachB (cutR t f r) g = true := by
  cases hw : r.weight
  · rw [cutR_n hw]
    rw [reachB_F hw, List.all_eq_true] at hr
    rw [reachB_F (show ({ r with body := bodyTo t f r.body r.body.length } : RuleD).weight = false from hw), List.all_eq_true]
    intro p hp
    obtain ⟨i, hi, rfl, _⟩ := (mem_bodyTo (Nat.le_refl _)).1 hp
    exact hr _ (nth_mem hi)
  · rw [cutR_w hw]; exact hr
theorem cut_up (hc : cutB t f r = true) (h : ∀ p ∈ r.body, leftL t f p = true → g p = true) (hr : reachB (cutR t f r) g = true) : reachB r g = true := by
  cases hw : r.weight
  · rw [cutB_iff hw] at hc
    rw [cutR_n hw, reachB_F (show ({ r with body := bodyTo t f r.body r.body.length } : RuleD).weight = false from hw), List.all_eq_true] at hr
    rw [reachB_F hw, List.all_eq_true]
    intro p hp
    cases hl : leftL t f p
    · obtain ⟨i, hi, rfl⟩ := List.getElem_of_mem hp
      refine hr _ ((mem_bodyTo (Nat.le_refl _)).2 ⟨i, hi, (nth_eq hi).symm, ?_⟩)
      rw [hc _ hp, hl]; rfl
    · exact h p hp hl
  · rw [cutR_w hw] at hr; exact hr
theorem cutR_heads : (cutR t f r).heads = r.heads := by unfold cutR; split <;> rfl
theorem cutR_choice : (cutR t f r).choice = r.choice := by unfold cutR; split <;> rfl
theorem cutR_put {x : List Int} : putL false x (cutR t f r) = putL false x r := by unfold putL; rw [cutR_heads, cutR_choice]
theorem cutR_ok {n : Int} (h : ruleOkB r n = true) : ruleOkB (cutR t f r) n = true := by
  cases hw : r.weight
  · rw [cutR_n hw]
    simp only [ruleOkB, headsB, bodyB, Bool.and_eq_true, List.all_eq_true, decide_eq_true_eq] at h ⊢
    obtain ⟨a1, ⟨⟨a2, a3⟩, a4⟩, a5⟩ := h
    refine ⟨a1, ⟨⟨Nat.le_trans (bodyTo_len _ _ _ _) a2, a3⟩, a4⟩, fun p hp => ?_⟩
    obtain ⟨i, hi, rfl, _⟩ := (mem_bodyTo (Nat.le_refl _)).1 hp
    exact a5 _ (nth_mem hi)
  · rw [cutR_w hw]; exact h
theorem goes_false {s y : List Int} {p : Int × Int} (hl : litB p.1 12 = true) (hs : Sub s f) (ht : Sub t y) (h : goesL t f p = true) : h2B s y p = false := by
  rcases lit12 hl with h1 | h1
  · rw [h2B_pos (by omega), holdsB_pos h1]
    unfold goesL at h
    rw [decide_eq_true (show 0 < p.1 by omega), decide_eq_false (show ¬ p.1 < 0 by omega), Bool.true_and, Bool.false_and, Bool.or_false, Bool.not_eq_true'] at h
    cases hh : hasB s p.1
    · rfl
    · rw [hs _ h1.1 h1.2 hh] at h; cases h
  · rw [h2B_neg (by omega), holdsB_neg ⟨by omega, by omega⟩]
    unfold goesL at h
    rw [decide_eq_false (show ¬ 0 < p.1 by omega), decide_eq_true (show p.1 < 0 by omega), Bool.true_and, Bool.false_and, Bool.false_or] at h
    rw [ht _ (by omega) (by omega) h]; rfl
theorem left_true {s y : List Int} {p : Int × Int} (hl : litB p.1 12 = true) (hs : Sub t s) (ht : Sub y f) (h : leftL t f p = true) : h2B s y p = true := by
  rcases lit12 hl with h1 | h1
  · rw [h2B_pos (by omega), holdsB_pos h1]
    unfold leftL at h
    rw [decide_eq_true (show 0 < p.1 by omega), decide_eq_false (show ¬ p.1 < 0 by omega), Bool.true_and, Bool.false_and, Bool.or_false] at h
    exact hs _ h1.1 h1.2 h
  · rw [h2B_neg (by omega), holdsB_neg ⟨by omega, by omega⟩]
    unfold leftL at h
    rw [decide_eq_false (show ¬ 0 < p.1 by omega), decide_eq_true (show p.1 < 0 by omega), Bool.true_and, Bool.false_and, Bool.false_or, Bool.not_eq_true'] at h
    cases hh : hasB y (-p.1)
    · rfl
    · rw [ht _ (by omega) (by omega) hh] at h; cases h
end
section
variable {q : ProgD} {x : List Int}
theorem body12 (hq : progOkB q = true) {r : RuleD} (hr : r ∈ q.rules) {p : Int × Int} (hp : p ∈ r.body) : litB p.1 12 = true := by
  have := rules12 hq r hr
  exact ((ruleOk_facts this).2.2 p hp).1
theorem cutD_ok (hq : progOkB q = true) : progOkB (cutD q) = true := by
  have hr := progOk_rules hq
  have e : rulesB (cutTo (wfT q.rules) (wfF q.rules) q.rules q.rules.length) q.atoms = true := by
    simp only [rulesB, Bool.and_eq_true, decide_eq_true_eq, List.all_eq_true]
    refine ⟨Nat.le_trans (cutTo_len _ _ _ _) hr.1, fun r h => ?_⟩
    obtain ⟨s, hs, _, rfl⟩ := mem_cut.1 h
    exact cutR_ok (hr.2 s hs)
  unfold progOkB at hq ⊢
  simp only [Bool.and_eq_true] at hq ⊢
  exact ⟨hq.1, e, hq.2.2.1, hq.2.2.2.1, hq.2.2.2.2.1, hq.2.2.2.2.2.1, hq.2.2.2.2.2.2⟩
theorem wts_cut (hq : progOkB q = true) : Wts (cutD q).rules := wts_ok (progOk_rules (cutD_ok hq)).2
/-- What is made by what is left is in what a lesser set makes. -/
theorem cut_above (hq : progOkB q = true) (hc : ∀ r ∈ q.rules, r.choice = false) (h : leastL (cutD q).rules x false = x) {y : List Int} (hy : Sub y (wfT q.rules)) (hyx : Sub y x) : Sub x (leastL q.rules y false) := by
  have hw := wts_ok (progOk_rules hq).2
  have hwc := wts_cut hq
  have hTF := wf_sub hw hc
  have hFn : Sub (wfF q.rules) (leastL q.rules y false) := least_anti hw hc hy
  have h1 : Sub (leastL (cutD q).rules x false) (leastL q.rules y false) := least_min hwc fun r hr hre => by
    have hwr := hwc r hr
    obtain ⟨s, hs, hcs, rfl⟩ := mem_cut.1 hr
    have h2 := reachB_mono hwr (fun p _ => h2B_anti hyx) hre
    have h3 := cut_up hcs (fun p hp h => left_true (body12 hq hs hp) (hTF.trans hFn) (hy.trans hTF) h) h2
    have h4 := least_closed (rs := q.rules) (xs := y) (all := false) s hs h3
    rw [cutR_put]
    rw [putL_F (by rw [hc s hs]; rfl)] at h4 ⊢
    exact h4
  rw [h] at h1
  exact h1
theorem wfIt_up {rs : List RuleD} (hw : Wts rs) (hc : ∀ r ∈ rs, r.choice = false) {n : Nat} : ∀ k, Sub (wfIt rs n) (wfIt rs (n + k))
  | 0 => Sub.refl _
  | k + 1 => (wfIt_up hw hc k).trans (wfIt_sub hw hc (n + k))
theorem wfIt_T {rs : List RuleD} (hw : Wts rs) (hc : ∀ r ∈ rs, r.choice = false) {n : Nat} (h : n ≤ 13) : Sub (wfIt rs n) (wfT rs) := by
  have := wfIt_up hw hc (n := n) (13 - n)
  rw [show n + (13 - n) = 13 by omega] at this
  exact this
/-- What is made by what is left is in what may be, and has what is well-founded. -/
theorem cut_bound (hq : progOkB q = true) (hc : ∀ r ∈ q.rules, r.choice = false) (h : leastL (cutD q).rules x false = x) : ∀ n, n ≤ 13 → Sub (wfIt q.rules n) x
  | 0, _ => fun a _ _ h => by simp [wfIt, hasB] at h
  | n + 1, hn => by
    have hw := wts_ok (progOk_rules hq).2
    have hwc := wts_cut hq
    have hTF := wf_sub hw hc
    have ih := cut_bound hq hc h n (by omega)
    have hTn := wfIt_T hw hc (n := n) (by omega)
    have hFn : Sub (wfF q.rules) (leastL q.rules (wfIt q.rules n) false) := least_anti hw hc hTn
    have hx := cut_above hq hc h hTn ih
    have hfix := wfT_fix hw hc
    show Sub (leastL q.rules (leastL q.rules (wfIt q.rules n) false) false) x
    generalize leastL q.rules (wfIt q.rules n) false = Fn at *
    have hCT : Sub (pickTo (pickM x (wfT q.rules)) 12) (wfT q.rules) := fun a h1 h2 ha => by
      rw [hasB_meet ⟨h1, h2⟩, Bool.and_eq_true] at ha; exact ha.2
    have hCx : Sub (pickTo (pickM x (wfT q.rules)) 12) x := fun a h1 h2 ha => by
      rw [hasB_meet ⟨h1, h2⟩, Bool.and_eq_true] at ha; exact ha.1
    refine Sub.trans (least_min hw (c := pickTo (pickM x (wfT q.rules)) 12) fun s hs hre => ?_) hCx
    have hws := hw s hs
    have h1 : Sub s.heads (wfT q.rules) := by
      have h3 := least_closed (rs := q.rules) (xs := wfF q.rules) (all := false) s hs (by
        rw [hfix]
        exact reachB_mono hws (fun p _ hp => h2B_anti hFn (h2B_mono hCT hp)) hre)
      rw [putL_F (by rw [hc s hs]; rfl), hfix] at h3
      exact h3
    have hcs : cutB (wfT q.rules) (wfF q.rules) s = true := cut_stays (fun p hp h => goes_false (body12 hq hs hp) (hCT.trans hTF) (hTF.trans hFn) h) hre
    have h2 : Sub s.heads x := by
      have hm := mem_cut.2 ⟨s, hs, hcs, rfl⟩
      have h3 := least_closed (rs := (cutD q).rules) (xs := x) (all := false) _ hm (by
        rw [h]
        exact reachB_mono (hwc _ hm) (fun p _ hp => h2B_anti hx (h2B_mono hCx hp)) (cut_down hre))
      rw [cutR_put, putL_F (by rw [hc s hs]; rfl), h] at h3
      exact h3
    rw [putL_F (by rw [hc s hs]; rfl)]
    intro a a1 a2 ha
    rw [hasB_meet ⟨a1, a2⟩, h2 a a1 a2 ha, h1 a a1 a2 ha]
    rfl
end

end Go.Proofs.YthfbnalgnnjbbaaGreat
