/-
  What must be: the work list of the program, what it makes of values, what the program answers. No condition of its own.
-/
import Derived.Test.YtingnpnnacafbaaGreatPropI
import Derived.Test.YtingnpnnacafbaaGreatPropS
namespace Go.Proofs.YtingnpnnacafbaaGreat
set_option linter.unusedVariables false
set_option linter.unusedSimpArgs false
open Go.RowKit
set_option maxRecDepth 100000

/-! ### PropJ -/
set_option linter.unusedVariables false
set_option linter.unusedSimpArgs false

theorem rowI_same {xs : List Int} {k : Nat} (hk : k < xs.length) (h : el xs k = 0) : rowI xs (k + 1) = rowI xs k := by
  unfold rowI
  obtain ⟨m, hm⟩ : ∃ m, xs.length - k = m + 1 := ⟨xs.length - k - 1, by omega⟩
  rw [hm, show xs.length - (k + 1) = m by omega, take_el hk, List.map_append, h, List.replicate_succ]
  simp
theorem hasM_tM {vs : List Int} {k : Nat} (hk : k < vs.length) (hl : vs.length ≤ 12) : hasM (tM vs) ((k : Int) + 1) = decide (el vs k = 1) := by
  unfold tM; rw [hasM_with ⟨by omega, by omega⟩, valB_at hk]
theorem hasM_fM {vs : List Int} {k : Nat} (hk : k < vs.length) (hl : vs.length ≤ 12) : hasM (fM vs) ((k : Int) + 1) = decide (el vs k = 2) := by
  unfold fM; rw [hasM_with ⟨by omega, by omega⟩, valB_at hk]
set_option maxHeartbeats 4000000 in
theorem valsList_calls (vs : List Int) (w : World) (hv : VOk vs.length vs) :
    Calls Tryz.prog 43 #[.agg #[.int .u16 (tM vs : Int), .int .u16 (fM vs : Int)], .int .i64 (vs.length : Int)] w fun e w' => ∃ u, e = .returned u ∧ OwnI w.heap.size w' u vs ∧ Below w.heap.size w w' := by
  obtain ⟨i0, hi, hz0, hz1, hz2⟩ := info_parts info_int
  have hl12 := hv.2.1
  have hm := tM_lt vs
  have hf := fM_lt vs
  have tb := (Below.refl w.heap.size w).alloc (Nat.le_refl _) (.cells #[.int .u16 (tM vs : Int), .int .u16 (fM vs : Int)] 75)
  have CX0 := Cells.new w [.int .u16 (tM vs : Int), .int .u16 (fM vs : Int)] 75
  have hfit : ∀ n ∈ vs, Fits n := fun n hn => by rcases hv.2.2 n hn with e | e | e <;> (rw [e]; exact ⟨by omega, by omega⟩)
  go_enter Tryz.func43, Tryz.ntmps43
  go_wp2_with (at_make; refine wpList_make_full _ rfl _ _ 26 rfl (w.heap.size + 1) 3 i0 (.int .i64 0) 1 Tryz.underlying26 hi hz0 hz1 _ _ _ _ vs.length rfl rfl rfl rfl ?c1 ?c2 ?c3 ?_)
  case c1 => rw [hz2]; omega
  case c2 => unfold maxLen; omega
  case c3 => simp
  intro w1 hown hgrow
  have hown' : w1.ownsRow (w.heap.size + 1) 3 1 (.slice (some ⟨w.heap.size + 1, 0, none⟩) vs.length vs.length) vs.length (rowI vs 0) := by
    rw [rowI_zero]; simpa [toList_madeCells_one] using hown
  have hb0 : Below (w.heap.size + 1) (w.alloc (.cells #[.int .u16 (tM vs : Int), .int .u16 (fM vs : Int)] 75)) w1 := (Below.refl _ _).grown hgrow (by simp) (fun k hk => by cases hk)
  have CX := CX0.kept (hb0.block w.heap.size (by omega))
  have t1 : Below w.heap.size w w1 := tb.trans (hb0.mono (by omega))
  have hz1' : w.heap.size + 1 ≤ w1.heap.size := by have := hb0.size; rw [World.size_alloc] at this; exact this
  clear hown hgrow hb0 CX0 tb
  go_wp2
  go_loopw [11] (fun i wr => ∃ k : Nat, k ≤ vs.length ∧ i = .int .i64 k ∧ wr.ownsRow (w.heap.size + 1) 3 1 (.slice (some ⟨w.heap.size + 1, 0, none⟩) vs.length vs.length) vs.length (rowI vs k) ∧ Below (w.heap.size + 1) w1 wr) (fun i _ => vs.length - (intOf i).toNat)
  case atStart => exact ⟨0, Nat.zero_le _, rfl, hown', Below.refl _ _⟩
  case round =>
    obtain ⟨k, hk, rfl, ho, hb⟩ := hrel
    clear hown'
    by_cases hlt : k < vs.length
    · have hzr := hb.size
      have hX := CX.kept (hb.block w.heap.size (by omega))
      obtain ⟨v0, v1⟩ := cells2 hX
      have hcs := ho.cellAt k (by omega)
      rw [rowI_get hlt] at hcs
      have hfr := ho.frozenAt k
      have hF : Fits ((k : Int) + 1) := ⟨by omega, by omega⟩
      have hT := hasM_tM hlt hl12
      have hT2 := hasM_fM hlt hl12
      rcases hv.el hlt with h0 | h0 | h0
      · have hN := Lib.hid (rowI_same hlt h0)
        rw [h0] at hT hT2
        clear h0
        go_wp2_with (first | (go_at_call 97; refine (has_calls (tM vs) _ _ hm hF).mono ?_; rintro e w' ⟨he, rfl⟩; rw [hT] at he; subst he) | (go_at_call 97; refine (has_calls (fM vs) _ _ hf hF).mono ?_; rintro e w' ⟨he, rfl⟩; rw [hT2] at he; subst he))
        go_roundw
        case rel => exact ⟨k + 1, by omega, by go_num, by rw [hN.out]; exact ho, hb⟩
        case measure => simp [intOf]; omega
      · have hst := ho.stored k (.int .i64 (el vs k))
        rw [rowI_set hlt, h0] at hst
        obtain ⟨hst1, hst2⟩ := hst
        rw [h0] at hT hT2
        clear h0
        go_wp2_with (first | (go_at_call 97; refine (has_calls (tM vs) _ _ hm hF).mono ?_; rintro e w' ⟨he, rfl⟩; rw [hT] at he; subst he) | (go_at_call 97; refine (has_calls (fM vs) _ _ hf hF).mono ?_; rintro e w' ⟨he, rfl⟩; rw [hT2] at he; subst he))
        go_roundw
        case rel => exact ⟨k + 1, by omega, by go_num, hst1, hb.setCell (Nat.le_refl _) _⟩
        case measure => simp [intOf]; omega
      · have hst := ho.stored k (.int .i64 (el vs k))
        rw [rowI_set hlt, h0] at hst
        obtain ⟨hst1, hst2⟩ := hst
        rw [h0] at hT hT2
        clear h0
        go_wp2_with (first | (go_at_call 97; refine (has_calls (tM vs) _ _ hm hF).mono ?_; rintro e w' ⟨he, rfl⟩; rw [hT] at he; subst he) | (go_at_call 97; refine (has_calls (fM vs) _ _ hf hF).mono ?_; rintro e w' ⟨he, rfl⟩; rw [hT2] at he; subst he))
        go_roundw
        case rel => exact ⟨k + 1, by omega, by go_num, hst1, hb.setCell (Nat.le_refl _) _⟩
        case measure => simp [intOf]; omega
    · obtain rfl : k = vs.length := by omega
      have HO : OwnI (w.heap.size + 1) wr (.slice (some ⟨w.heap.size + 1, 0, none⟩) vs.length vs.length) vs := ⟨by rw [rowI_all] at ho; exact ho, by omega, hfit⟩
      go_wp2
      go_ret
      exact ⟨_, rfl, HO.mono (by omega), t1.trans (hb.mono (by omega))⟩

/-! ### the tasks in their order -/
/-- A rule without Choice, or (none) all rules together. -/
def tOne (q : ProgD) (t : Option RuleD) (vs : List Int) : Option (List Int) := match t with
  | some r => fOne r vs
  | none => exAll q vs
/-- The tasks of the first k rules. -/
def workTo (rs : List RuleD) : Nat → List (Option RuleD)
  | 0 => []
  | k + 1 => if (nth rs k).choice then workTo rs k else workTo rs k ++ [some (nth rs k)]
theorem workTo_ch {rs : List RuleD} {k : Nat} (h : (nth rs k).choice = true) : workTo rs (k + 1) = workTo rs k := if_pos h
theorem workTo_no {rs : List RuleD} {k : Nat} (h : (nth rs k).choice = false) : workTo rs (k + 1) = workTo rs k ++ [some (nth rs k)] := by
  show (if (nth rs k).choice = true then _ else _) = _
  rw [h]; rfl
def workL (rs : List RuleD) : List (Option RuleD) := workTo rs rs.length ++ [none]
theorem workTo_len (rs : List RuleD) : ∀ k, (workTo rs k).length ≤ k
  | 0 => Nat.le_refl _
  | k + 1 => by
    have ih := workTo_len rs k
    cases h : (nth rs k).choice
    · rw [workTo_no h, List.length_append, List.length_singleton]; omega
    · rw [workTo_ch h]; omega
/-- What tasks make of values, one behind the other. -/
def tRun (q : ProgD) (vs : List Int) (ts : List (Option RuleD)) : Option (List Int) := ts.foldl (fun o t => o.bind (tOne q t)) (some vs)
theorem tRun_snoc {q : ProgD} {vs : List Int} {ts : List (Option RuleD)} {t : Option RuleD} : tRun q vs (ts ++ [t]) = (tRun q vs ts).bind (tOne q t) := by
  unfold tRun; rw [List.foldl_append]; rfl
theorem tRun_work (q : ProgD) (vs : List Int) (rs : List RuleD) : ∀ k, tRun q vs (workTo rs k) = fTo rs vs k
  | 0 => rfl
  | k + 1 => by
    have ih := tRun_work q vs rs k
    cases h : (nth rs k).choice
    · rw [workTo_no h, tRun_snoc, ih]; rfl
    · rw [workTo_ch h, ih]
      show _ = (fTo rs vs k).bind (fOne (nth rs k))
      cases e : fTo rs vs k with
      | none => rfl
      | some us => exact (fOne_ch h).symm
theorem tRun_all (q : ProgD) (vs : List Int) : tRun q vs (workL q.rules) = roundV q vs := by
  unfold workL roundV
  rw [tRun_snoc, tRun_work]; rfl
theorem tRun_next {q : ProgD} {vs us : List Int} {ts : List (Option RuleD)} {k : Nat} (hk : k < ts.length) (h : tRun q vs (ts.take k) = some us) : tRun q vs (ts.take (k + 1)) = tOne q (nth ts k) us := by
  rw [take_nth hk, tRun_snoc, h]; rfl
theorem tRun_none {q : ProgD} {vs : List Int} {ts : List (Option RuleD)} {k : Nat} (h : tRun q vs (ts.take k) = none) : ∀ {m : Nat}, k ≤ m → m ≤ ts.length → tRun q vs (ts.take m) = none
  | 0, hm, _ => by rw [show k = 0 by omega] at h; exact h
  | m + 1, hm, hl => by
    by_cases e : k = m + 1
    · rw [e] at h; exact h
    · rw [take_nth (by omega), tRun_snoc, tRun_none h (by omega) (by omega)]; rfl
theorem tRun_clash {q : ProgD} {vs : List Int} {k : Nat} (hk : k ≤ (workL q.rules).length) (h : tRun q vs ((workL q.rules).take k) = none) : roundV q vs = none := by
  rw [← tRun_all]
  have := tRun_none h hk (Nat.le_refl _)
  rwa [List.take_length] at this
theorem tOne_ok {q : ProgD} {t : Option RuleD} {n : Nat} {vs us : List Int} (hn : q.atoms.toNat = n) (hv : VOk n vs) (hok : ∀ r, t = some r → ruleOkB r (n : Int) = true) (h : tOne q t vs = some us) : VOk n us ∧ Ext vs us := by
  cases t with
  | some r => exact fOne_ok hv (hok r rfl) h
  | none =>
    have h2 : exTo (comeL q.rules vs) vs q.atoms.toNat = some us := h
    rw [hn] at h2
    exact exTo_ok hv (Nat.le_refl _) h2

/-! ### PropK -/
set_option linter.unusedVariables false
set_option linter.unusedSimpArgs false

theorem info_task : (Tryz.prog.info? 139).map (fun i => (i.zero, i.size, i.bytes)) = some (some .nilFunc, 1, 8) := by kernel_rfl
/-- 'work = append(work, do)' on a row of the call's own. -/
theorem wpList_append_task {ops : Array Oper} {rest : List Oper} {o : Oper} {a : Act} {Q : Exit → Act → World → Prop} {w : World} {B : Nat} {v : Value} {us : List Value} {u : Value} (hgd : o.guard = none) (s x : Operand)
    (ho : o.op = .call { callee := .builtin .append, args := #[s, x], argTypes := #[78, 78] })
    (hs : a.eval s = v) (hown : w.ownsRow B 139 1 v us.length us) {N : Nat} (hN : N = w.heap.size) (hx : a.eval x = .slice (some ⟨N, 0, none⟩) 1 1) (hl : us.length ≤ 100000) (hu : u.oneCell' = true) (hB : B ≤ w.heap.size)
    (h : ∀ v' w', w'.ownsRow B 139 1 v' (us ++ [u]).length (us ++ [u]) → Below B w w' → w.grownBy w' v.ownBlock → wpList Tryz.prog ops Q rest (a.put o.dst v') w') : wpList Tryz.prog ops Q (o :: rest) a (w.alloc (.cells #[u] 139)) := by
  subst hN
  obtain ⟨i0, hi, hz0, hz1, hz2⟩ := info_parts info_task
  refine wpList_append_own _ hgd s x 78 ho B 139 i0 .nilFunc 1 8 Tryz.underlying78 hi hz0 hz1 hz2 rfl (by decide) v us.length us hs (hown.alloc _) ⟨w.heap.size, 0, none⟩ 1 1 [u] hx rfl ?_ ?_ ?_ ?_ ?_ ?_
  · intro j y hj
    match j, hj with
    | 0, hj => simp at hj; subst hj; simp [Addr.add, World.cell?_alloc_at]
    | j + 1, hj => simp at hj
  · intro y hy; simp at hy; subst hy; exact hu
  · unfold maxLen; omega
  · omega
  · simp; omega
  · intro v' w' h1 h2 _
    have hg : w.grownBy w' v.ownBlock := by
      refine ⟨h2.os, h2.tape, h2.output, Nat.le_trans (by simp) h2.size, fun k hk hne => ?_⟩
      rw [h2.block k (by simp; omega) hne, Below.heap_alloc _ _ _ hk]
    exact h v' w' (by simpa using h1) ((Below.refl _ _).grown hg hB (fun k hk => (hown.lt k hk).1)) hg

/-- A function value that carries a task out. -/
def TaskV (q : ProgD) (w : World) (t : Option RuleD) (u : Value) : Prop := match t with
  | some r => r ∈ q.rules ∧ r.choice = false ∧ ∃ cs : List Value, Rd.R w cs r ∧ ((r.heads = [] ∧ u = .func (.func 92) #[.agg cs.toArray] #[]) ∨ (r.heads ≠ [] ∧ u = .func (.func 93) #[.agg cs.toArray] #[]))
  | none => ∃ cs : List Value, Rd.R w cs q ∧ u = .func (.func 94) #[.agg cs.toArray] #[]
theorem TaskV.later {q : ProgD} {w w' : World} {t : Option RuleD} {u : Value} (h : TaskV q w t u) (hb : Below w.heap.size w w') : TaskV q w' t u := by
  cases t with
  | some r =>
    obtain ⟨h1, h2, cs, h3, h4⟩ := h
    exact ⟨h1, h2, cs, Rd.mono hb h3, h4⟩
  | none =>
    obtain ⟨cs, h3, h4⟩ := h
    exact ⟨cs, Rd.mono hb h3, h4⟩
/-- The tasks ts stand, in w, as the values us. -/
def Tasks (q : ProgD) (w : World) (ts : List (Option RuleD)) (us : List Value) : Prop := us.length = ts.length ∧ ∀ i, i < ts.length → TaskV q w (nth ts i) (nth us i)
theorem Tasks.later {q : ProgD} {w w' : World} {ts : List (Option RuleD)} {us : List Value} (h : Tasks q w ts us) (hb : Below w.heap.size w w') : Tasks q w' ts us := ⟨h.1, fun i hi => (h.2 i hi).later hb⟩
theorem Tasks.snoc {q : ProgD} {w : World} {ts : List (Option RuleD)} {us : List Value} {t : Option RuleD} {u : Value} (h : Tasks q w ts us) (hu : TaskV q w t u) : Tasks q w (ts ++ [t]) (us ++ [u]) := by
  refine ⟨by simp [h.1], fun i hi => ?_⟩
  rw [List.length_append, List.length_singleton] at hi
  rcases Nat.lt_or_ge i ts.length with hlt | hge
  · have e1 : nth (ts ++ [t]) i = nth ts i := by rw [nth_eq (by simp; omega), nth_eq hlt, List.getElem_append_left hlt]
    have e2 : nth (us ++ [u]) i = nth us i := by rw [nth_eq (by simp [h.1]; omega), nth_eq (by rw [h.1]; exact hlt), List.getElem_append_left (by rw [h.1]; exact hlt)]
    rw [e1, e2]
    exact h.2 i hlt
  · obtain rfl : i = ts.length := by omega
    have e1 : nth (ts ++ [t]) ts.length = t := by rw [nth_eq (by simp)]; simp
    have e2 : nth (us ++ [u]) ts.length = u := by rw [← h.1, nth_eq (by simp)]; simp
    rw [e1, e2]
    exact hu
set_option maxHeartbeats 4000000 in
theorem workList_calls {cs : List Value} {q : ProgD} {w : World} (h : Rd.R w cs q) (hlen : q.rules.length ≤ 60) :
    Calls Tryz.prog 40 #[.agg cs.toArray] w fun e w' => ∃ v us, e = .returned v ∧ w'.ownsRow (w.heap.size + 1) 139 1 v us.length us ∧ Tasks q w (workL q.rules) us ∧ Below w.heap.size w w' := by
  have hmf : ∀ (fn : Fn) (first cap : Array Value) (w : World), (Instr.makeFunc fn first cap).run Tryz.prog w = .ok (.func fn first cap) w := fun _ _ _ _ => rfl
  have hQ := h
  obtain ⟨c1, c2, c4, c5, c6, c7, rfl, hf, g1, g2, g4, g5, g6, g7⟩ := h
  obtain ⟨a1, k1, rfl, _, h1⟩ := g1.sl
  have hm1 := h1.1
  have tb := (Below.refl w.heap.size w).alloc (Nat.le_refl _) (.cells #[.int .i64 q.atoms, .slice a1 q.rules.length k1, c2, .bool q.projOn, c4, c5, c6, c7] 30)
  have CX0 := Cells.new w [.int .i64 q.atoms, .slice a1 q.rules.length k1, c2, .bool q.projOn, c4, c5, c6, c7] 30
  have hsz0 : (w.alloc (.cells #[.int .i64 q.atoms, .slice a1 q.rules.length k1, c2, .bool q.projOn, c4, c5, c6, c7] 30)).heap.size = w.heap.size + 1 := World.size_alloc _ _
  clear g1 g2 g4 g5 g6 g7 hf
  go_enter Tryz.func40, Tryz.ntmps40
  go_wp2
  generalize hw0 : w.alloc (.cells #[.int .i64 q.atoms, .slice a1 q.rules.length k1, c2, .bool q.projOn, c4, c5, c6, c7] 30) = w0 at *
  clear hw0
  have CXH := Lib.hid CX0
  have TBH := Lib.hid tb
  clear CX0 tb
  go_loopw [3, 9] (fun v i wr => ∃ (k : Nat) (us : List Value), k ≤ q.rules.length ∧ i = .int .i64 k ∧ wr.ownsRow (w.heap.size + 1) 139 1 v us.length us ∧ Hid (Tasks q w (workTo q.rules k) us) ∧ Below (w.heap.size + 1) w0 wr) (fun _ i _ => q.rules.length - (intOf i).toNat)
  case atStart => exact ⟨0, [], Nat.zero_le _, rfl, World.ownsRow_nil _ _ _ _, ⟨rfl, fun i hi => absurd hi (by simp [workTo])⟩, Below.refl _ _⟩
  case round =>
    obtain ⟨k, us, hk, rfl, ho, hT, hb⟩ := hrel
    have hbw : Below w.heap.size w wr := TBH.out.trans (hb.mono (by omega))
    have hzr := hb.size
    have hul : us.length ≤ 60 := by have := hT.out.1; have := workTo_len q.rules k; omega
    by_cases hlt : k < q.rules.length
    · obtain ⟨b, off, rfl, hc⟩ := h1.base (by omega)
      obtain ⟨ecs, hC, hR⟩ := hc k hlt
      have hmem : Hid (nth q.rules k ∈ q.rules) := nth_mem hlt
      have hC := hC.later hbw
      obtain ⟨ah, kh, ab, kb, rfl, _⟩ := rd5I hR
      have u0 := hC.c0
      have u1 := hC.c1
      have u2 := hC.c2
      have u3 := hC.c3
      have u4 := hC.c4
      rw [show Rd.k RuleD = 5 from rfl] at u0 u1 u2 u3 u4
      have bA := (Below.refl wr.heap.size wr).alloc (Nat.le_refl _) (.cells #[.bool (nth q.rules k).choice, .slice ah (nth q.rules k).heads.length kh, .bool (nth q.rules k).weight, .int .i64 (nth q.rules k).bound, .slice ab (nth q.rules k).body.length kb] 129)
      have CXr := Cells.new wr [.bool (nth q.rules k).choice, .slice ah (nth q.rules k).heads.length kh, .bool (nth q.rules k).weight, .int .i64 (nth q.rules k).bound, .slice ab (nth q.rules k).body.length kb] 129
      have hoA := ho.alloc (.cells #[.bool (nth q.rules k).choice, .slice ah (nth q.rules k).heads.length kh, .bool (nth q.rules k).weight, .int .i64 (nth q.rules k).bound, .slice ab (nth q.rules k).body.length kb] 129)
      have hbA := hb.trans (bA.mono (by omega))
      clear hC hc
      cases hc : (nth q.rules k).choice
      · have hW := Lib.hid (workTo_no hc)
        have HC := Lib.hid hc
        rw [hc] at u0 bA CXr hoA hbA hR
        have HR := Lib.hid hR
        obtain ⟨z0, z1, z2, z3, z4⟩ := cells5 CXr
        clear hc hR
        cases hh : (nth q.rules k).heads with
        | nil =>
          have hlb : (((nth q.rules k).heads.length : Int) == 0) = true := by rw [hh]; rfl
          have HH := Lib.hid hh
          clear hh
          go_wp2_with (at_builtin; refine wpList_append_task rfl _ _ rfl rfl hoA ?p0 rfl ?p1 ?p2 ?p3 ?_)
          case p0 => simp
          case p1 => omega
          case p2 => rfl
          case p3 => first | (simp; omega) | omega
          intro v' w' ho' hb' hg'
          go_wp2
          go_roundw
          case rel => exact ⟨k + 1, us ++ [_], by omega, by go_num, by simpa using ho', by show Tasks _ _ _ _; rw [hW.out]; exact hT.out.snoc ⟨hmem.out, HC.out, _, HR.out, .inl ⟨HH.out, rfl⟩⟩, hbA.trans hb'⟩
          case measure => simp [intOf]; omega
        | cons a l =>
          have hlb : (((nth q.rules k).heads.length : Int) == 0) = false := by rw [hh]; simp; omega
          have HH : Hid (¬ (nth q.rules k).heads = []) := by show ¬ _; rw [hh]; simp
          clear hh
          go_wp2_with (at_builtin; refine wpList_append_task rfl _ _ rfl rfl hoA ?p0 rfl ?p1 ?p2 ?p3 ?_)
          case p0 => simp
          case p1 => omega
          case p2 => rfl
          case p3 => first | (simp; omega) | omega
          intro v' w' ho' hb' hg'
          go_wp2
          go_roundw
          case rel => exact ⟨k + 1, us ++ [_], by omega, by go_num, by simpa using ho', by show Tasks _ _ _ _; rw [hW.out]; exact hT.out.snoc ⟨hmem.out, HC.out, _, HR.out, .inr ⟨HH.out, rfl⟩⟩, hbA.trans hb'⟩
          case measure => simp [intOf]; omega
      · have hW := Lib.hid (workTo_ch hc)
        rw [hc] at u0 bA CXr hoA hbA
        obtain ⟨z0, z1, z2, z3, z4⟩ := cells5 CXr
        clear hc hR
        go_wp2
        go_roundw
        case rel => exact ⟨k + 1, us, by omega, by go_num, hoA, by show Tasks _ _ _ _; rw [hW.out]; exact hT.out, hbA⟩
        case measure => simp [intOf]; omega
    · obtain rfl : k = q.rules.length := by omega
      have CX := CXH.out.kept (hb.block w.heap.size (by omega))
      obtain ⟨z0, z1, z2, z3, z4, z5, z6, z7⟩ := cells8 CX
      have HQ := Lib.hid hQ
      have hoA := ho
      go_wp2_with (at_builtin; refine wpList_append_task rfl _ _ rfl rfl hoA ?p0 rfl ?p1 ?p2 ?p3 ?_)
      case p0 => simp
      case p1 => omega
      case p2 => rfl
      case p3 => first | (simp; omega) | omega
      intro v' w' ho' hb' hg'
      go_wp2
      go_ret
      refine ⟨v', us ++ [_], rfl, ?_, hT.out.snoc ⟨_, HQ.out, rfl⟩, hbw.trans (hb'.mono (by omega))⟩
      simpa using ho'


/-! ### what the tasks make of values -/
/-- The list that two numbers tell. -/
def rdV (n m f : Nat) : List Int := (List.range n).map fun (i : Nat) => if hasM m ((i : Int) + 1) then 1 else if hasM f ((i : Int) + 1) then 2 else 0
theorem rdV_at {vs : List Int} (hv : VOk vs.length vs) : rdV vs.length (tM vs) (fM vs) = vs := by
  refine list_ext_el (by simp [rdV]) fun i hi => ?_
  have hi' : i < vs.length := by simpa [rdV] using hi
  have he : el (rdV vs.length (tM vs) (fM vs)) i = if hasM (tM vs) ((i : Int) + 1) then 1 else if hasM (fM vs) ((i : Int) + 1) then 2 else 0 := by
    unfold el rdV; rw [List.getD_eq_getElem?_getD, List.getElem?_map, List.getElem?_range hi']; rfl
  rw [he, hasM_tM hi' hv.2.1, hasM_fM hi' hv.2.1]
  rcases hv.el hi' with e | e | e <;> (rw [e]; rfl)
theorem vals_eq {n : Nat} {us vs : List Int} (hu : VOk n us) (hv : VOk n vs) (ht : tM us = tM vs) (hf : fM us = fM vs) : us = vs := by
  have e1 := rdV_at (vs := us) ⟨rfl, by have := hu.1; have := hu.2.1; omega, hu.2.2⟩
  have e2 := rdV_at (vs := vs) ⟨rfl, by have := hv.1; have := hv.2.1; omega, hv.2.2⟩
  rw [← e1, ← e2, ht, hf, hu.1, hv.1]
def boxN (w : World) (g j : Nat) : Nat := match w.cell? ⟨g, j, none⟩ with
  | some (.int _ x) => x.toNat
  | _ => 0
theorem boxN_eq {w : World} {g j m : Nat} {k : IntKind} (h : w.cell? ⟨g, j, none⟩ = some (.int k (m : Int))) : boxN w g j = m := by
  unfold boxN; rw [h]; exact Int.toNat_natCast m

/-- A box of values. -/
def BX (w : World) (g : Nat) (m f : Int) : Prop := w.heap[g]? = some (.cells ([.int .u16 m, .int .u16 f] : List Value).toArray 75 (0, 0))
theorem BX.lt {w : World} {g : Nat} {m f : Int} (h : BX w g m f) : g < w.heap.size := block_lt h
theorem BX.kept {w w' : World} {g : Nat} {m f : Int} (h : BX w g m f) (hk : w'.heap[g]? = w.heap[g]?) : BX w' g m f := hk.trans h
theorem BX.later {w w' : World} {g : Nat} {m f : Int} (h : BX w g m f) (hb : Below w.heap.size w w') : BX w' g m f := h.kept (hb.block g h.lt)
theorem BX.alloc {w : World} {g : Nat} {m f : Int} (h : BX w g m f) (o : Obj) : BX (w.alloc o) g m f := h.kept (Below.heap_alloc _ _ _ h.lt)
theorem BX.far {w : World} {g k i : Nat} {m f : Int} (h : BX w g m f) (hne : g ≠ k) (v : Value) : BX (w.setCell ⟨k, i, none⟩ v) g m f := h.kept (Below.heap_setCell _ _ _ _ hne)
theorem BX.set {w : World} {g : Nat} {m f : Int} (h : BX w g m f) (m' f' : Int) : BX ((w.setCell ⟨g, 0, none⟩ (.int .u16 m')).setCell ⟨g, 1, none⟩ (.int .u16 f')) g m' f' := bx_set (i := 1) (bx_set (i := 0) h (.int .u16 m')) (.int .u16 f')
theorem BX.cells {w : World} {g : Nat} {m f : Int} (h : BX w g m f) : w.cell? ⟨g, 0, none⟩ = some (.int .u16 m) ∧ w.cell? ⟨g, 1, none⟩ = some (.int .u16 f) := cells2 (bx_cells h)
theorem BX.frz {w : World} {g : Nat} {m f : Int} (h : BX w g m f) (j : Nat) : w.frozen? ⟨g, j, none⟩ = false := frozen_of_row w g j _ _ h
theorem BX.new (w : World) (m f : Int) : BX (w.alloc (.cells #[.int .u16 m, .int .u16 f] 75)) w.heap.size m f := heap_alloc_new w (.cells #[.int .u16 m, .int .u16 f] 75)
set_option maxHeartbeats 8000000 in
theorem propagate_calls {q : ProgD} {w : World} {b cap : Nat} {ts : List Value} {vs : List Int} (hC : Cells w b 0 ts) (hT : Tasks q w (workL q.rules) ts) (hle : ts.length ≤ 61) (hn : q.atoms = (vs.length : Int)) (hv : VOk vs.length vs) (hok : ∀ r ∈ q.rules, ruleOkB r (vs.length : Int) = true) :
    Calls Tryz.prog 41 #[.slice (some ⟨b, 0, none⟩) ts.length cap, .agg #[.int .u16 (tM vs : Int), .int .u16 (fM vs : Int)]] w (TaskR (goN q 13 vs) w) := by
  have hl12 := hv.2.1
  have hok12 : Hid (∀ r ∈ q.rules, ruleOkB r 12 = true) := fun r hr => ruleOkB_mono (hok r hr) (by omega) (by omega)
  have HOK := Lib.hid hok
  have HN : Hid (q.atoms = (vs.length : Int)) := hn
  have HQN : Hid (q.atoms.toNat = vs.length) := by show _ = _; omega
  have HTL : Hid (ts.length = (workL q.rules).length) := hT.1
  have HT := Lib.hid hT.2
  obtain ⟨R, hR⟩ : ∃ R, R = goN q 13 vs := ⟨_, rfl⟩
  have HR := Lib.hid hR
  rw [← hR]
  have HCC := Lib.hid hC
  clear hok hn hT hR hC
  have tb := ((Below.refl w.heap.size w).alloc (Nat.le_refl _) (.cells #[.int .u16 (tM vs : Int), .int .u16 (fM vs : Int)] 75)).alloc (by simp) (.cells #[.int .u16 0, .int .u16 0] 75)
  have h3 := (BX.new w (tM vs : Int) (fM vs : Int)).alloc (.cells #[.int .u16 0, .int .u16 0] 75)
  have h4 := BX.new (w.alloc (.cells #[.int .u16 (tM vs : Int), .int .u16 (fM vs : Int)] 75)) 0 0
  rw [World.size_alloc] at h4
  go_enter Tryz.func41, Tryz.ntmps41
  go_wp2
  generalize hw0 : (w.alloc (.cells #[.int .u16 (tM vs : Int), .int .u16 (fM vs : Int)] 75)).alloc (.cells #[.int .u16 0, .int .u16 0] 75) = w0 at *
  clear hw0
  go_loopw [5] (fun _ wr => ∃ (f : Nat) (us : List Int), zer us < f ∧ Hid (goN q f us = R) ∧ Hid (VOk vs.length us) ∧ BX wr w.heap.size (tM us : Int) (fM us : Int) ∧ BX wr (w.heap.size + 1) 0 0 ∧ Below w.heap.size w wr) (fun _ wr => zer (rdV vs.length (boxN wr w.heap.size 0) (boxN wr w.heap.size 1)))
  case atStart => exact ⟨13, vs, by have := zer_le vs; omega, HR.out.symm, hv, h3, h4, tb⟩
  case round =>
    clear h3 h4 tb
    obtain ⟨f, us, hzf, hG, hV, h3, h4, hb⟩ := hrel
    obtain ⟨f, rfl⟩ : ∃ f', f = f' + 1 := ⟨f - 1, by omega⟩
    obtain ⟨y0, y1⟩ := h3.cells
    obtain ⟨wq, rfl⟩ : ∃ wq : World, wq = wr := ⟨_, rfl⟩
    have hzq := h4.lt
    have MEA : Hid (rdV vs.length (boxN wq w.heap.size 0) (boxN wq w.heap.size 1) = us) := by
      show _ = _
      rw [boxN_eq y0, boxN_eq y1, ← hV.out.1]
      exact rdV_at ⟨rfl, by have := hV.out.1; have := hV.out.2.1; omega, hV.out.2.2⟩
    have h3 := h3.alloc (.cells #[.int .u16 (tM us : Int), .int .u16 (fM us : Int)] 75)
    have h4 := h4.alloc (.cells #[.int .u16 (tM us : Int), .int .u16 (fM us : Int)] 75)
    have h6 := BX.new wq (tM us : Int) (fM us : Int)
    have hb := hb.alloc (by omega) (.cells #[.int .u16 (tM us : Int), .int .u16 (fM us : Int)] 75)
    go_wp2
    go_loopw [13] (fun i wi => ∃ (k : Nat) (xs : List Int), k ≤ ts.length ∧ i = .int .i64 k ∧ Hid (tRun q us ((workL q.rules).take k) = some xs) ∧ Hid (VOk vs.length xs) ∧ BX wi w.heap.size (tM xs : Int) (fM xs : Int) ∧ BX wi (w.heap.size + 1) 0 0 ∧ BX wi wq.heap.size (tM us : Int) (fM us : Int) ∧ Below w.heap.size w wi) (fun i _ => ts.length - (intOf i).toNat)
    case atStart => exact ⟨0, us, Nat.zero_le _, rfl, rfl, hV, h3, h4, h6, hb⟩
    case round =>
      clear h3 h4 h6 hb y0 y1
      obtain ⟨k, xs, hk, rfl, HX, HVX, h3i, h4i, h6i, hbi⟩ := hrel
      obtain ⟨y0, y1⟩ := h3i.cells
      have HLX : Hid (xs.length = vs.length) := HVX.out.1
      have hvx : Hid (VOk xs.length xs) := ⟨rfl, by have := HLX.out; omega, HVX.out.2.2⟩
      by_cases hlt : k < ts.length
      · have hcs := HCC.out.later hbi k (nth ts k) (by rw [nth_eq hlt]; exact List.getElem?_eq_getElem hlt)
        rw [Nat.zero_add] at hcs
        have hTV := HT.out k (by have := HTL.out; omega)
        cases ht : nth (workL q.rules) k with
        | none =>
          rw [ht] at hTV
          obtain ⟨cs, hQ, hu⟩ := hTV
          rw [hu] at hcs
          clear hu
          have HC := Lib.hid (exclude_calls (Rd.mono hbi hQ) (by rw [HN.out, HLX.out]) hvx.out hok12.out)
          have HT' := Lib.hid ht
          clear hQ ht
          go_wp2_with (go_at_call 94; refine (show Calls _ _ _ _ (TaskR (tOne q none xs) _) from HC.out).mono ?_)
          rintro e w5 ⟨⟨m, fm, he, hm, hf, hO⟩, b5⟩
          have k3 := h3i.later b5
          have k4 := h4i.later b5
          have k6 := h6i.later b5
          have hb5 := hbi.step b5
          have z30 := k3.frz 0
          have z31 := k3.frz 1
          have z40 := k4.frz 0
          have z41 := k4.frz 1
          obtain ⟨c30, c31⟩ := k3.cells
          obtain ⟨c40, c41⟩ := k4.cells
          cases hZ : tOne q none xs with
          | none =>
            rw [hZ] at he
            subst he
            have HZ : Hid (roundV q us = none) := tRun_clash (k := k + 1) (by have := HTL.out; omega) (by rw [tRun_next (by have := HTL.out; omega) HX.out, HT'.out]; exact hZ)
            clear hZ hO
            have k4 := ((k4.far (i := 0) (k := w.heap.size) (by omega) (.int .u16 (m : Int))).far (i := 1) (k := w.heap.size) (by omega) (.int .u16 (fm : Int))).set 0 0
            obtain ⟨e0, e1⟩ := k4.cells
            go_wp2
            refine bodyPost_ret (v := .tuple #[.agg #[.int .u16 0, .int .u16 0], .bool false]) (by simp [results, Tryz.results41, go_sem, e0, e1]) rfl ⟨⟨0, 0, by rw [← hG.out, goN_none HZ.out]; rfl, by omega, by omega, fun us' h => by rw [← hG.out, goN_none HZ.out] at h; cases h⟩, ?_⟩
            exact (((hb5.setCell (by simp) _).setCell (by simp) _).setCell (by simp) _).setCell (by simp) _
          | some ys =>
            rw [hZ] at he
            subst he
            obtain ⟨rfl, rfl⟩ := hO ys hZ
            have HZ : Hid (tRun q us ((workL q.rules).take (k + 1)) = some ys) := by show _ = _; rw [tRun_next (by have := HTL.out; omega) HX.out, HT'.out]; exact hZ
            have HY : Hid (VOk vs.length ys) := (tOne_ok HQN.out HVX.out (fun r hr => by first | (cases hr; exact HOK.out _ hmem) | cases hr) hZ).1
            clear hZ hO
            go_wp2
            go_roundw
            case rel => exact ⟨k + 1, ys, by omega, by go_num, HZ, HY, k3.set _ _, (k4.far (by omega) _).far (by omega) _, (k6.far (by omega) _).far (by omega) _, (hb5.setCell (by simp) _).setCell (by simp) _⟩
            case measure => simp [intOf]; omega
        | some r =>
          rw [ht] at hTV
          obtain ⟨hmem, hch, cs, hR, hu⟩ := hTV
          have hokx : ruleOkB r (xs.length : Int) = true := by rw [HLX.out]; exact HOK.out r hmem
          have HT' := Lib.hid ht
          clear ht
          rcases hu with ⟨hh, hu⟩ | ⟨hh, hu⟩
          · rw [hu] at hcs
            have HC := Lib.hid (refuse_calls (vs := xs) (Rd.mono hbi hR) (hok12.out r hmem) hch hh)
            clear hu hR hch hh hokx
            go_wp2_with (go_at_call 92; refine (show Calls _ _ _ _ (TaskR (tOne q (some r) xs) _) from HC.out).mono ?_)
            rintro e w5 ⟨⟨m, fm, he, hm, hf, hO⟩, b5⟩
            have k3 := h3i.later b5
            have k4 := h4i.later b5
            have k6 := h6i.later b5
            have hb5 := hbi.step b5
            have z30 := k3.frz 0
            have z31 := k3.frz 1
            have z40 := k4.frz 0
            have z41 := k4.frz 1
            obtain ⟨c30, c31⟩ := k3.cells
            obtain ⟨c40, c41⟩ := k4.cells
            cases hZ : tOne q (some r) xs with
            | none =>
              rw [hZ] at he
              subst he
              have HZ : Hid (roundV q us = none) := tRun_clash (k := k + 1) (by have := HTL.out; omega) (by rw [tRun_next (by have := HTL.out; omega) HX.out, HT'.out]; exact hZ)
              clear hZ hO
              have k4 := ((k4.far (i := 0) (k := w.heap.size) (by omega) (.int .u16 (m : Int))).far (i := 1) (k := w.heap.size) (by omega) (.int .u16 (fm : Int))).set 0 0
              obtain ⟨e0, e1⟩ := k4.cells
              go_wp2
              refine bodyPost_ret (v := .tuple #[.agg #[.int .u16 0, .int .u16 0], .bool false]) (by simp [results, Tryz.results41, go_sem, e0, e1]) rfl ⟨⟨0, 0, by rw [← hG.out, goN_none HZ.out]; rfl, by omega, by omega, fun us' h => by rw [← hG.out, goN_none HZ.out] at h; cases h⟩, ?_⟩
              exact (((hb5.setCell (by simp) _).setCell (by simp) _).setCell (by simp) _).setCell (by simp) _
            | some ys =>
              rw [hZ] at he
              subst he
              obtain ⟨rfl, rfl⟩ := hO ys hZ
              have HZ : Hid (tRun q us ((workL q.rules).take (k + 1)) = some ys) := by show _ = _; rw [tRun_next (by have := HTL.out; omega) HX.out, HT'.out]; exact hZ
              have HY : Hid (VOk vs.length ys) := (tOne_ok HQN.out HVX.out (fun r hr => by first | (cases hr; exact HOK.out _ hmem) | cases hr) hZ).1
              clear hZ hO
              go_wp2
              go_roundw
              case rel => exact ⟨k + 1, ys, by omega, by go_num, HZ, HY, k3.set _ _, (k4.far (by omega) _).far (by omega) _, (k6.far (by omega) _).far (by omega) _, (hb5.setCell (by simp) _).setCell (by simp) _⟩
              case measure => simp [intOf]; omega
          · rw [hu] at hcs
            obtain ⟨a, l, hh2⟩ := List.exists_cons_of_ne_nil hh
            have HC := Lib.hid (force_calls (Rd.mono hbi hR) hvx.out hokx hch hh2)
            clear hu hR hch hh hh2 hokx
            go_wp2_with (go_at_call 93; refine (show Calls _ _ _ _ (TaskR (tOne q (some r) xs) _) from HC.out).mono ?_)
            rintro e w5 ⟨⟨m, fm, he, hm, hf, hO⟩, b5⟩
            have k3 := h3i.later b5
            have k4 := h4i.later b5
            have k6 := h6i.later b5
            have hb5 := hbi.step b5
            have z30 := k3.frz 0
            have z31 := k3.frz 1
            have z40 := k4.frz 0
            have z41 := k4.frz 1
            obtain ⟨c30, c31⟩ := k3.cells
            obtain ⟨c40, c41⟩ := k4.cells
            cases hZ : tOne q (some r) xs with
            | none =>
              rw [hZ] at he
              subst he
              have HZ : Hid (roundV q us = none) := tRun_clash (k := k + 1) (by have := HTL.out; omega) (by rw [tRun_next (by have := HTL.out; omega) HX.out, HT'.out]; exact hZ)
              clear hZ hO
              have k4 := ((k4.far (i := 0) (k := w.heap.size) (by omega) (.int .u16 (m : Int))).far (i := 1) (k := w.heap.size) (by omega) (.int .u16 (fm : Int))).set 0 0
              obtain ⟨e0, e1⟩ := k4.cells
              go_wp2
              refine bodyPost_ret (v := .tuple #[.agg #[.int .u16 0, .int .u16 0], .bool false]) (by simp [results, Tryz.results41, go_sem, e0, e1]) rfl ⟨⟨0, 0, by rw [← hG.out, goN_none HZ.out]; rfl, by omega, by omega, fun us' h => by rw [← hG.out, goN_none HZ.out] at h; cases h⟩, ?_⟩
              exact (((hb5.setCell (by simp) _).setCell (by simp) _).setCell (by simp) _).setCell (by simp) _
            | some ys =>
              rw [hZ] at he
              subst he
              obtain ⟨rfl, rfl⟩ := hO ys hZ
              have HZ : Hid (tRun q us ((workL q.rules).take (k + 1)) = some ys) := by show _ = _; rw [tRun_next (by have := HTL.out; omega) HX.out, HT'.out]; exact hZ
              have HY : Hid (VOk vs.length ys) := (tOne_ok HQN.out HVX.out (fun r hr => by first | (cases hr; exact HOK.out _ hmem) | cases hr) hZ).1
              clear hZ hO
              go_wp2
              go_roundw
              case rel => exact ⟨k + 1, ys, by omega, by go_num, HZ, HY, k3.set _ _, (k4.far (by omega) _).far (by omega) _, (k6.far (by omega) _).far (by omega) _, (hb5.setCell (by simp) _).setCell (by simp) _⟩
              case measure => simp [intOf]; omega
      · obtain rfl : k = ts.length := by omega
        have hRV : roundV q us = some xs := by
          rw [← tRun_all]
          have := HX.out
          rwa [HTL.out, List.take_length] at this
        obtain ⟨hVx, hE⟩ := round_ok (n := vs.length) HQN.out hV.out HOK.out hRV
        obtain ⟨v0, v1⟩ := h6i.cells
        obtain ⟨c40, c41⟩ := h4i.cells
        have z40 := h4i.frz 0
        have z41 := h4i.frz 1
        have HV := Lib.hid hRV
        have HEX := Lib.hid hE
        have HVX2 := Lib.hid hVx
        clear hRV hE hVx
        have MEX : Hid (rdV vs.length (boxN wr w.heap.size 0) (boxN wr w.heap.size 1) = xs) := by
          show _ = _
          rw [boxN_eq y0, boxN_eq y1, ← HLX.out]
          exact rdV_at hvx.out
        by_cases hE2 : xs = us
        · have hRs : R = some us := by rw [← hG.out, ← hE2, goN_same (hE2 ▸ HV.out)]
          have HRS := Lib.hid hRs
          clear hRs
          subst hE2
          obtain ⟨e0, e1⟩ := (h4i.set (tM xs : Int) (fM xs : Int)).cells
          go_wp2
          refine bodyPost_ret (v := .tuple #[.agg #[.int .u16 (tM xs : Int), .int .u16 (fM xs : Int)], .bool true]) (by simp [results, Tryz.results41, go_sem, e0, e1]) rfl ⟨⟨tM xs, fM xs, by rw [HRS.out]; rfl, tM_lt _, fM_lt _, fun us' h => by rw [HRS.out] at h; cases h; exact ⟨rfl, rfl⟩⟩, ?_⟩
          exact (hbi.setCell (by simp) _).setCell (by simp) _
        · have HNX : Hid (goN q f xs = R) := by show _ = _; rw [← hG.out, goN_next HV.out hE2]
          have HZL := Lib.hid (zer_less hV.out HEX.out hE2)
          have HE2 : Hid (¬ xs = us) := hE2
          clear hE2
          go_wp2
          · exact absurd (vals_eq HVX2.out hV.out (by omega) (by omega)) HE2.out
          all_goals
            exact ⟨⟨f, xs, by have := HZL.out; omega, HNX, HVX2, h3i, h4i, hbi⟩, by rw [MEA.out, MEX.out]; exact HZL.out⟩


/-! ### PropL -/
set_option linter.unusedVariables false
set_option linter.unusedSimpArgs false

theorem row_open {w : World} {B : Nat} {e : TypeId} {v : Value} {us : List Value} (h : w.ownsRow B e 1 v us.length us) (hne : 0 < us.length) : ∃ g cap, v = .slice (some ⟨g, 0, none⟩) us.length cap ∧ B ≤ g ∧ Cells w g 0 us := by
  obtain ⟨h1, h2⟩ := h
  rcases h2 with ⟨_, hn⟩ | ⟨g, cap, cur, rfl, hg, hh, hnc, hcm, hcs, ht⟩
  · omega
  · refine ⟨g, cap, rfl, hg, fun j v hv => ?_⟩
    have hr : w.ownsRow B e 1 (.slice (some ⟨g, 0, none⟩) us.length cap) us.length us := ⟨h1, .inr ⟨g, cap, cur, rfl, hg, hh, hnc, hcm, hcs, ht⟩⟩
    have hj : j < us.length := (List.getElem?_eq_some_iff.1 hv).1
    rw [Nat.zero_add, hr.cellAt j (by omega)]
    exact hv

theorem ownI_none {B : Nat} {w : World} : OwnI B w (.slice none 0 0) [] := ⟨World.ownsRow_nil _ _ _ _, by simp, fun n hn => by cases hn⟩
set_option maxHeartbeats 4000000 in
theorem implPropagate_calls {cs : List Value} {p : ProgD} {w : World} {v : Value} {vs : List Int} (h : Rd.R w cs p) (gx : RdL w [v] vs) :
    Calls Tryz.prog 9 #[.agg cs.toArray, v] w fun e w' => ∃ u, e = .returned (.tuple #[u, .bool (propO p vs)]) ∧ Own w.heap.size w' [u] (propL p vs) ∧ Below w.heap.size w w' := by
  have gv := gx
  obtain ⟨p0, p1, p2, p3, p4, p5, p6, p7, rfl⟩ := list8 (Rd.len h)
  obtain ⟨ax, cx, rfl, _, hx⟩ := gx.sl
  have t0 : Below w.heap.size w (w.alloc (.cells #[p0, p1, p2, p3, p4, p5, p6, p7] 30)) := (Below.refl _ _).alloc (by simp) _
  cases hO : valsOkR p vs
  · have hv : Hid (propR p vs = none) := propR_no hO
    go_enter Tryz.func9, Tryz.ntmps9
    go_wp2_with fail
    refine (foldedFor_calls (Rd.mono t0 h) (Rd.mono (α := List Int) t0 gv)).mono ?_
    rintro e w1 ⟨cs1, he, o1, b1⟩
    rw [hO] at he
    subst he
    have t1 := t0.step b1
    have l1 := Rd.one o1.rd
    obtain ⟨x0, x1, x2, x3, x4, x5, x6, x7, rfl⟩ := list8 (Rd.len o1.rd)
    have st0 := sto Tryz.prog (l1 x0 (by simp))
    have st1 := sto Tryz.prog (l1 x1 (by simp))
    have st2 := sto Tryz.prog (l1 x2 (by simp))
    have st3 := sto Tryz.prog (l1 x3 (by simp))
    have st4 := sto Tryz.prog (l1 x4 (by simp))
    have st5 := sto Tryz.prog (l1 x5 (by simp))
    have st6 := sto Tryz.prog (l1 x6 (by simp))
    have st7 := sto Tryz.prog (l1 x7 (by simp))
    have o1 := o1.alloc (.cells #[x0, x1, x2, x3, x4, x5, x6, x7] 30)
    have CX1 := Cells.new w1 [x0, x1, x2, x3, x4, x5, x6, x7] 30
    have t1 := t1.alloc t1.size (.cells #[x0, x1, x2, x3, x4, x5, x6, x7] 30)
    clear l1
    go_wp2
    refine bodyPost_ret (v := .tuple #[.slice none 0 0, .bool false]) (by simp [results, Tryz.results9, go_sem]) rfl ⟨_, by unfold propO; rw [hv.out]; rfl, ?_, t1⟩
    unfold propL
    rw [hv.out]
    exact ownI_none.own
  · have hv : Hid (propR p vs = goN (foldD p) 13 vs) := propR_yes hO
    have hF : foldB p = true := by
      unfold valsOkR at hO
      rw [Bool.and_eq_true] at hO
      exact hO.1
    have hr60 := (progOk_rules (foldR_ok hF)).1
    obtain ⟨hq1, hq2, hq3⟩ := propR_C hO
    have HQ1 := Lib.hid hq1
    have HQ2 := Lib.hid hq2
    have HQ3 := Lib.hid hq3
    have hVF := Lib.hid (valsP_yes hO)
    have hOO := Lib.hid hO
    clear hO hF hq1 hq2 hq3
    go_enter Tryz.func9, Tryz.ntmps9
    go_wp2_with fail
    refine (foldedFor_calls (Rd.mono t0 h) (Rd.mono (α := List Int) t0 gv)).mono ?_
    rintro e w1 ⟨cs1, he, o1, b1⟩
    rw [hVF.out] at o1
    rw [hOO.out] at he
    subst he
    have t1 := t0.step b1
    have l1 := Rd.one o1.rd
    obtain ⟨x0, x1, x2, x3, x4, x5, x6, x7, rfl⟩ := list8 (Rd.len o1.rd)
    have st0 := sto Tryz.prog (l1 x0 (by simp))
    have st1 := sto Tryz.prog (l1 x1 (by simp))
    have st2 := sto Tryz.prog (l1 x2 (by simp))
    have st3 := sto Tryz.prog (l1 x3 (by simp))
    have st4 := sto Tryz.prog (l1 x4 (by simp))
    have st5 := sto Tryz.prog (l1 x5 (by simp))
    have st6 := sto Tryz.prog (l1 x6 (by simp))
    have st7 := sto Tryz.prog (l1 x7 (by simp))
    have o1 := o1.alloc (.cells #[x0, x1, x2, x3, x4, x5, x6, x7] 30)
    have CX1 := Cells.new w1 [x0, x1, x2, x3, x4, x5, x6, x7] 30
    have t1 := t1.alloc t1.size (.cells #[x0, x1, x2, x3, x4, x5, x6, x7] 30)
    clear l1
    have oR := o1.rd
    obtain ⟨_, _, _, _, _, _, hl, hfa, g1, _⟩ := oR
    simp only [List.cons.injEq, and_true] at hl
    obtain ⟨rfl, rfl, -⟩ := hl
    have hrd := Lib.hid o1.rd
    clear g1 hfa
    go_wp2_with fail
    refine (workList_calls hrd.out hr60).mono ?_
    rintro e w2 ⟨v2, us, rfl, hrow, hT, b2⟩
    obtain ⟨g, cap, rfl, hg, hC⟩ := row_open hrow (by rw [hT.1]; unfold workL; simp)
    have hul : us.length ≤ 61 := by
      have := workTo_len (foldD p).rules (foldD p).rules.length
      rw [hT.1]; unfold workL; simp; omega
    have t2 := t1.step b2
    have CX2 := CX1.later b2
    obtain ⟨y0, y1, y2, y3, y4, y5, y6, y7⟩ := cells8 CX2
    have HT := Lib.hid hT
    have HC := Lib.hid hC
    clear hrow hT hC o1
    go_wp2_with fail
    refine (valuesOf_calls _ vs _ _ (hx.later t2).ints).mono ?_
    rintro e w3 ⟨rfl, b3⟩
    have t3 := t2.step b3
    have CX3 := CX2.later b3
    clear y0 y1 y2 y3 y4 y5 y6 y7
    go_wp2_with fail
    refine (propagate_calls (HC.out.later b3) (HT.out.later (b2.step b3)) hul HQ1.out HQ2.out HQ3.out).mono ?_
    rintro e w4 ⟨⟨m, f, he, hm, hf, hTR⟩, b4⟩
    have t4 := t3.step b4
    have CX4 := (CX3.later b4).alloc (.cells #[.int .u16 (m : Int), .int .u16 (f : Int)] 75)
    have t5 := t4.alloc t4.size (.cells #[.int .u16 (m : Int), .int .u16 (f : Int)] 75)
    have h5 := BX.new w4 (m : Int) (f : Int)
    obtain ⟨v0, v1⟩ := h5.cells
    obtain ⟨y0, y1, y2, y3, y4, y5, y6, y7⟩ := cells8 CX4
    cases hR : goN (foldD p) 13 vs with
    | none =>
      have HR := Lib.hid hR
      rw [hR] at he
      subst he
      clear hR hTR
      go_wp2
      refine bodyPost_ret (v := .tuple #[.slice none 0 0, .bool false]) (by simp [results, Tryz.results9, go_sem]) rfl ⟨_, by unfold propO; rw [hv.out, HR.out]; rfl, ?_, t5⟩
      unfold propL
      rw [hv.out, HR.out]
      exact ownI_none.own
    | some ys =>
      have HR := Lib.hid hR
      have hVy := goN_ok (n := vs.length) (by have := HQ1.out; omega) HQ3.out HQ2.out hR
      have HYY : Hid (VOk ys.length ys) := ⟨rfl, by have := hVy.1; have := hVy.2.1; omega, hVy.2.2⟩
      rw [hR] at he
      subst he
      obtain ⟨rfl, rfl⟩ := hTR ys hR
      rw [HQ1.out, show (vs.length : Int) = (ys.length : Int) by rw [hVy.1]] at y0
      clear hR hTR hVy
      go_wp2_with (go_at_call 43; refine (valsList_calls ys _ HYY.out).mono ?_; rintro e w6 ⟨u, rfl, o6, b6⟩)
      obtain ⟨au, cu, rfl, _, _⟩ := o6.open
      refine bodyPost_ret (v := .tuple #[.slice au ys.length cu, .bool true]) (by simp [results, Tryz.results9, go_sem]) rfl ⟨_, by unfold propO; rw [hv.out, HR.out]; rfl, ?_, t5.step b6⟩
      unfold propL
      rw [hv.out, HR.out]
      exact (o6.mono t5.size).own


end Go.Proofs.YtingnpnnacafbaaGreat
