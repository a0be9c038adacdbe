/-
  Consequences: pure, of both sides. No condition of its own.
-/
import Derived.Test.YtnjiephgiemkjaaGreatRange
import Derived.Test.YtnjiephgiemkjaaGreatValF
import Derived.Test.YtnjiephgiemkjaaGreatAnsT
import Derived.Test.YtnjiephgiemkjaaGreatSetsB
import Derived.Test.YtnjiephgiemkjaaGreatVal
namespace Go.Proofs.YtnjiephgiemkjaaGreat
set_option linter.unusedVariables false
set_option linter.unusedSimpArgs false
open Go.RowKit
set_option maxRecDepth 100000

/-! ### ConD -/
set_option linter.unusedVariables false
set_option linter.unusedSimpArgs false

/-- Does a set agree with values? In bits. -/
def agM (t f m : Nat) : Bool := inM t m && (((f &&& m : Nat) : Int) == 0)
def conS (t f : Nat) (ms : List MaskI) : Nat := ms.foldl (fun s m => if agM t f m.1 then s ||| m.1 else s) 0
def conA (t f : Nat) (ms : List MaskI) : Nat := ms.foldl (fun s m => if agM t f m.1 then s &&& m.1 else s) 4095
def conO (t f : Nat) (ms : List MaskI) : Bool := ms.any fun m => agM t f m.1
section
variable {t f : Nat} {ms : List MaskI} {m : MaskI}
theorem conS_yes (h : agM t f m.1 = true) : conS t f (ms ++ [m]) = conS t f ms ||| m.1 := by simp [conS, List.foldl_append, h]
theorem conS_no (h : agM t f m.1 = false) : conS t f (ms ++ [m]) = conS t f ms := by simp [conS, List.foldl_append, h]
theorem conA_yes (h : agM t f m.1 = true) : conA t f (ms ++ [m]) = conA t f ms &&& m.1 := by simp [conA, List.foldl_append, h]
theorem conA_no (h : agM t f m.1 = false) : conA t f (ms ++ [m]) = conA t f ms := by simp [conA, List.foldl_append, h]
theorem conO_yes (h : agM t f m.1 = true) : conO t f (ms ++ [m]) = true := by simp [conO, h]
theorem conO_no (h : agM t f m.1 = false) : conO t f (ms ++ [m]) = conO t f ms := by simp [conO, h]
end
theorem snoc_ind {α : Type} {P : List α → Prop} (h0 : P []) (h1 : ∀ xs x, P xs → P (xs ++ [x])) (xs : List α) : P xs := by
  have : ∀ n (xs : List α), xs.length = n → P xs := by
    intro n
    induction n with
    | zero => intro xs h; obtain rfl := List.eq_nil_of_length_eq_zero h; exact h0
    | succ n ih =>
      intro xs h
      have hne : xs ≠ [] := by intro e; subst e; simp at h
      rw [← List.dropLast_concat_getLast hne]
      exact h1 _ _ (ih _ (by simp; omega))
  exact this _ xs rfl
theorem conS_lt (t f : Nat) (ms : List MaskI) : conS t f ms < 4096 := by
  refine snoc_ind (P := fun ms => conS t f ms < 4096) ?_ ?_ ms
  · show (0 : Nat) < 4096; omega
  · intro xs x ih
    cases h : agM t f x.1
    · rw [conS_no h]; exact ih
    · rw [conS_yes h]; exact Nat.or_lt_two_pow (n := 12) ih x.2
theorem conA_lt (t f : Nat) (ms : List MaskI) : conA t f ms < 4096 := by
  refine snoc_ind (P := fun ms => conA t f ms < 4096) ?_ ?_ ms
  · show (4095 : Nat) < 4096; omega
  · intro xs x ih
    cases h : agM t f x.1
    · rw [conA_no h]; exact ih
    · rw [conA_yes h]; exact Nat.lt_of_le_of_lt Nat.and_le_left ih
theorem agM_nil (m : Nat) : agM 0 0 m = true := by
  unfold agM inM
  simp
theorem mset_or (a b : Nat) (ha : a < 4096) (hb : b < 4096) : mset (a ||| b) = pickTo (pickJ (mset a) (mset b)) 12 := by
  have := join_same (mset a) (mset b)
  rw [mask_mset ha, mask_mset hb] at this
  exact this
theorem mset_and (a b : Nat) (ha : a < 4096) (hb : b < 4096) : mset (a &&& b) = pickTo (pickM (mset a) (mset b)) 12 := by
  have := meet_same (mset a) (mset b)
  rw [mask_mset ha, mask_mset hb] at this
  exact this
theorem mset_sub (a b : Nat) (ha : a < 4096) (hb : b < 4096) : mset (a &&& (65535 - b)) = pickTo (pickL (mset a) (mset b)) 12 := by
  have := less_same (mset a) (mset b)
  rw [mask_mset ha, mask_mset hb] at this
  exact this

theorem ansN_lt {p : ProgD} {m : Nat} (h : m ∈ ansN p) : m < 4096 := by
  cases hF : foldB p
  · rw [ansN_no hF] at h; cases h
  · rw [ansN_yes hF] at h
    unfold ansP subsTo at h
    rw [List.mem_filter, List.mem_filter, List.mem_range] at h
    have := headsM_lt (foldD p).rules (foldD p).rules.length
    omega
theorem ansN_ms (p : ProgD) : ∃ ms : List MaskI, ms.map (·.1) = ansN p := ⟨(ansN p).attach.map fun x => ⟨x.1, ansN_lt x.2⟩, by simp⟩

/-! ### Brave -/
def brTo (xs : List (List Int)) : Nat → List Int
  | 0 => []
  | k + 1 => pickTo (pickJ (brTo xs k) (nth xs k)) 12
theorem brTo_succ (xs : List (List Int)) (k : Nat) : brTo xs (k + 1) = pickTo (pickJ (brTo xs k) (nth xs k)) 12 := rfl
theorem brTo_len (xs : List (List Int)) : ∀ k, (brTo xs k).length ≤ 12
  | 0 => by simp [brTo]
  | k + 1 => pickTo_len _ _
theorem take_snoc {α : Type} [Inhabited α] {xs : List α} {k : Nat} (h : k < xs.length) : xs.take (k + 1) = xs.take k ++ [nth xs k] := take_nth h
theorem map_nth {α β : Type} [Inhabited α] [Inhabited β] {xs : List α} {k : Nat} (f : α → β) (h : k < xs.length) : nth (xs.map f) k = f (nth xs k) := by
  rw [nth_eq (by simpa using h), nth_eq h]; simp
instance : Inhabited MaskI := ⟨⟨0, by omega⟩⟩
def mls (ms : List MaskI) : List (List Int) := ms.map fun m => mset m.1
theorem mls_nth {ms : List MaskI} {k : Nat} (h : k < ms.length) : nth (mls ms) k = mset (nth ms k).1 := map_nth _ h
theorem mls_len (ms : List MaskI) : (mls ms).length = ms.length := by simp [mls]
theorem br_mask (ms : List MaskI) : ∀ k, k ≤ ms.length → brTo (mls ms) k = mset (conS 0 0 (ms.take k))
  | 0, _ => by simp [brTo, conS, mset_zero]
  | k + 1, h => by
    have ih := br_mask ms k (by omega)
    rw [brTo_succ, ih, mls_nth (by omega), take_snoc (by omega), conS_yes (agM_nil _), mset_or _ _ (conS_lt _ _ _) (nth ms k).2]
def braveR (p : ProgD) : List Int := brTo (answersL p) (answersL p).length
def someB (p : ProgD) : Bool := decide (0 < (answersL p).length)
theorem braveR_len (p : ProgD) : (braveR p).length ≤ 12 := brTo_len _ _
theorem brave_mask {p : ProgD} {ms : List MaskI} (h : ms.map (·.1) = ansN p) : mset (conS 0 0 ms) = braveR p := by
  have hl : answersL p = mls ms := by rw [answersL_N, ← h, List.map_map]; rfl
  unfold braveR
  rw [hl, mls_len, br_mask ms _ (Nat.le_refl _), List.take_length]
theorem some_mask {p : ProgD} {ms : List MaskI} (h : ms.map (·.1) = ansN p) : conO 0 0 ms = someB p := by
  have hl : answersL p = mls ms := by rw [answersL_N, ← h, List.map_map]; rfl
  unfold someB
  rw [hl, mls_len]
  cases ms with
  | nil => rfl
  | cons a r => simp [conO, agM_nil]

/-! ### Cautious -/
def ctTo (xs : List (List Int)) : Nat → List Int
  | 0 => nth xs 0
  | k + 1 => pickTo (pickM (ctTo xs k) (nth xs k)) 12
theorem ctTo_succ (xs : List (List Int)) (k : Nat) : ctTo xs (k + 1) = pickTo (pickM (ctTo xs k) (nth xs k)) 12 := rfl
theorem ct_mask (ms : List MaskI) (h0 : 0 < ms.length) : ∀ k, k ≤ ms.length → ctTo (mls ms) k = mset ((nth ms 0).1 &&& conA 0 0 (ms.take k))
  | 0, _ => by
    show nth (mls ms) 0 = _
    rw [mls_nth h0]
    have e : (nth ms 0).1 &&& conA 0 0 (ms.take 0) = (nth ms 0).1 := by
      show (nth ms 0).1 &&& (2 ^ 12 - 1) = _
      rw [Nat.and_two_pow_sub_one_eq_mod]
      exact Nat.mod_eq_of_lt (nth ms 0).2
    rw [e]
  | k + 1, h => by
    have ih := ct_mask ms h0 k (by omega)
    rw [ctTo_succ, ih, mls_nth (by omega), take_snoc (by omega), conA_yes (agM_nil _), ← Nat.and_assoc, mset_and ((nth ms 0).1 &&& conA 0 0 (ms.take k)) (nth ms k).1 (Nat.lt_of_le_of_lt Nat.and_le_left (nth ms 0).2) (nth ms k).2]
theorem conA_sub {t f : Nat} {ms : List MaskI} {m : MaskI} (h : m ∈ ms) (ha : agM t f m.1 = true) : m.1 &&& conA t f ms = conA t f ms := by
  revert h
  refine snoc_ind (P := fun ms => m ∈ ms → m.1 &&& conA t f ms = conA t f ms) ?_ ?_ ms
  · intro h; cases h
  · intro xs x ih h
    rcases List.mem_append.1 h with h | h
    · cases hx : agM t f x.1
      · rw [conA_no hx]; exact ih h
      · rw [conA_yes hx, ← Nat.and_assoc, ih h]
    · obtain rfl : m = x := by simpa using h
      rw [conA_yes ha, Nat.and_comm (conA t f xs), ← Nat.and_assoc, Nat.and_self]
theorem conS_sup {t f : Nat} {ms : List MaskI} {m : MaskI} (h : m ∈ ms) (ha : agM t f m.1 = true) : m.1 ||| conS t f ms = conS t f ms := by
  revert h
  refine snoc_ind (P := fun ms => m ∈ ms → m.1 ||| conS t f ms = conS t f ms) ?_ ?_ ms
  · intro h; cases h
  · intro xs x ih h
    rcases List.mem_append.1 h with h | h
    · cases hx : agM t f x.1
      · rw [conS_no hx]; exact ih h
      · rw [conS_yes hx, ← Nat.or_assoc, ih h]
    · obtain rfl : m = x := by simpa using h
      rw [conS_yes ha, Nat.or_comm (conS t f xs), ← Nat.or_assoc, Nat.or_self]
def cautR (p : ProgD) : List Int := if someB p then ctTo (answersL p) (answersL p).length else []
theorem cautR_no {p : ProgD} (h : someB p = false) : cautR p = [] := by simp [cautR, h]
theorem cautR_yes {p : ProgD} (h : someB p = true) : cautR p = ctTo (answersL p) (answersL p).length := by simp [cautR, h]
theorem caut_mask {p : ProgD} {ms : List MaskI} (h : ms.map (·.1) = ansN p) (hs : someB p = true) : mset (conA 0 0 ms) = cautR p := by
  have hl : answersL p = mls ms := by rw [answersL_N, ← h, List.map_map]; rfl
  have h0 : 0 < ms.length := by
    unfold someB at hs
    rw [hl, mls_len] at hs
    simpa using hs
  rw [cautR_yes hs, hl, mls_len, ct_mask ms h0 _ (Nat.le_refl _), List.take_length, conA_sub (nth_mem h0) (agM_nil _)]
theorem cautR_len (p : ProgD) : (cautR p).length ≤ 12 := by
  cases hs : someB p
  · rw [cautR_no hs]; simp
  · obtain ⟨ms, hm⟩ := ansN_ms p
    rw [← caut_mask hm hs]
    exact mset_len _

/-! ### ConS -/
set_option linter.unusedVariables false
set_option linter.unusedSimpArgs false

set_option maxHeartbeats 2000000 in
theorem specBrave_calls {cs : List Value} {p : ProgD} {w : World} (h : Rd.R w cs p) :
    Calls Tryz.prog 9 #[.agg cs.toArray] w fun e w' => ∃ u, e = .returned (.tuple #[u, .bool (someB p)]) ∧ Own w.heap.size w' [u] (braveR p) ∧ Below w.heap.size w w' := by
  obtain ⟨p0, p1, p2, p3, p4, p5, p6, p7, rfl⟩ := list8 (Rd.len h)
  have t0 : Below w.heap.size w (w.alloc (.cells #[p0, p1, p2, p3, p4, p5, p6, p7] 37)) := (Below.refl _ _).alloc (by simp) _
  obtain ⟨X, hX⟩ : ∃ X, X = answersL p := ⟨_, rfl⟩
  have HS := fun (cs : List Value) (w : World) (h : Rd.R w cs p) => Lib.hid (specAnswers_calls h)
  rw [← hX] at HS
  have hres : Hid (braveR p = brTo X X.length) := by show _ = _; rw [hX]; rfl
  have hsm : Hid (someB p = decide (0 < X.length)) := by show _ = _; rw [hX]; rfl
  clear hX
  go_enter Tryz.func9, Tryz.ntmps9
  go_wp2_with fail
  refine (HS _ _ (Rd.mono t0 h)).out.mono ?_
  rintro e w2 ⟨u, rfl, o2, b2⟩
  have t2 := t0.step b2
  obtain ⟨a2, k2, rfl, _, hr2⟩ := (show RdL w2 [u] X from o2.rd).sl
  have hm2 := hr2.1
  have HR := Lib.hid hr2
  clear o2 hr2 HS
  go_wp2
  go_loopw [5, 6] (fun v i wr => ∃ k : Nat, k ≤ X.length ∧ i = .int .i64 k ∧ OwnI w2.heap.size wr v (brTo X k) ∧ Below w2.heap.size w2 wr) (fun _ i _ => X.length - (intOf i).toNat)
  case atStart => exact ⟨0, Nat.zero_le _, rfl, OwnI.new _ _ (Nat.le_refl _), (Below.refl _ _).alloc (Nat.le_refl _) _⟩
  case round =>
    obtain ⟨k, hk, rfl, ho, hb⟩ := hrel
    obtain ⟨pv, qv, rfl, hI, _⟩ := ho.open
    by_cases hlt : k < X.length
    · skip
      obtain ⟨b, off, rfl, hc⟩ := HR.out.base (by omega)
      obtain ⟨ecs, hC, hRk⟩ := hc k hlt
      have hC := hC.later hb
      have hRk := Rd.mono hb hRk
      obtain ⟨ak, ck, rfl, _, _, hRow⟩ := hRk
      rw [show Rd.k (List Int) = 1 from rfl, Nat.mul_one] at hC
      have u0 := hC.c0
      have hIk := hRow.ints
      clear hc hC hRow
      have hE := Lib.hid (brTo_succ X k)
      go_wp2_with fail
      refine (specSetJoin_calls _ _ _ _ _ _ _ hI hIk).mono ?_
      rintro e w3 ⟨v3, rfl, o3, b3⟩
      have o3 := o3.mono hb.size
      go_wp2
      go_roundw
      case rel => exact ⟨k + 1, by omega, by go_num, by rw [hE.out]; exact o3, hb.step b3⟩
      case measure => simp [intOf]; omega
    · have hkk : k = X.length := by omega
      have HO : Hid (Own w.heap.size wr [.slice pv (brTo X k).length qv] (braveR p)) := by show Own _ _ _ _; rw [hres.out, ← hkk]; exact (ho.mono t2.size).own
      have hfin := t2.trans (hb.mono t2.size)
      clear ho hI
      by_cases h0 : 0 < X.length
      · have hd : (0 : Int) < (X.length : Int) := by omega
        have hs2 : Hid (someB p = true) := by show _ = _; rw [hsm.out]; exact decide_eq_true h0
        have h0' := Lib.hid h0
        clear h0 hkk
        go_wp2
        have h0' := h0'.out
        refine bodyPost_ret (v := .tuple #[.slice pv (brTo X k).length qv, .bool true]) (by simp [results, Tryz.results9, go_sem, hd]; first | done | omega | exact h0') rfl ⟨_, by rw [hs2.out], HO.out, hfin⟩
      · have hd : ¬ (0 : Int) < (X.length : Int) := by omega
        have hs2 : Hid (someB p = false) := by show _ = _; rw [hsm.out]; exact decide_eq_false h0
        have hd2 : (X.length : Int) ≤ 0 := by omega
        clear h0 hkk
        go_wp2
        refine bodyPost_ret (v := .tuple #[.slice pv (brTo X k).length qv, .bool false]) (by simp [results, Tryz.results9, go_sem, hd, hd2]; first | done | omega | exact List.eq_nil_of_length_eq_zero (by omega)) rfl ⟨_, by rw [hs2.out], HO.out, hfin⟩

set_option maxHeartbeats 2000000 in
theorem specCautious_calls {cs : List Value} {p : ProgD} {w : World} (h : Rd.R w cs p) :
    Calls Tryz.prog 17 #[.agg cs.toArray] w fun e w' => ∃ u, e = .returned (.tuple #[u, .bool (someB p)]) ∧ Own w.heap.size w' [u] (cautR p) ∧ Below w.heap.size w w' := by
  obtain ⟨p0, p1, p2, p3, p4, p5, p6, p7, rfl⟩ := list8 (Rd.len h)
  have t0 : Below w.heap.size w (w.alloc (.cells #[p0, p1, p2, p3, p4, p5, p6, p7] 37)) := (Below.refl _ _).alloc (by simp) _
  obtain ⟨X, hX⟩ : ∃ X, X = answersL p := ⟨_, rfl⟩
  have HS := fun (cs : List Value) (w : World) (h : Rd.R w cs p) => Lib.hid (specAnswers_calls h)
  rw [← hX] at HS
  have hres : Hid (cautR p = if 0 < X.length then ctTo X X.length else []) := by
    show _ = _
    unfold cautR someB
    rw [hX]
    by_cases h0 : 0 < (answersL p).length <;> simp [h0]
  have hsm : Hid (someB p = decide (0 < X.length)) := by show _ = _; rw [hX]; rfl
  clear hX
  go_enter Tryz.func17, Tryz.ntmps17
  go_wp2_with fail
  refine (HS _ _ (Rd.mono t0 h)).out.mono ?_
  rintro e w2 ⟨u, rfl, o2, b2⟩
  have t2 := t0.step b2
  obtain ⟨a2, k2, rfl, _, hr2⟩ := (show RdL w2 [u] X from o2.rd).sl
  have hm2 := hr2.1
  have HR := Lib.hid hr2
  clear o2 hr2 HS
  by_cases h0 : 0 < X.length
  · have hd : ((X.length : Int) == 0) = false := by rw [beq_eq_false_iff_ne]; omega
    have hs2 : Hid (someB p = true) := by show _ = _; rw [hsm.out]; exact decide_eq_true h0
    have hres2 : Hid (cautR p = ctTo X X.length) := by show _ = _; rw [hres.out, if_pos h0]
    have hd1 : (0 : Int) < (X.length : Int) := by omega
    obtain ⟨b, off, rfl, hc⟩ := HR.out.base h0
    obtain ⟨ecs, hC, hRk⟩ := hc 0 h0
    obtain ⟨a0, c0, rfl, hq1, hq2, hRow⟩ := hRk
    rw [Nat.zero_mul, Nat.add_zero] at hC
    have u0 := hC.c0
    have hst : RdL w2 [.slice a0 (nth X 0).length c0] (ctTo X 0) := ⟨a0, c0, rfl, hq1, hq2, hRow⟩
    clear hc hC hRow
    go_wp2
    go_loopw [5, 6] (fun v i wr => ∃ k : Nat, k ≤ X.length ∧ i = .int .i64 k ∧ RdL wr [v] (ctTo X k) ∧ (0 < k → OwnI w2.heap.size wr v (ctTo X k)) ∧ Below w2.heap.size w2 wr) (fun _ i _ => X.length - (intOf i).toNat)
    case atStart => exact ⟨0, Nat.zero_le _, rfl, hst, fun h => absurd h (Nat.lt_irrefl 0), Below.refl _ _⟩
    case round =>
      obtain ⟨k, hk, rfl, hg, ho, hb⟩ := hrel
      clear hst u0
      obtain ⟨pv, qv, rfl, _, hI⟩ := hg.sl
      by_cases hlt : k < X.length
      · obtain ⟨b', off', he, hc⟩ := HR.out.base (by omega)
        obtain ⟨ecs, hC, hRk⟩ := hc k hlt
        simp only [Option.some.injEq, Addr.mk.injEq] at he
        obtain ⟨rfl, rfl, -⟩ := he
        have hC := hC.later hb
        have hRk := Rd.mono hb hRk
        obtain ⟨ak, ck, rfl, _, _, hRow⟩ := hRk
        rw [show Rd.k (List Int) = 1 from rfl, Nat.mul_one] at hC
        have u0 := hC.c0
        have hIk := hRow.ints
        have hI1 := hI.ints
        clear hc hC hRow hI hg ho
        have hE := Lib.hid (ctTo_succ X k)
        go_wp2_with fail
        refine (specSetMeet_calls _ _ _ _ _ _ _ hI1 hIk).mono ?_
        rintro e w3 ⟨v3, rfl, o3, b3⟩
        have o3 := o3.mono hb.size
        go_wp2
        go_roundw
        case rel => exact ⟨k + 1, by omega, by go_num, by rw [hE.out]; exact o3.own.rd, fun _ => by rw [hE.out]; exact o3, hb.step b3⟩
        case measure => simp [intOf]; omega
      · have hkk : k = X.length := by omega
        have HO : Hid (Own w.heap.size wr [.slice pv (ctTo X k).length qv] (cautR p)) := by show Own _ _ _ _; rw [hres2.out, ← hkk]; exact ((ho (by omega)).mono t2.size).own
        have hfin := t2.trans (hb.mono t2.size)
        clear ho hI hg hkk
        go_wp2
        refine bodyPost_ret (v := .tuple #[.slice pv (ctTo X k).length qv, .bool true]) (by simp [results, Tryz.results17, go_sem]) rfl ⟨_, by rw [hs2.out], HO.out, hfin⟩
  · have hl0 : X.length = 0 := by omega
    obtain rfl : X = [] := List.eq_nil_of_length_eq_zero hl0
    have hs2 : Hid (someB p = false) := hsm.out
    have hres2 : Hid (cautR p = []) := hres.out
    clear hl0 h0
    go_wp2
    refine bodyPost_ret (v := .tuple #[.slice (some ⟨w2.heap.size, 0, none⟩) 0 0, .bool false]) (by simp [results, Tryz.results17, go_sem]) rfl ⟨_, by rw [hs2.out], by rw [hres2.out]; exact (OwnI.new w2 w.heap.size t2.size).own, t2.alloc t2.size _⟩

/-! ### ConI -/
set_option linter.unusedVariables false
set_option linter.unusedSimpArgs false

theorem meetC_calls (a b : Nat) (w : World) (ha : a < 4096) (hb : b < 4096) :
    Calls Tryz.prog 88 #[.int .u16 (a : Int), .int .u16 (b : Int)] w fun e w' => e = .returned (.int .u16 ((a &&& b : Nat) : Int)) ∧ w = w' := by
  have hor := and_u16 a b ha hb
  go_enter Tryz.func88, Tryz.ntmps88
  go_wp2
  go_ret
  exact ⟨rfl, rfl⟩
theorem joinC_calls (a b : Nat) (w : World) (ha : a < 4096) (hb : b < 4096) :
    Calls Tryz.prog 87 #[.int .u16 (a : Int), .int .u16 (b : Int)] w fun e w' => e = .returned (.int .u16 ((a ||| b : Nat) : Int)) ∧ w = w' := by
  have hor := or_u16 a b ha hb
  go_enter Tryz.func87, Tryz.ntmps87
  go_wp2
  go_ret
  exact ⟨rfl, rfl⟩
set_option maxHeartbeats 1000000 in
theorem agreedBy_calls (t f m : Nat) (w : World) (ht : t < 4096) (hf : f < 4096) (hm : m < 4096) :
    Calls Tryz.prog 86 #[.agg #[.int .u16 (t : Int), .int .u16 (f : Int)], .int .u16 (m : Int)] w fun e w' => e = .returned (.bool (agM t f m)) ∧ Below w.heap.size w w' := by
  have CX := cells2 (Cells.new w [.int .u16 (t : Int), .int .u16 (f : Int)] 73)
  obtain ⟨c0, c1⟩ := CX
  have tb : Below w.heap.size w (w.alloc (.cells #[.int .u16 (t : Int), .int .u16 (f : Int)] 73)) := (Below.refl _ _).alloc (Nat.le_refl _) _
  have hv : Hid (agM t f m = (inM t m && (((f &&& m : Nat) : Int) == 0))) := rfl
  cases hI : inM t m
  all_goals
    rw [hI] at hv
    go_enter Tryz.func86, Tryz.ntmps86
    go_wp2_with (first | (go_at_call 130; refine (inM_calls _ _ _ ht hm).mono ?_; rintro e w' ⟨he, rfl⟩; rw [hI] at he; subst he) | (go_at_call 88; refine (meetC_calls _ _ _ hf hm).mono ?_; rintro e w' ⟨rfl, rfl⟩))
    go_ret
    exact ⟨ret_bool hv.out.symm, tb⟩

attribute [local go_sem] Oper.semAt_some

theorem wpAnyIn_cap {F : Fence} {n : Nat} {P : Program} {md : Region.Mode} {ops : Array Oper} {Q : Exit → Act → World → Prop} {fuel : Nat} {listed : Array Bool} {a : Act} {w : World}
    (h : ∀ G : Nat → Array Bool → Act → World → Prop, G = wpAnyIn F n P md ops Q → G fuel listed a w) : wpAnyIn F n P md ops Q fuel listed a w := h _ rfl
theorem cap_useC {F G : Nat → Array Bool → Act → World → Prop} (h : F = G) {n : Nat} {l : Array Bool} {a : Act} {w : World} (k : F n l a w) : G n l a w := h ▸ k
/-- Three boxes. -/
theorem kpZ_set3 {m0 : Nat} {W : World} {a b c : Nat} (ha : a < m0) (hb : b < m0) (hc : c < m0) (u v x : Value) : KpZ zNo m0 W (((W.setCell ⟨a, 0, none⟩ u).setCell ⟨b, 0, none⟩ v).setCell ⟨c, 0, none⟩ x) :=
  (kpZ_set ha u).trans ((kpZ_set hb v).trans (kpZ_set hc x))
theorem keep3 {W : World} {g a b c : Nat} (ha : g ≠ a) (hb : g ≠ b) (hc : g ≠ c) (u v x : Value) : (((W.setCell ⟨a, 0, none⟩ u).setCell ⟨b, 0, none⟩ v).setCell ⟨c, 0, none⟩ x).heap[g]? = W.heap[g]? :=
  (Below.heap_setCell _ _ _ _ (by exact hc)).trans ((Below.heap_setCell _ _ _ _ (by exact hb)).trans (Below.heap_setCell _ _ _ _ (by exact ha)))
theorem boxed3 {W : World} {a b c : Nat} {t s r : TypeId} {u0 v0 x0 : Value} (h1 : Boxed W a t u0) (h2 : Boxed W b s v0) (h3 : Boxed W c r x0) (hab : a ≠ b) (hac : a ≠ c) (hbc : b ≠ c) (u v x : Value) {D : Nat} (hD : a ≠ D ∧ b ≠ D ∧ c ≠ D) (o : Obj) :
    Boxed ((((W.setCell ⟨a, 0, none⟩ u).setCell ⟨b, 0, none⟩ v).setCell ⟨c, 0, none⟩ x).putObj D o) a t u ∧ Boxed ((((W.setCell ⟨a, 0, none⟩ u).setCell ⟨b, 0, none⟩ v).setCell ⟨c, 0, none⟩ x).putObj D o) b s v ∧ Boxed ((((W.setCell ⟨a, 0, none⟩ u).setCell ⟨b, 0, none⟩ v).setCell ⟨c, 0, none⟩ x).putObj D o) c r x := by
  have k1 := ((h1.set u).other (B' := b) hab v).other (B' := c) hac x
  have k2 := ((h2.other (B' := a) (Ne.symm hab) u).set v).other (B' := c) hbc x
  have k3 := ((h3.other (B' := a) (Ne.symm hac) u).other (B' := b) (Ne.symm hbc) v).set x
  have g := grownBy_putObj' (((W.setCell ⟨a, 0, none⟩ u).setCell ⟨b, 0, none⟩ v).setCell ⟨c, 0, none⟩ x) D o
  exact ⟨k1.kept g (fun e => hD.1 (by cases e; rfl)), k2.kept g (fun e => hD.2.1 (by cases e; rfl)), k3.kept g (fun e => hD.2.2 (by cases e; rfl))⟩
theorem leafC {t f S A : Nat} {O : Bool} {ms : List MaskI} {W : World} {a b c : Nat} {ta tb tc : TypeId} {P Q : Prop} (e1 : conS t f ms = S) (e2 : conA t f ms = A) (e3 : conO t f ms = O)
    (h : P ∧ Boxed W a ta (.int .u16 (S : Int)) ∧ Boxed W b tb (.int .u16 (A : Int)) ∧ Boxed W c tc (.bool O) ∧ Q) :
    P ∧ Boxed W a ta (.int .u16 ((conS t f ms : Nat) : Int)) ∧ Boxed W b tb (.int .u16 ((conA t f ms : Nat) : Int)) ∧ Boxed W c tc (.bool (conO t f ms)) ∧ Q := by
  rw [e1, e2, e3]; exact h
set_option maxHeartbeats 8000000 in
theorem consequences_calls {cs : List Value} {p : ProgD} {w : World} (t f : Nat) (ht : t < 4096) (hf : f < 4096) (h : Rd.R w cs p) :
    Calls Tryz.prog 44 #[.agg cs.toArray, .agg #[.int .u16 (t : Int), .int .u16 (f : Int)]] w fun e w' => ∃ ms : List MaskI, ms.map (·.1) = ansN p ∧
      e = .returned (.tuple (if conO t f ms then #[.int .u16 (conS t f ms : Int), .int .u16 (conA t f ms : Int), .bool true] else #[.int .u16 0, .int .u16 0, .bool false])) ∧ Below w.heap.size w w' := by
  obtain ⟨p0, p1, p2, p3, p4, p5, p6, p7, rfl⟩ := list8 (Rd.len h)
  refine (callsIn_wide (n := 9)).1 ?_
  obtain ⟨F, hF⟩ : ∃ F, F = Fence.wide := ⟨_, rfl⟩
  rw [← hF]
  have hro := wideR hF
  have hAs := fun (k : Nat) (w : World) => Lib.hid (wideC (n := k) hF (answersSeq_calls p0 p1 p2 p3 p4 p5 p6 p7 w))
  have hAg := fun (k m : Nat) (hm : m < 4096) (w : World) => Lib.hid (wideC (n := k) hF (agreedBy_calls t f m w ht hf hm))
  have hJo := fun (k a b : Nat) (ha : a < 4096) (hb : b < 4096) (w : World) => Lib.hid (wideC (n := k) hF (joinC_calls a b w ha hb))
  have hMe := fun (k a b : Nat) (ha : a < 4096) (hb : b < 4096) (w : World) => Lib.hid (wideC (n := k) hF (meetC_calls a b w ha hb))
  have hf1 : F.fn 66 := wideF hF _
  have hf2 : F.fn 103 := wideF hF _
  have hf3 : F.fn 86 := wideF hF _
  have hf4 : F.fn 87 := wideF hF _
  have hf5 : F.fn 88 := wideF hF _
  have HF := Lib.hid hF
  refine callsIn_of_wp_marks Tryz.func44 rfl (wideF hF _) ?_ hro
  clear hF
  simp only [Tryz.ntmps44, List.size_toArray, List.length_cons, List.length_nil, Nat.reduceAdd, Nat.reduceSub, Array.replicate_succ, Array.replicate_zero, List.push_toArray, List.append_toArray, List.nil_append, List.cons_append]
  gi_wp2_with (gi_at_call 66; refine (hAs _ _).out.mono ?_; rintro e w4 ⟨rfl, e4⟩)
  have t4 : Below w.heap.size w w4 := by rw [e4]; exact ((((((Below.refl _ _).alloc (Nat.le_refl _) _).alloc (by simp) _).alloc (by simp; omega) _).alloc (by simp; omega) _).alloc (by simp; omega) _).alloc (by simp; omega) _
  have z4 : w4.heap.size = w.heap.size + 6 := by rw [e4]; simp
  have bK : w4.heap[w.heap.size + 1]? = some (.cells ([.int .u16 (t : Int), .int .u16 (f : Int)] : List Value).toArray 73 (0, 0)) := by
    rw [e4]
    refine (Below.heap_alloc _ _ _ (by simp)).trans ((Below.heap_alloc _ _ _ (by simp)).trans ((Below.heap_alloc _ _ _ (by simp)).trans ((Below.heap_alloc _ _ _ (by simp)).trans ?_)))
    have := heap_alloc_new (w.alloc (.cells #[p0, p1, p2, p3, p4, p5, p6, p7] 37)) (.cells #[.int .u16 (t : Int), .int .u16 (f : Int)] 73)
    rw [World.size_alloc] at this
    exact this
  have b1 : Boxed w4 (w.heap.size + 1 + 1) 69 (.int .u16 ((conS t f [] : Nat) : Int)) := by
    have h1 := Boxed.new ((w.alloc (.cells #[p0, p1, p2, p3, p4, p5, p6, p7] 37)).alloc (.cells #[.int .u16 (t : Int), .int .u16 (f : Int)] 73)) 69 (.int .u16 0)
    rw [World.size_alloc, World.size_alloc] at h1
    rw [e4]; exact ((h1.alloc _).alloc _).alloc _
  have b2 : Boxed w4 (w.heap.size + 1 + 1 + 1) 69 (.int .u16 ((conA t f [] : Nat) : Int)) := by
    have h1 := Boxed.new (((w.alloc (.cells #[p0, p1, p2, p3, p4, p5, p6, p7] 37)).alloc (.cells #[.int .u16 (t : Int), .int .u16 (f : Int)] 73)).alloc (.cells #[.int .u16 0] 69)) 69 (.int .u16 4095)
    rw [World.size_alloc, World.size_alloc, World.size_alloc] at h1
    rw [e4]; exact (h1.alloc _).alloc _
  have b3 : Boxed w4 (w.heap.size + 1 + 1 + 1 + 1) 4 (.bool (conO t f [])) := by
    have h1 := Boxed.new ((((w.alloc (.cells #[p0, p1, p2, p3, p4, p5, p6, p7] 37)).alloc (.cells #[.int .u16 (t : Int), .int .u16 (f : Int)] 73)).alloc (.cells #[.int .u16 0] 69)).alloc (.cells #[.int .u16 4095] 69)) 4 (.bool false)
    rw [World.size_alloc, World.size_alloc, World.size_alloc, World.size_alloc] at h1
    rw [e4]; exact h1.alloc _
  have cP : Cells w4 (w.heap.size + 1 + 1 + 1 + 1 + 1) 0 [p0, p1, p2, p3, p4, p5, p6, p7] := by
    have h1 := Cells.new (((((w.alloc (.cells #[p0, p1, p2, p3, p4, p5, p6, p7] 37)).alloc (.cells #[.int .u16 (t : Int), .int .u16 (f : Int)] 73)).alloc (.cells #[.int .u16 0] 69)).alloc (.cells #[.int .u16 4095] 69)).alloc (.cells #[.bool false] 4)) [p0, p1, p2, p3, p4, p5, p6, p7] 37
    rw [World.size_alloc, World.size_alloc, World.size_alloc, World.size_alloc, World.size_alloc] at h1
    rw [e4]; exact h1
  have hseq := answers_seq HF.out 8 (by omega) w4 (w.heap.size + 1 + 1 + 1 + 1 + 1) (Rd.mono t4 h) cP w4.heap.size
  rw [← e4]
  have HZ4 := Lib.hid z4
  clear e4 hAs cP HF z4
  refine wpIn_rangeFunc_N hro (by omega) (gf := 103) (lb := #[.pointer (some ⟨w.heap.size + 1 + 1 + 1 + 1 + 1, 0, none⟩)]) rfl hf2 (enters_of Tryz.func103 (by kernel_rfl) rfl)
    hseq (Nat.le_refl _) (Below.refl _ _) (fun _ => rfl) zNo (zNo_ok _) (zNo_b _) (fun _ _ h => h)
    (fun pre X => Boxed X (w.heap.size + 1 + 1) 69 (.int .u16 ((conS t f pre : Nat) : Int)) ∧ Boxed X (w.heap.size + 1 + 1 + 1) 69 (.int .u16 ((conA t f pre : Nat) : Int)) ∧ Boxed X (w.heap.size + 1 + 1 + 1 + 1) 4 (.bool (conO t f pre)) ∧ X.heap[w.heap.size + 1]? = some (.cells ([.int .u16 (t : Int), .int .u16 (f : Int)] : List Value).toArray 73 (0, 0)) ∧ Below w.heap.size w X)
    ?own ⟨b1, b2, b3, bK, t4⟩
    (fun x => { tmps := #[.agg #[p0, p1, p2, p3, p4, p5, p6, p7], .agg #[.int .u16 (t : Int), .int .u16 (f : Int)], .pointer (some ⟨w.heap.size, 0, none⟩), .pointer (some ⟨w.heap.size + 1, 0, none⟩), .pointer (some ⟨w.heap.size + 1 + 1, 0, none⟩), .pointer (some ⟨w.heap.size + 1 + 1 + 1, 0, none⟩), .pointer (some ⟨w.heap.size + 1 + 1 + 1 + 1, 0, none⟩), .int .u16 (x.1 : Int), .agg #[p0, p1, p2, p3, p4, p5, p6, p7], .func (.func 103) #[] #[.pointer (some ⟨w.heap.size + 1 + 1 + 1 + 1 + 1, 0, none⟩)], .int .u16 (x.1 : Int), undef, undef, undef, undef, undef, undef, undef, undef, undef, undef, undef, undef, undef], defers := [] }) ?assign ?body ?done
  case own =>
    rintro s A B row ⟨h1, h2, h3, h4, h5⟩ hg hr
    have hn : ∀ k, k < w.heap.size + 6 → some k ≠ row := fun k hk e => by have := (hr k e.symm).1; have := HZ4.out; omega
    exact ⟨h1.kept hg (hn _ (by omega)), h2.kept hg (hn _ (by omega)), h3.kept hg (hn _ (by omega)), (hg.block _ (block_lt h4) (hn _ (by omega))).trans h4, (ownFrom_below (β := Unit) (Nat.le_refl _) (by have := HZ4.out; omega)) () A B row h5 hg hr⟩
  case assign =>
    intro lc x X K hK
    gi_wp2
    exact hK
  case body =>
    rintro lc pre x X ⟨h1, h2, h3, h4, h5⟩ hlen hzb hsX
    have hS := conS_lt t f pre
    have hA0 := conA_lt t f pre
    have hm1 : 1 ≤ 9 - 1 - 1 := by omega
    have hmx : Tryz.prog.follows .mixedOrders = true := by kernel_rfl
    obtain ⟨k0, k1⟩ := cells2 (bx_cells h4)
    cases hA : agM t f x.1
    · have e1 := Lib.hid (conS_no (ms := pre) hA)
      have e2 := Lib.hid (conA_no (ms := pre) hA)
      have e3 := Lib.hid (conO_no (ms := pre) hA)
      gi_wp2_with (gi_at_call 86; refine (CallsIn.inRound lc (hAg _ _ x.2 X).out).mono ?_; rintro e X2 ⟨he, b2⟩; rw [hA] at he; subst he)
      have kb := kpZ_below (m0 := w4.heap.size) (zNo_ok w4.heap.size) hsX hzb b2
      exact ⟨kb, by rw [e1.out]; exact h1.kept (below_grown b2) (by simp), by rw [e2.out]; exact h2.kept (below_grown b2) (by simp), by rw [e3.out]; exact h3.kept (below_grown b2) (by simp), (b2.block _ (block_lt h4)).trans h4, h5.step b2⟩
    · have e1 := Lib.hid (conS_yes (ms := pre) hA)
      have e2 := Lib.hid (conA_yes (ms := pre) hA)
      have e3 := Lib.hid (conO_yes (ms := pre) hA)
      obtain ⟨S, hSe⟩ : ∃ S, S = conS t f pre := ⟨_, rfl⟩
      obtain ⟨A, hAe⟩ : ∃ A, A = conA t f pre := ⟨_, rfl⟩
      obtain ⟨O, hOe⟩ : ∃ O, O = conO t f pre := ⟨_, rfl⟩
      rw [← hSe] at h1 hS e1
      rw [← hAe] at h2 hA0 e2
      rw [← hOe] at h3
      clear hSe hAe hOe
      gi_wp2_with (gi_at_call 86; refine (CallsIn.inRound lc (hAg _ _ x.2 X).out).mono ?_; rintro e X2 ⟨he, b2⟩; rw [hA] at he; subst he)
      have hz4 := HZ4.out
      have hsX2 := Nat.le_trans hsX b2.size
      have kb := kpZ_below (m0 := w4.heap.size) (zNo_ok w4.heap.size) hsX hzb b2
      have h1 := h1.kept (below_grown b2) (by simp)
      have h1 : Boxed X2.drew _ _ _ := h1
      have h2 := h2.kept (below_grown b2) (by simp)
      have h2 : Boxed X2.drew _ _ _ := h2
      have h3 := h3.kept (below_grown b2) (by simp)
      have h3 : Boxed X2.drew _ _ _ := h3
      have h4 := (b2.block _ (block_lt h4)).trans h4
      have h4 : X2.drew.heap[w.heap.size + 1]? = _ := h4
      have h5 := (h5.step b2).drew
      have kd : KpZ zNo w4.heap.size X2 X2.drew := kpZ_below (zNo_ok w4.heap.size) hsX2 kb.zb (Below.refl _ _).drew
      have k3 := kpZ_set3 (m0 := w4.heap.size) (W := X2.drew) (a := w.heap.size + 1 + 1) (b := w.heap.size + 1 + 1 + 1) (c := w.heap.size + 1 + 1 + 1 + 1) (by omega) (by omega) (by omega) (.int .u16 ((S ||| x.1 : Nat) : Int)) (.int .u16 ((A &&& x.1 : Nat) : Int)) (.bool true)
      have l4 : w.heap.size + 1 < X2.drew.heap.size := block_lt h4
      have hLeaf := Lib.hid (And.intro (kb.trans (kd.trans k3)) (And.intro (((h1.set (.int .u16 ((S ||| x.1 : Nat) : Int))).other (B' := w.heap.size + 1 + 1 + 1) (by omega) (.int .u16 ((A &&& x.1 : Nat) : Int))).other (B' := w.heap.size + 1 + 1 + 1 + 1) (by omega) (.bool true))
        (And.intro (((h2.other (B' := w.heap.size + 1 + 1) (by omega) (.int .u16 ((S ||| x.1 : Nat) : Int))).set (.int .u16 ((A &&& x.1 : Nat) : Int))).other (B' := w.heap.size + 1 + 1 + 1 + 1) (by omega) (.bool true))
        (And.intro (((h3.other (B' := w.heap.size + 1 + 1) (by omega) (.int .u16 ((S ||| x.1 : Nat) : Int))).other (B' := w.heap.size + 1 + 1 + 1) (by omega) (.int .u16 ((A &&& x.1 : Nat) : Int))).set (.bool true))
        (And.intro ((keep3 (a := w.heap.size + 1 + 1) (b := w.heap.size + 1 + 1 + 1) (c := w.heap.size + 1 + 1 + 1 + 1) (by omega) (by omega) (by omega) (.int .u16 ((S ||| x.1 : Nat) : Int)) (.int .u16 ((A &&& x.1 : Nat) : Int)) (.bool true)).trans h4)
        (((h5.setCell (p := ⟨w.heap.size + 1 + 1, 0, none⟩) (by simp; omega) (.int .u16 ((S ||| x.1 : Nat) : Int))).setCell (p := ⟨w.heap.size + 1 + 1 + 1, 0, none⟩) (by simp; omega) (.int .u16 ((A &&& x.1 : Nat) : Int))).setCell (p := ⟨w.heap.size + 1 + 1 + 1 + 1, 0, none⟩) (by simp; omega) (.bool true)))))))
      have hc1 : X2.cell? ⟨w.heap.size + 1 + 1, 0, none⟩ = some (.int .u16 (S : Int)) := h1.cell
      have hc2 : X2.cell? ⟨w.heap.size + 1 + 1 + 1, 0, none⟩ = some (.int .u16 (A : Int)) := h2.cell
      have hc3 : X2.cell? ⟨w.heap.size + 1 + 1 + 1 + 1, 0, none⟩ = some (.bool O) := h3.cell
      have hz1 : X2.frozen? ⟨w.heap.size + 1 + 1, 0, none⟩ = false := h1.frozen
      have hz2 : X2.frozen? ⟨w.heap.size + 1 + 1 + 1, 0, none⟩ = false := h2.frozen
      have hz3 : X2.frozen? ⟨w.heap.size + 1 + 1 + 1 + 1, 0, none⟩ = false := h3.frozen
      have hLe : Hid (Boxed X2.drew (w.heap.size + 1 + 1) 69 (.int .u16 (S : Int))) := h1
      clear kb kd k3 h1 h2 h3 h4 h5 b2 hz4 l4 hsX2 k0 k1
      refine wpIn_region_any hmx ?_
      show wpAnyIn _ _ _ _ _ _ _ _ _ X2.drew
      try simp only [List.size_toArray, List.length_cons, List.length_nil, Nat.reduceAdd, Array.replicate_succ, Array.replicate_zero, List.push_toArray, List.append_toArray, List.nil_append, List.cons_append]
      refine wpAnyIn_cap (fun G hG => ?_)
      have st01234 : G 4 #[true, true, true, true, true, false, false, false, false] { tmps := #[.agg #[p0, p1, p2, p3, p4, p5, p6, p7], .agg #[.int .u16 (t : Int), .int .u16 (f : Int)], .pointer (some ⟨w.heap.size, 0, none⟩), .pointer (some ⟨w.heap.size + 1, 0, none⟩), .pointer (some ⟨w.heap.size + 1 + 1, 0, none⟩), .pointer (some ⟨w.heap.size + 1 + 1 + 1, 0, none⟩), .pointer (some ⟨w.heap.size + 1 + 1 + 1 + 1, 0, none⟩), .int .u16 (x.1 : Int), .agg #[p0, p1, p2, p3, p4, p5, p6, p7], .func (.func 103) #[] #[.pointer (some ⟨w.heap.size + 1 + 1 + 1 + 1 + 1, 0, none⟩)], .int .u16 (x.1 : Int), .agg #[.int .u16 (t : Int), .int .u16 (f : Int)], .int .u16 (x.1 : Int), .bool true, .int .u16 (S : Int), .int .u16 (x.1 : Int), .int .u16 ((S ||| x.1 : Nat) : Int), .int .u16 (A : Int), .int .u16 (x.1 : Int), undef, undef, undef, undef, undef], defers := [] } X2.drew := by
        refine cap_useC hG.symm ?_
        refine wpAnyIn_ready (rs := [5]) (by kernel_rfl) (by simp) ?_
        refine AllReadyIn.cons rfl (fun K hK => ?_) AllReadyIn.nil
        go_simp
        refine (CallsIn.inRound lc (hMe _ A x.1 hA0 x.2 X2.drew).out).mono ?_
        rintro e w9 ⟨rfl, rfl⟩
        refine hK _ _ ?_
        clear hK K
        try simp only [Act.put, List.setIfInBounds_toArray, List.set_cons_zero, List.set_cons_succ]
        refine wpAnyIn_ready (rs := [6]) (by kernel_rfl) (by simp) ?_
        refine AllReadyIn.cons rfl (fun K hK => ?_) AllReadyIn.nil
        go_simp
        refine hK _ _ ?_
        clear hK K
        try simp only [Act.put, List.setIfInBounds_toArray, List.set_cons_zero, List.set_cons_succ]
        refine wpAnyIn_ready (rs := [7]) (by kernel_rfl) (by simp) ?_
        refine AllReadyIn.cons rfl (fun K hK => ?_) AllReadyIn.nil
        go_simp
        refine hK _ _ ?_
        clear hK K
        try simp only [Act.put, List.setIfInBounds_toArray, List.set_cons_zero, List.set_cons_succ]
        refine wpAnyIn_ready (rs := [8]) (by kernel_rfl) (by simp) ?_
        refine AllReadyIn.cons rfl (fun K hK => ?_) AllReadyIn.nil
        go_simp
        refine hK _ _ ?_
        clear hK K
        try simp only [Act.put, List.setIfInBounds_toArray, List.set_cons_zero, List.set_cons_succ]
        refine wpAnyIn_done (by kernel_rfl) ?_ _
        exact ⟨rfl, leafC e1.out e2.out e3.out hLeaf.out⟩
      have st0123 : G 5 #[true, true, true, true, false, false, false, false, false] { tmps := #[.agg #[p0, p1, p2, p3, p4, p5, p6, p7], .agg #[.int .u16 (t : Int), .int .u16 (f : Int)], .pointer (some ⟨w.heap.size, 0, none⟩), .pointer (some ⟨w.heap.size + 1, 0, none⟩), .pointer (some ⟨w.heap.size + 1 + 1, 0, none⟩), .pointer (some ⟨w.heap.size + 1 + 1 + 1, 0, none⟩), .pointer (some ⟨w.heap.size + 1 + 1 + 1 + 1, 0, none⟩), .int .u16 (x.1 : Int), .agg #[p0, p1, p2, p3, p4, p5, p6, p7], .func (.func 103) #[] #[.pointer (some ⟨w.heap.size + 1 + 1 + 1 + 1 + 1, 0, none⟩)], .int .u16 (x.1 : Int), .agg #[.int .u16 (t : Int), .int .u16 (f : Int)], .int .u16 (x.1 : Int), .bool true, .int .u16 (S : Int), .int .u16 (x.1 : Int), .int .u16 ((S ||| x.1 : Nat) : Int), .int .u16 (A : Int), undef, undef, undef, undef, undef, undef], defers := [] } X2.drew := by
        refine cap_useC hG.symm ?_
        refine wpAnyIn_ready (rs := [4]) (by kernel_rfl) (by simp) ?_
        refine AllReadyIn.cons rfl (fun K hK => ?_) AllReadyIn.nil
        go_simp
        refine hK _ _ ?_
        clear hK K
        try simp only [Act.put, List.setIfInBounds_toArray, List.set_cons_zero, List.set_cons_succ]
        exact cap_useC hG st01234
      have st0124 : G 5 #[true, true, true, false, true, false, false, false, false] { tmps := #[.agg #[p0, p1, p2, p3, p4, p5, p6, p7], .agg #[.int .u16 (t : Int), .int .u16 (f : Int)], .pointer (some ⟨w.heap.size, 0, none⟩), .pointer (some ⟨w.heap.size + 1, 0, none⟩), .pointer (some ⟨w.heap.size + 1 + 1, 0, none⟩), .pointer (some ⟨w.heap.size + 1 + 1 + 1, 0, none⟩), .pointer (some ⟨w.heap.size + 1 + 1 + 1 + 1, 0, none⟩), .int .u16 (x.1 : Int), .agg #[p0, p1, p2, p3, p4, p5, p6, p7], .func (.func 103) #[] #[.pointer (some ⟨w.heap.size + 1 + 1 + 1 + 1 + 1, 0, none⟩)], .int .u16 (x.1 : Int), .agg #[.int .u16 (t : Int), .int .u16 (f : Int)], .int .u16 (x.1 : Int), .bool true, .int .u16 (S : Int), .int .u16 (x.1 : Int), .int .u16 ((S ||| x.1 : Nat) : Int), undef, .int .u16 (x.1 : Int), undef, undef, undef, undef, undef], defers := [] } X2.drew := by
        refine cap_useC hG.symm ?_
        refine wpAnyIn_ready (rs := [3]) (by kernel_rfl) (by simp) ?_
        refine AllReadyIn.cons rfl (fun K hK => ?_) AllReadyIn.nil
        go_simp
        refine hK _ _ ?_
        clear hK K
        try simp only [Act.put, List.setIfInBounds_toArray, List.set_cons_zero, List.set_cons_succ]
        exact cap_useC hG st01234
      have st0134 : G 5 #[true, true, false, true, true, false, false, false, false] { tmps := #[.agg #[p0, p1, p2, p3, p4, p5, p6, p7], .agg #[.int .u16 (t : Int), .int .u16 (f : Int)], .pointer (some ⟨w.heap.size, 0, none⟩), .pointer (some ⟨w.heap.size + 1, 0, none⟩), .pointer (some ⟨w.heap.size + 1 + 1, 0, none⟩), .pointer (some ⟨w.heap.size + 1 + 1 + 1, 0, none⟩), .pointer (some ⟨w.heap.size + 1 + 1 + 1 + 1, 0, none⟩), .int .u16 (x.1 : Int), .agg #[p0, p1, p2, p3, p4, p5, p6, p7], .func (.func 103) #[] #[.pointer (some ⟨w.heap.size + 1 + 1 + 1 + 1 + 1, 0, none⟩)], .int .u16 (x.1 : Int), .agg #[.int .u16 (t : Int), .int .u16 (f : Int)], .int .u16 (x.1 : Int), .bool true, .int .u16 (S : Int), .int .u16 (x.1 : Int), undef, .int .u16 (A : Int), .int .u16 (x.1 : Int), undef, undef, undef, undef, undef], defers := [] } X2.drew := by
        refine cap_useC hG.symm ?_
        refine wpAnyIn_ready (rs := [2]) (by kernel_rfl) (by simp) ?_
        refine AllReadyIn.cons rfl (fun K hK => ?_) AllReadyIn.nil
        go_simp
        refine (CallsIn.inRound lc (hJo _ S x.1 hS x.2 X2.drew).out).mono ?_
        rintro e w9 ⟨rfl, rfl⟩
        refine hK _ _ ?_
        clear hK K
        try simp only [Act.put, List.setIfInBounds_toArray, List.set_cons_zero, List.set_cons_succ]
        exact cap_useC hG st01234
      have st012 : G 6 #[true, true, true, false, false, false, false, false, false] { tmps := #[.agg #[p0, p1, p2, p3, p4, p5, p6, p7], .agg #[.int .u16 (t : Int), .int .u16 (f : Int)], .pointer (some ⟨w.heap.size, 0, none⟩), .pointer (some ⟨w.heap.size + 1, 0, none⟩), .pointer (some ⟨w.heap.size + 1 + 1, 0, none⟩), .pointer (some ⟨w.heap.size + 1 + 1 + 1, 0, none⟩), .pointer (some ⟨w.heap.size + 1 + 1 + 1 + 1, 0, none⟩), .int .u16 (x.1 : Int), .agg #[p0, p1, p2, p3, p4, p5, p6, p7], .func (.func 103) #[] #[.pointer (some ⟨w.heap.size + 1 + 1 + 1 + 1 + 1, 0, none⟩)], .int .u16 (x.1 : Int), .agg #[.int .u16 (t : Int), .int .u16 (f : Int)], .int .u16 (x.1 : Int), .bool true, .int .u16 (S : Int), .int .u16 (x.1 : Int), .int .u16 ((S ||| x.1 : Nat) : Int), undef, undef, undef, undef, undef, undef, undef], defers := [] } X2.drew := by
        refine cap_useC hG.symm ?_
        refine wpAnyIn_ready (rs := [3, 4]) (by kernel_rfl) (by simp) ?_
        refine AllReadyIn.cons rfl (fun K hK => ?_) (AllReadyIn.cons rfl (fun K hK => ?_) AllReadyIn.nil)
        · go_simp
          refine hK _ _ ?_
          clear hK K
          try simp only [Act.put, List.setIfInBounds_toArray, List.set_cons_zero, List.set_cons_succ]
          exact cap_useC hG st0123
        · go_simp
          refine hK _ _ ?_
          clear hK K
          try simp only [Act.put, List.setIfInBounds_toArray, List.set_cons_zero, List.set_cons_succ]
          exact cap_useC hG st0124
      have st013 : G 6 #[true, true, false, true, false, false, false, false, false] { tmps := #[.agg #[p0, p1, p2, p3, p4, p5, p6, p7], .agg #[.int .u16 (t : Int), .int .u16 (f : Int)], .pointer (some ⟨w.heap.size, 0, none⟩), .pointer (some ⟨w.heap.size + 1, 0, none⟩), .pointer (some ⟨w.heap.size + 1 + 1, 0, none⟩), .pointer (some ⟨w.heap.size + 1 + 1 + 1, 0, none⟩), .pointer (some ⟨w.heap.size + 1 + 1 + 1 + 1, 0, none⟩), .int .u16 (x.1 : Int), .agg #[p0, p1, p2, p3, p4, p5, p6, p7], .func (.func 103) #[] #[.pointer (some ⟨w.heap.size + 1 + 1 + 1 + 1 + 1, 0, none⟩)], .int .u16 (x.1 : Int), .agg #[.int .u16 (t : Int), .int .u16 (f : Int)], .int .u16 (x.1 : Int), .bool true, .int .u16 (S : Int), .int .u16 (x.1 : Int), undef, .int .u16 (A : Int), undef, undef, undef, undef, undef, undef], defers := [] } X2.drew := by
        refine cap_useC hG.symm ?_
        refine wpAnyIn_ready (rs := [2, 4]) (by kernel_rfl) (by simp) ?_
        refine AllReadyIn.cons rfl (fun K hK => ?_) (AllReadyIn.cons rfl (fun K hK => ?_) AllReadyIn.nil)
        · go_simp
          refine (CallsIn.inRound lc (hJo _ S x.1 hS x.2 X2.drew).out).mono ?_
          rintro e w9 ⟨rfl, rfl⟩
          refine hK _ _ ?_
          clear hK K
          try simp only [Act.put, List.setIfInBounds_toArray, List.set_cons_zero, List.set_cons_succ]
          exact cap_useC hG st0123
        · go_simp
          refine hK _ _ ?_
          clear hK K
          try simp only [Act.put, List.setIfInBounds_toArray, List.set_cons_zero, List.set_cons_succ]
          exact cap_useC hG st0134
      have st014 : G 6 #[true, true, false, false, true, false, false, false, false] { tmps := #[.agg #[p0, p1, p2, p3, p4, p5, p6, p7], .agg #[.int .u16 (t : Int), .int .u16 (f : Int)], .pointer (some ⟨w.heap.size, 0, none⟩), .pointer (some ⟨w.heap.size + 1, 0, none⟩), .pointer (some ⟨w.heap.size + 1 + 1, 0, none⟩), .pointer (some ⟨w.heap.size + 1 + 1 + 1, 0, none⟩), .pointer (some ⟨w.heap.size + 1 + 1 + 1 + 1, 0, none⟩), .int .u16 (x.1 : Int), .agg #[p0, p1, p2, p3, p4, p5, p6, p7], .func (.func 103) #[] #[.pointer (some ⟨w.heap.size + 1 + 1 + 1 + 1 + 1, 0, none⟩)], .int .u16 (x.1 : Int), .agg #[.int .u16 (t : Int), .int .u16 (f : Int)], .int .u16 (x.1 : Int), .bool true, .int .u16 (S : Int), .int .u16 (x.1 : Int), undef, undef, .int .u16 (x.1 : Int), undef, undef, undef, undef, undef], defers := [] } X2.drew := by
        refine cap_useC hG.symm ?_
        refine wpAnyIn_ready (rs := [2, 3]) (by kernel_rfl) (by simp) ?_
        refine AllReadyIn.cons rfl (fun K hK => ?_) (AllReadyIn.cons rfl (fun K hK => ?_) AllReadyIn.nil)
        · go_simp
          refine (CallsIn.inRound lc (hJo _ S x.1 hS x.2 X2.drew).out).mono ?_
          rintro e w9 ⟨rfl, rfl⟩
          refine hK _ _ ?_
          clear hK K
          try simp only [Act.put, List.setIfInBounds_toArray, List.set_cons_zero, List.set_cons_succ]
          exact cap_useC hG st0124
        · go_simp
          refine hK _ _ ?_
          clear hK K
          try simp only [Act.put, List.setIfInBounds_toArray, List.set_cons_zero, List.set_cons_succ]
          exact cap_useC hG st0134
      have st034 : G 6 #[true, false, false, true, true, false, false, false, false] { tmps := #[.agg #[p0, p1, p2, p3, p4, p5, p6, p7], .agg #[.int .u16 (t : Int), .int .u16 (f : Int)], .pointer (some ⟨w.heap.size, 0, none⟩), .pointer (some ⟨w.heap.size + 1, 0, none⟩), .pointer (some ⟨w.heap.size + 1 + 1, 0, none⟩), .pointer (some ⟨w.heap.size + 1 + 1 + 1, 0, none⟩), .pointer (some ⟨w.heap.size + 1 + 1 + 1 + 1, 0, none⟩), .int .u16 (x.1 : Int), .agg #[p0, p1, p2, p3, p4, p5, p6, p7], .func (.func 103) #[] #[.pointer (some ⟨w.heap.size + 1 + 1 + 1 + 1 + 1, 0, none⟩)], .int .u16 (x.1 : Int), .agg #[.int .u16 (t : Int), .int .u16 (f : Int)], .int .u16 (x.1 : Int), .bool true, .int .u16 (S : Int), undef, undef, .int .u16 (A : Int), .int .u16 (x.1 : Int), undef, undef, undef, undef, undef], defers := [] } X2.drew := by
        refine cap_useC hG.symm ?_
        refine wpAnyIn_ready (rs := [1]) (by kernel_rfl) (by simp) ?_
        refine AllReadyIn.cons rfl (fun K hK => ?_) AllReadyIn.nil
        go_simp
        refine hK _ _ ?_
        clear hK K
        try simp only [Act.put, List.setIfInBounds_toArray, List.set_cons_zero, List.set_cons_succ]
        exact cap_useC hG st0134
      have st134 : G 6 #[false, true, false, true, true, false, false, false, false] { tmps := #[.agg #[p0, p1, p2, p3, p4, p5, p6, p7], .agg #[.int .u16 (t : Int), .int .u16 (f : Int)], .pointer (some ⟨w.heap.size, 0, none⟩), .pointer (some ⟨w.heap.size + 1, 0, none⟩), .pointer (some ⟨w.heap.size + 1 + 1, 0, none⟩), .pointer (some ⟨w.heap.size + 1 + 1 + 1, 0, none⟩), .pointer (some ⟨w.heap.size + 1 + 1 + 1 + 1, 0, none⟩), .int .u16 (x.1 : Int), .agg #[p0, p1, p2, p3, p4, p5, p6, p7], .func (.func 103) #[] #[.pointer (some ⟨w.heap.size + 1 + 1 + 1 + 1 + 1, 0, none⟩)], .int .u16 (x.1 : Int), .agg #[.int .u16 (t : Int), .int .u16 (f : Int)], .int .u16 (x.1 : Int), .bool true, undef, .int .u16 (x.1 : Int), undef, .int .u16 (A : Int), .int .u16 (x.1 : Int), undef, undef, undef, undef, undef], defers := [] } X2.drew := by
        refine cap_useC hG.symm ?_
        refine wpAnyIn_ready (rs := [0]) (by kernel_rfl) (by simp) ?_
        refine AllReadyIn.cons rfl (fun K hK => ?_) AllReadyIn.nil
        go_simp
        refine hK _ _ ?_
        clear hK K
        try simp only [Act.put, List.setIfInBounds_toArray, List.set_cons_zero, List.set_cons_succ]
        exact cap_useC hG st0134
      have st01 : G 7 #[true, true, false, false, false, false, false, false, false] { tmps := #[.agg #[p0, p1, p2, p3, p4, p5, p6, p7], .agg #[.int .u16 (t : Int), .int .u16 (f : Int)], .pointer (some ⟨w.heap.size, 0, none⟩), .pointer (some ⟨w.heap.size + 1, 0, none⟩), .pointer (some ⟨w.heap.size + 1 + 1, 0, none⟩), .pointer (some ⟨w.heap.size + 1 + 1 + 1, 0, none⟩), .pointer (some ⟨w.heap.size + 1 + 1 + 1 + 1, 0, none⟩), .int .u16 (x.1 : Int), .agg #[p0, p1, p2, p3, p4, p5, p6, p7], .func (.func 103) #[] #[.pointer (some ⟨w.heap.size + 1 + 1 + 1 + 1 + 1, 0, none⟩)], .int .u16 (x.1 : Int), .agg #[.int .u16 (t : Int), .int .u16 (f : Int)], .int .u16 (x.1 : Int), .bool true, .int .u16 (S : Int), .int .u16 (x.1 : Int), undef, undef, undef, undef, undef, undef, undef, undef], defers := [] } X2.drew := by
        refine cap_useC hG.symm ?_
        refine wpAnyIn_ready (rs := [2, 3, 4]) (by kernel_rfl) (by simp) ?_
        refine AllReadyIn.cons rfl (fun K hK => ?_) (AllReadyIn.cons rfl (fun K hK => ?_) (AllReadyIn.cons rfl (fun K hK => ?_) AllReadyIn.nil))
        · go_simp
          refine (CallsIn.inRound lc (hJo _ S x.1 hS x.2 X2.drew).out).mono ?_
          rintro e w9 ⟨rfl, rfl⟩
          refine hK _ _ ?_
          clear hK K
          try simp only [Act.put, List.setIfInBounds_toArray, List.set_cons_zero, List.set_cons_succ]
          exact cap_useC hG st012
        · go_simp
          refine hK _ _ ?_
          clear hK K
          try simp only [Act.put, List.setIfInBounds_toArray, List.set_cons_zero, List.set_cons_succ]
          exact cap_useC hG st013
        · go_simp
          refine hK _ _ ?_
          clear hK K
          try simp only [Act.put, List.setIfInBounds_toArray, List.set_cons_zero, List.set_cons_succ]
          exact cap_useC hG st014
      have st03 : G 7 #[true, false, false, true, false, false, false, false, false] { tmps := #[.agg #[p0, p1, p2, p3, p4, p5, p6, p7], .agg #[.int .u16 (t : Int), .int .u16 (f : Int)], .pointer (some ⟨w.heap.size, 0, none⟩), .pointer (some ⟨w.heap.size + 1, 0, none⟩), .pointer (some ⟨w.heap.size + 1 + 1, 0, none⟩), .pointer (some ⟨w.heap.size + 1 + 1 + 1, 0, none⟩), .pointer (some ⟨w.heap.size + 1 + 1 + 1 + 1, 0, none⟩), .int .u16 (x.1 : Int), .agg #[p0, p1, p2, p3, p4, p5, p6, p7], .func (.func 103) #[] #[.pointer (some ⟨w.heap.size + 1 + 1 + 1 + 1 + 1, 0, none⟩)], .int .u16 (x.1 : Int), .agg #[.int .u16 (t : Int), .int .u16 (f : Int)], .int .u16 (x.1 : Int), .bool true, .int .u16 (S : Int), undef, undef, .int .u16 (A : Int), undef, undef, undef, undef, undef, undef], defers := [] } X2.drew := by
        refine cap_useC hG.symm ?_
        refine wpAnyIn_ready (rs := [1, 4]) (by kernel_rfl) (by simp) ?_
        refine AllReadyIn.cons rfl (fun K hK => ?_) (AllReadyIn.cons rfl (fun K hK => ?_) AllReadyIn.nil)
        · go_simp
          refine hK _ _ ?_
          clear hK K
          try simp only [Act.put, List.setIfInBounds_toArray, List.set_cons_zero, List.set_cons_succ]
          exact cap_useC hG st013
        · go_simp
          refine hK _ _ ?_
          clear hK K
          try simp only [Act.put, List.setIfInBounds_toArray, List.set_cons_zero, List.set_cons_succ]
          exact cap_useC hG st034
      have st04 : G 7 #[true, false, false, false, true, false, false, false, false] { tmps := #[.agg #[p0, p1, p2, p3, p4, p5, p6, p7], .agg #[.int .u16 (t : Int), .int .u16 (f : Int)], .pointer (some ⟨w.heap.size, 0, none⟩), .pointer (some ⟨w.heap.size + 1, 0, none⟩), .pointer (some ⟨w.heap.size + 1 + 1, 0, none⟩), .pointer (some ⟨w.heap.size + 1 + 1 + 1, 0, none⟩), .pointer (some ⟨w.heap.size + 1 + 1 + 1 + 1, 0, none⟩), .int .u16 (x.1 : Int), .agg #[p0, p1, p2, p3, p4, p5, p6, p7], .func (.func 103) #[] #[.pointer (some ⟨w.heap.size + 1 + 1 + 1 + 1 + 1, 0, none⟩)], .int .u16 (x.1 : Int), .agg #[.int .u16 (t : Int), .int .u16 (f : Int)], .int .u16 (x.1 : Int), .bool true, .int .u16 (S : Int), undef, undef, undef, .int .u16 (x.1 : Int), undef, undef, undef, undef, undef], defers := [] } X2.drew := by
        refine cap_useC hG.symm ?_
        refine wpAnyIn_ready (rs := [1, 3]) (by kernel_rfl) (by simp) ?_
        refine AllReadyIn.cons rfl (fun K hK => ?_) (AllReadyIn.cons rfl (fun K hK => ?_) AllReadyIn.nil)
        · go_simp
          refine hK _ _ ?_
          clear hK K
          try simp only [Act.put, List.setIfInBounds_toArray, List.set_cons_zero, List.set_cons_succ]
          exact cap_useC hG st014
        · go_simp
          refine hK _ _ ?_
          clear hK K
          try simp only [Act.put, List.setIfInBounds_toArray, List.set_cons_zero, List.set_cons_succ]
          exact cap_useC hG st034
      have st13 : G 7 #[false, true, false, true, false, false, false, false, false] { tmps := #[.agg #[p0, p1, p2, p3, p4, p5, p6, p7], .agg #[.int .u16 (t : Int), .int .u16 (f : Int)], .pointer (some ⟨w.heap.size, 0, none⟩), .pointer (some ⟨w.heap.size + 1, 0, none⟩), .pointer (some ⟨w.heap.size + 1 + 1, 0, none⟩), .pointer (some ⟨w.heap.size + 1 + 1 + 1, 0, none⟩), .pointer (some ⟨w.heap.size + 1 + 1 + 1 + 1, 0, none⟩), .int .u16 (x.1 : Int), .agg #[p0, p1, p2, p3, p4, p5, p6, p7], .func (.func 103) #[] #[.pointer (some ⟨w.heap.size + 1 + 1 + 1 + 1 + 1, 0, none⟩)], .int .u16 (x.1 : Int), .agg #[.int .u16 (t : Int), .int .u16 (f : Int)], .int .u16 (x.1 : Int), .bool true, undef, .int .u16 (x.1 : Int), undef, .int .u16 (A : Int), undef, undef, undef, undef, undef, undef], defers := [] } X2.drew := by
        refine cap_useC hG.symm ?_
        refine wpAnyIn_ready (rs := [0, 4]) (by kernel_rfl) (by simp) ?_
        refine AllReadyIn.cons rfl (fun K hK => ?_) (AllReadyIn.cons rfl (fun K hK => ?_) AllReadyIn.nil)
        · go_simp
          refine hK _ _ ?_
          clear hK K
          try simp only [Act.put, List.setIfInBounds_toArray, List.set_cons_zero, List.set_cons_succ]
          exact cap_useC hG st013
        · go_simp
          refine hK _ _ ?_
          clear hK K
          try simp only [Act.put, List.setIfInBounds_toArray, List.set_cons_zero, List.set_cons_succ]
          exact cap_useC hG st134
      have st14 : G 7 #[false, true, false, false, true, false, false, false, false] { tmps := #[.agg #[p0, p1, p2, p3, p4, p5, p6, p7], .agg #[.int .u16 (t : Int), .int .u16 (f : Int)], .pointer (some ⟨w.heap.size, 0, none⟩), .pointer (some ⟨w.heap.size + 1, 0, none⟩), .pointer (some ⟨w.heap.size + 1 + 1, 0, none⟩), .pointer (some ⟨w.heap.size + 1 + 1 + 1, 0, none⟩), .pointer (some ⟨w.heap.size + 1 + 1 + 1 + 1, 0, none⟩), .int .u16 (x.1 : Int), .agg #[p0, p1, p2, p3, p4, p5, p6, p7], .func (.func 103) #[] #[.pointer (some ⟨w.heap.size + 1 + 1 + 1 + 1 + 1, 0, none⟩)], .int .u16 (x.1 : Int), .agg #[.int .u16 (t : Int), .int .u16 (f : Int)], .int .u16 (x.1 : Int), .bool true, undef, .int .u16 (x.1 : Int), undef, undef, .int .u16 (x.1 : Int), undef, undef, undef, undef, undef], defers := [] } X2.drew := by
        refine cap_useC hG.symm ?_
        refine wpAnyIn_ready (rs := [0, 3]) (by kernel_rfl) (by simp) ?_
        refine AllReadyIn.cons rfl (fun K hK => ?_) (AllReadyIn.cons rfl (fun K hK => ?_) AllReadyIn.nil)
        · go_simp
          refine hK _ _ ?_
          clear hK K
          try simp only [Act.put, List.setIfInBounds_toArray, List.set_cons_zero, List.set_cons_succ]
          exact cap_useC hG st014
        · go_simp
          refine hK _ _ ?_
          clear hK K
          try simp only [Act.put, List.setIfInBounds_toArray, List.set_cons_zero, List.set_cons_succ]
          exact cap_useC hG st134
      have st34 : G 7 #[false, false, false, true, true, false, false, false, false] { tmps := #[.agg #[p0, p1, p2, p3, p4, p5, p6, p7], .agg #[.int .u16 (t : Int), .int .u16 (f : Int)], .pointer (some ⟨w.heap.size, 0, none⟩), .pointer (some ⟨w.heap.size + 1, 0, none⟩), .pointer (some ⟨w.heap.size + 1 + 1, 0, none⟩), .pointer (some ⟨w.heap.size + 1 + 1 + 1, 0, none⟩), .pointer (some ⟨w.heap.size + 1 + 1 + 1 + 1, 0, none⟩), .int .u16 (x.1 : Int), .agg #[p0, p1, p2, p3, p4, p5, p6, p7], .func (.func 103) #[] #[.pointer (some ⟨w.heap.size + 1 + 1 + 1 + 1 + 1, 0, none⟩)], .int .u16 (x.1 : Int), .agg #[.int .u16 (t : Int), .int .u16 (f : Int)], .int .u16 (x.1 : Int), .bool true, undef, undef, undef, .int .u16 (A : Int), .int .u16 (x.1 : Int), undef, undef, undef, undef, undef], defers := [] } X2.drew := by
        refine cap_useC hG.symm ?_
        refine wpAnyIn_ready (rs := [0, 1]) (by kernel_rfl) (by simp) ?_
        refine AllReadyIn.cons rfl (fun K hK => ?_) (AllReadyIn.cons rfl (fun K hK => ?_) AllReadyIn.nil)
        · go_simp
          refine hK _ _ ?_
          clear hK K
          try simp only [Act.put, List.setIfInBounds_toArray, List.set_cons_zero, List.set_cons_succ]
          exact cap_useC hG st034
        · go_simp
          refine hK _ _ ?_
          clear hK K
          try simp only [Act.put, List.setIfInBounds_toArray, List.set_cons_zero, List.set_cons_succ]
          exact cap_useC hG st134
      have st0 : G 8 #[true, false, false, false, false, false, false, false, false] { tmps := #[.agg #[p0, p1, p2, p3, p4, p5, p6, p7], .agg #[.int .u16 (t : Int), .int .u16 (f : Int)], .pointer (some ⟨w.heap.size, 0, none⟩), .pointer (some ⟨w.heap.size + 1, 0, none⟩), .pointer (some ⟨w.heap.size + 1 + 1, 0, none⟩), .pointer (some ⟨w.heap.size + 1 + 1 + 1, 0, none⟩), .pointer (some ⟨w.heap.size + 1 + 1 + 1 + 1, 0, none⟩), .int .u16 (x.1 : Int), .agg #[p0, p1, p2, p3, p4, p5, p6, p7], .func (.func 103) #[] #[.pointer (some ⟨w.heap.size + 1 + 1 + 1 + 1 + 1, 0, none⟩)], .int .u16 (x.1 : Int), .agg #[.int .u16 (t : Int), .int .u16 (f : Int)], .int .u16 (x.1 : Int), .bool true, .int .u16 (S : Int), undef, undef, undef, undef, undef, undef, undef, undef, undef], defers := [] } X2.drew := by
        refine cap_useC hG.symm ?_
        refine wpAnyIn_ready (rs := [1, 3, 4]) (by kernel_rfl) (by simp) ?_
        refine AllReadyIn.cons rfl (fun K hK => ?_) (AllReadyIn.cons rfl (fun K hK => ?_) (AllReadyIn.cons rfl (fun K hK => ?_) AllReadyIn.nil))
        · go_simp
          refine hK _ _ ?_
          clear hK K
          try simp only [Act.put, List.setIfInBounds_toArray, List.set_cons_zero, List.set_cons_succ]
          exact cap_useC hG st01
        · go_simp
          refine hK _ _ ?_
          clear hK K
          try simp only [Act.put, List.setIfInBounds_toArray, List.set_cons_zero, List.set_cons_succ]
          exact cap_useC hG st03
        · go_simp
          refine hK _ _ ?_
          clear hK K
          try simp only [Act.put, List.setIfInBounds_toArray, List.set_cons_zero, List.set_cons_succ]
          exact cap_useC hG st04
      have st1 : G 8 #[false, true, false, false, false, false, false, false, false] { tmps := #[.agg #[p0, p1, p2, p3, p4, p5, p6, p7], .agg #[.int .u16 (t : Int), .int .u16 (f : Int)], .pointer (some ⟨w.heap.size, 0, none⟩), .pointer (some ⟨w.heap.size + 1, 0, none⟩), .pointer (some ⟨w.heap.size + 1 + 1, 0, none⟩), .pointer (some ⟨w.heap.size + 1 + 1 + 1, 0, none⟩), .pointer (some ⟨w.heap.size + 1 + 1 + 1 + 1, 0, none⟩), .int .u16 (x.1 : Int), .agg #[p0, p1, p2, p3, p4, p5, p6, p7], .func (.func 103) #[] #[.pointer (some ⟨w.heap.size + 1 + 1 + 1 + 1 + 1, 0, none⟩)], .int .u16 (x.1 : Int), .agg #[.int .u16 (t : Int), .int .u16 (f : Int)], .int .u16 (x.1 : Int), .bool true, undef, .int .u16 (x.1 : Int), undef, undef, undef, undef, undef, undef, undef, undef], defers := [] } X2.drew := by
        refine cap_useC hG.symm ?_
        refine wpAnyIn_ready (rs := [0, 3, 4]) (by kernel_rfl) (by simp) ?_
        refine AllReadyIn.cons rfl (fun K hK => ?_) (AllReadyIn.cons rfl (fun K hK => ?_) (AllReadyIn.cons rfl (fun K hK => ?_) AllReadyIn.nil))
        · go_simp
          refine hK _ _ ?_
          clear hK K
          try simp only [Act.put, List.setIfInBounds_toArray, List.set_cons_zero, List.set_cons_succ]
          exact cap_useC hG st01
        · go_simp
          refine hK _ _ ?_
          clear hK K
          try simp only [Act.put, List.setIfInBounds_toArray, List.set_cons_zero, List.set_cons_succ]
          exact cap_useC hG st13
        · go_simp
          refine hK _ _ ?_
          clear hK K
          try simp only [Act.put, List.setIfInBounds_toArray, List.set_cons_zero, List.set_cons_succ]
          exact cap_useC hG st14
      have st3 : G 8 #[false, false, false, true, false, false, false, false, false] { tmps := #[.agg #[p0, p1, p2, p3, p4, p5, p6, p7], .agg #[.int .u16 (t : Int), .int .u16 (f : Int)], .pointer (some ⟨w.heap.size, 0, none⟩), .pointer (some ⟨w.heap.size + 1, 0, none⟩), .pointer (some ⟨w.heap.size + 1 + 1, 0, none⟩), .pointer (some ⟨w.heap.size + 1 + 1 + 1, 0, none⟩), .pointer (some ⟨w.heap.size + 1 + 1 + 1 + 1, 0, none⟩), .int .u16 (x.1 : Int), .agg #[p0, p1, p2, p3, p4, p5, p6, p7], .func (.func 103) #[] #[.pointer (some ⟨w.heap.size + 1 + 1 + 1 + 1 + 1, 0, none⟩)], .int .u16 (x.1 : Int), .agg #[.int .u16 (t : Int), .int .u16 (f : Int)], .int .u16 (x.1 : Int), .bool true, undef, undef, undef, .int .u16 (A : Int), undef, undef, undef, undef, undef, undef], defers := [] } X2.drew := by
        refine cap_useC hG.symm ?_
        refine wpAnyIn_ready (rs := [0, 1, 4]) (by kernel_rfl) (by simp) ?_
        refine AllReadyIn.cons rfl (fun K hK => ?_) (AllReadyIn.cons rfl (fun K hK => ?_) (AllReadyIn.cons rfl (fun K hK => ?_) AllReadyIn.nil))
        · go_simp
          refine hK _ _ ?_
          clear hK K
          try simp only [Act.put, List.setIfInBounds_toArray, List.set_cons_zero, List.set_cons_succ]
          exact cap_useC hG st03
        · go_simp
          refine hK _ _ ?_
          clear hK K
          try simp only [Act.put, List.setIfInBounds_toArray, List.set_cons_zero, List.set_cons_succ]
          exact cap_useC hG st13
        · go_simp
          refine hK _ _ ?_
          clear hK K
          try simp only [Act.put, List.setIfInBounds_toArray, List.set_cons_zero, List.set_cons_succ]
          exact cap_useC hG st34
      have st4 : G 8 #[false, false, false, false, true, false, false, false, false] { tmps := #[.agg #[p0, p1, p2, p3, p4, p5, p6, p7], .agg #[.int .u16 (t : Int), .int .u16 (f : Int)], .pointer (some ⟨w.heap.size, 0, none⟩), .pointer (some ⟨w.heap.size + 1, 0, none⟩), .pointer (some ⟨w.heap.size + 1 + 1, 0, none⟩), .pointer (some ⟨w.heap.size + 1 + 1 + 1, 0, none⟩), .pointer (some ⟨w.heap.size + 1 + 1 + 1 + 1, 0, none⟩), .int .u16 (x.1 : Int), .agg #[p0, p1, p2, p3, p4, p5, p6, p7], .func (.func 103) #[] #[.pointer (some ⟨w.heap.size + 1 + 1 + 1 + 1 + 1, 0, none⟩)], .int .u16 (x.1 : Int), .agg #[.int .u16 (t : Int), .int .u16 (f : Int)], .int .u16 (x.1 : Int), .bool true, undef, undef, undef, undef, .int .u16 (x.1 : Int), undef, undef, undef, undef, undef], defers := [] } X2.drew := by
        refine cap_useC hG.symm ?_
        refine wpAnyIn_ready (rs := [0, 1, 3]) (by kernel_rfl) (by simp) ?_
        refine AllReadyIn.cons rfl (fun K hK => ?_) (AllReadyIn.cons rfl (fun K hK => ?_) (AllReadyIn.cons rfl (fun K hK => ?_) AllReadyIn.nil))
        · go_simp
          refine hK _ _ ?_
          clear hK K
          try simp only [Act.put, List.setIfInBounds_toArray, List.set_cons_zero, List.set_cons_succ]
          exact cap_useC hG st04
        · go_simp
          refine hK _ _ ?_
          clear hK K
          try simp only [Act.put, List.setIfInBounds_toArray, List.set_cons_zero, List.set_cons_succ]
          exact cap_useC hG st14
        · go_simp
          refine hK _ _ ?_
          clear hK K
          try simp only [Act.put, List.setIfInBounds_toArray, List.set_cons_zero, List.set_cons_succ]
          exact cap_useC hG st34
      have st : G 9 #[false, false, false, false, false, false, false, false, false] { tmps := #[.agg #[p0, p1, p2, p3, p4, p5, p6, p7], .agg #[.int .u16 (t : Int), .int .u16 (f : Int)], .pointer (some ⟨w.heap.size, 0, none⟩), .pointer (some ⟨w.heap.size + 1, 0, none⟩), .pointer (some ⟨w.heap.size + 1 + 1, 0, none⟩), .pointer (some ⟨w.heap.size + 1 + 1 + 1, 0, none⟩), .pointer (some ⟨w.heap.size + 1 + 1 + 1 + 1, 0, none⟩), .int .u16 (x.1 : Int), .agg #[p0, p1, p2, p3, p4, p5, p6, p7], .func (.func 103) #[] #[.pointer (some ⟨w.heap.size + 1 + 1 + 1 + 1 + 1, 0, none⟩)], .int .u16 (x.1 : Int), .agg #[.int .u16 (t : Int), .int .u16 (f : Int)], .int .u16 (x.1 : Int), .bool true, undef, undef, undef, undef, undef, undef, undef, undef, undef, undef], defers := [] } X2.drew := by
        refine cap_useC hG.symm ?_
        refine wpAnyIn_ready (rs := [0, 1, 3, 4]) (by kernel_rfl) (by simp) ?_
        refine AllReadyIn.cons rfl (fun K hK => ?_) (AllReadyIn.cons rfl (fun K hK => ?_) (AllReadyIn.cons rfl (fun K hK => ?_) (AllReadyIn.cons rfl (fun K hK => ?_) AllReadyIn.nil)))
        · go_simp
          refine hK _ _ ?_
          clear hK K
          try simp only [Act.put, List.setIfInBounds_toArray, List.set_cons_zero, List.set_cons_succ]
          exact cap_useC hG st0
        · go_simp
          refine hK _ _ ?_
          clear hK K
          try simp only [Act.put, List.setIfInBounds_toArray, List.set_cons_zero, List.set_cons_succ]
          exact cap_useC hG st1
        · go_simp
          refine hK _ _ ?_
          clear hK K
          try simp only [Act.put, List.setIfInBounds_toArray, List.set_cons_zero, List.set_cons_succ]
          exact cap_useC hG st3
        · go_simp
          refine hK _ _ ?_
          clear hK K
          try simp only [Act.put, List.setIfInBounds_toArray, List.set_cons_zero, List.set_cons_succ]
          exact cap_useC hG st4
      exact st
  case done =>
    rintro D xs X hD hxs ⟨h1, h2, h3, h4, h5⟩ hK2
    have hc1 := h1.cell
    have hc2 := h2.cell
    have hc3 := h3.cell
    have hz1 := h1.frozen
    have hz2 := h2.frozen
    have hz3 := h3.frozen
    have hS := conS_lt t f xs
    have hA0 := conA_lt t f xs
    have hz4 := HZ4.out
    have hmx : Tryz.prog.follows .mixedOrders = true := by kernel_rfl
    cases hO : conO t f xs
    · rw [hO] at hc3 h3
      have q := Lib.hid (boxed3 h1 h2 h3 (by omega) (by omega) (by omega) (.int .u16 0) (.int .u16 0) (.bool false) (D := D) ⟨by omega, by omega, by omega⟩ (.deferred none))
      have hK3 := (keep3 (a := w.heap.size + 1 + 1) (b := w.heap.size + 1 + 1 + 1) (c := w.heap.size + 1 + 1 + 1 + 1) (by omega) (by omega) (by omega) (.int .u16 0) (.int .u16 0) (.bool false)).trans hK2
      have hB5 := (((h5.setCell (p := ⟨w.heap.size + 1 + 1, 0, none⟩) (by simp; omega) (.int .u16 0)).setCell (p := ⟨w.heap.size + 1 + 1 + 1, 0, none⟩) (by simp; omega) (.int .u16 0)).setCell (p := ⟨w.heap.size + 1 + 1 + 1 + 1, 0, none⟩) (by simp; omega) (.bool false))
      have hB6 := Lib.hid (hB5.trans (belowK_b (w := w) (Nat.le_refl _) _ D _ (.deferred none) (by omega) hK3 rfl rfl))
      clear hB5 h1 h2 h3 h4 h5 hz4
      gi_wp2
      have q := q.out
      have q1 := q.1.cell
      have q2 := q.2.1.cell
      have q3 := q.2.2.cell
      refine ⟨by simp, .inl ⟨_, _, rfl, run_takeDeferred hK3, ?_⟩⟩
      exact ⟨.tuple #[.int .u16 0, .int .u16 0, .bool false], by simp [results, Tryz.results44, go_sem, q1, q2, q3], xs, hxs, by rw [hO]; rfl, hB6.out⟩
    · rw [hO] at hc3 h3
      have h1 : Boxed X.drew _ _ _ := h1
      have h2 : Boxed X.drew _ _ _ := h2
      have h3 : Boxed X.drew _ _ _ := h3
      obtain ⟨S, hSe⟩ : ∃ S, S = conS t f xs := ⟨_, rfl⟩
      obtain ⟨A, hAe⟩ : ∃ A, A = conA t f xs := ⟨_, rfl⟩
      rw [← hSe] at h1 hS hc1
      rw [← hAe] at h2 hA0 hc2
      have q := Lib.hid (boxed3 h1 h2 h3 (by omega) (by omega) (by omega) (.int .u16 (S : Int)) (.int .u16 (A : Int)) (.bool true) (D := D) ⟨by omega, by omega, by omega⟩ (.deferred none))
      have hK2 : X.drew.heap[D]? = _ := hK2
      have hK3 := (keep3 (a := w.heap.size + 1 + 1) (b := w.heap.size + 1 + 1 + 1) (c := w.heap.size + 1 + 1 + 1 + 1) (by omega) (by omega) (by omega) (.int .u16 (S : Int)) (.int .u16 (A : Int)) (.bool true)).trans hK2
      have hB5 := (((h5.drew.setCell (p := ⟨w.heap.size + 1 + 1, 0, none⟩) (by simp; omega) (.int .u16 (S : Int))).setCell (p := ⟨w.heap.size + 1 + 1 + 1, 0, none⟩) (by simp; omega) (.int .u16 (A : Int))).setCell (p := ⟨w.heap.size + 1 + 1 + 1 + 1, 0, none⟩) (by simp; omega) (.bool true))
      have hB6 := Lib.hid (hB5.trans (belowK_b (w := w) (Nat.le_refl _) _ D _ (.deferred none) (by omega) hK3 rfl rfl))
      have HSe := Lib.hid hSe
      have HAe := Lib.hid hAe
      clear hB5 h1 h2 h3 h4 h5 hz4 hSe hAe
      gi_wp2
      refine wpIn_region_any hmx ?_
      show wpAnyIn _ _ _ _ _ _ _ _ _ X.drew
      try simp only [List.size_toArray, List.length_cons, List.length_nil, Nat.reduceAdd, Array.replicate_succ, Array.replicate_zero, List.push_toArray, List.append_toArray, List.nil_append, List.cons_append]
      refine wpAnyIn_ready (rs := [0, 1]) (by kernel_rfl) (by simp) ?_
      refine AllReadyIn.cons rfl (fun K hK => ?_) (AllReadyIn.cons rfl (fun K hK => ?_) AllReadyIn.nil)
      · go_simp
        refine hK _ _ ?_
        clear hK K
        try simp only [Act.put, List.setIfInBounds_toArray, List.set_cons_zero, List.set_cons_succ]
        refine wpAnyIn_ready (rs := [1, 2]) (by kernel_rfl) (by simp) ?_
        refine AllReadyIn.cons rfl (fun K hK => ?_) (AllReadyIn.cons rfl (fun K hK => ?_) AllReadyIn.nil)
        · go_simp
          refine hK _ _ ?_
          clear hK K
          try simp only [Act.put, List.setIfInBounds_toArray, List.set_cons_zero, List.set_cons_succ]
          refine wpAnyIn_ready (rs := [2]) (by kernel_rfl) (by simp) ?_
          refine AllReadyIn.cons rfl (fun K hK => ?_) AllReadyIn.nil
          go_simp
          refine hK _ _ ?_
          clear hK K
          try simp only [Act.put, List.setIfInBounds_toArray, List.set_cons_zero, List.set_cons_succ]
          refine wpAnyIn_ready (rs := [3]) (by kernel_rfl) (by simp) ?_
          refine AllReadyIn.cons rfl (fun K hK => ?_) AllReadyIn.nil
          go_simp
          refine hK _ _ ?_
          clear hK K
          try simp only [Act.put, List.setIfInBounds_toArray, List.set_cons_zero, List.set_cons_succ]
          refine wpAnyIn_ready (rs := [4]) (by kernel_rfl) (by simp) ?_
          refine AllReadyIn.cons rfl (fun K hK => ?_) AllReadyIn.nil
          go_simp
          refine hK _ _ ?_
          clear hK K
          try simp only [Act.put, List.setIfInBounds_toArray, List.set_cons_zero, List.set_cons_succ]
          refine wpAnyIn_done (by kernel_rfl) ?_ _
          try gi_wp2
          have q := q.out
          have q1 : ((((X.setCell ⟨w.heap.size + 1 + 1, 0, none⟩ (.int .u16 (S : Int))).setCell ⟨w.heap.size + 1 + 1 + 1, 0, none⟩ (.int .u16 (A : Int))).setCell ⟨w.heap.size + 1 + 1 + 1 + 1, 0, none⟩ (.bool true)).drew.putObj D (.deferred none)).cell? ⟨w.heap.size + 1 + 1, 0, none⟩ = some (.int .u16 (S : Int)) := q.1.cell
          have q2 : ((((X.setCell ⟨w.heap.size + 1 + 1, 0, none⟩ (.int .u16 (S : Int))).setCell ⟨w.heap.size + 1 + 1 + 1, 0, none⟩ (.int .u16 (A : Int))).setCell ⟨w.heap.size + 1 + 1 + 1 + 1, 0, none⟩ (.bool true)).drew.putObj D (.deferred none)).cell? ⟨w.heap.size + 1 + 1 + 1, 0, none⟩ = some (.int .u16 (A : Int)) := q.2.1.cell
          have q3 : ((((X.setCell ⟨w.heap.size + 1 + 1, 0, none⟩ (.int .u16 (S : Int))).setCell ⟨w.heap.size + 1 + 1 + 1, 0, none⟩ (.int .u16 (A : Int))).setCell ⟨w.heap.size + 1 + 1 + 1 + 1, 0, none⟩ (.bool true)).drew.putObj D (.deferred none)).cell? ⟨w.heap.size + 1 + 1 + 1 + 1, 0, none⟩ = some (.bool true) := q.2.2.cell
          refine ⟨by simp, .inl ⟨_, _, rfl, run_takeDeferred hK3, ?_⟩⟩
          exact ⟨.tuple #[.int .u16 (S : Int), .int .u16 (A : Int), .bool true], by simp [results, Tryz.results44, go_sem, q1, q2, q3], xs, hxs, by rw [hO, ← HSe.out, ← HAe.out]; rfl, hB6.out⟩
        · go_simp
          refine hK _ _ ?_
          clear hK K
          try simp only [Act.put, List.setIfInBounds_toArray, List.set_cons_zero, List.set_cons_succ]
          refine wpAnyIn_ready (rs := [1]) (by kernel_rfl) (by simp) ?_
          refine AllReadyIn.cons rfl (fun K hK => ?_) AllReadyIn.nil
          go_simp
          refine hK _ _ ?_
          clear hK K
          try simp only [Act.put, List.setIfInBounds_toArray, List.set_cons_zero, List.set_cons_succ]
          refine wpAnyIn_ready (rs := [3]) (by kernel_rfl) (by simp) ?_
          refine AllReadyIn.cons rfl (fun K hK => ?_) AllReadyIn.nil
          go_simp
          refine hK _ _ ?_
          clear hK K
          try simp only [Act.put, List.setIfInBounds_toArray, List.set_cons_zero, List.set_cons_succ]
          refine wpAnyIn_ready (rs := [4]) (by kernel_rfl) (by simp) ?_
          refine AllReadyIn.cons rfl (fun K hK => ?_) AllReadyIn.nil
          go_simp
          refine hK _ _ ?_
          clear hK K
          try simp only [Act.put, List.setIfInBounds_toArray, List.set_cons_zero, List.set_cons_succ]
          refine wpAnyIn_done (by kernel_rfl) ?_ _
          try gi_wp2
          have q := q.out
          have q1 : ((((X.setCell ⟨w.heap.size + 1 + 1, 0, none⟩ (.int .u16 (S : Int))).setCell ⟨w.heap.size + 1 + 1 + 1, 0, none⟩ (.int .u16 (A : Int))).setCell ⟨w.heap.size + 1 + 1 + 1 + 1, 0, none⟩ (.bool true)).drew.putObj D (.deferred none)).cell? ⟨w.heap.size + 1 + 1, 0, none⟩ = some (.int .u16 (S : Int)) := q.1.cell
          have q2 : ((((X.setCell ⟨w.heap.size + 1 + 1, 0, none⟩ (.int .u16 (S : Int))).setCell ⟨w.heap.size + 1 + 1 + 1, 0, none⟩ (.int .u16 (A : Int))).setCell ⟨w.heap.size + 1 + 1 + 1 + 1, 0, none⟩ (.bool true)).drew.putObj D (.deferred none)).cell? ⟨w.heap.size + 1 + 1 + 1, 0, none⟩ = some (.int .u16 (A : Int)) := q.2.1.cell
          have q3 : ((((X.setCell ⟨w.heap.size + 1 + 1, 0, none⟩ (.int .u16 (S : Int))).setCell ⟨w.heap.size + 1 + 1 + 1, 0, none⟩ (.int .u16 (A : Int))).setCell ⟨w.heap.size + 1 + 1 + 1 + 1, 0, none⟩ (.bool true)).drew.putObj D (.deferred none)).cell? ⟨w.heap.size + 1 + 1 + 1 + 1, 0, none⟩ = some (.bool true) := q.2.2.cell
          refine ⟨by simp, .inl ⟨_, _, rfl, run_takeDeferred hK3, ?_⟩⟩
          exact ⟨.tuple #[.int .u16 (S : Int), .int .u16 (A : Int), .bool true], by simp [results, Tryz.results44, go_sem, q1, q2, q3], xs, hxs, by rw [hO, ← HSe.out, ← HAe.out]; rfl, hB6.out⟩
      · go_simp
        refine hK _ _ ?_
        clear hK K
        try simp only [Act.put, List.setIfInBounds_toArray, List.set_cons_zero, List.set_cons_succ]
        refine wpAnyIn_ready (rs := [0]) (by kernel_rfl) (by simp) ?_
        refine AllReadyIn.cons rfl (fun K hK => ?_) AllReadyIn.nil
        go_simp
        refine hK _ _ ?_
        clear hK K
        try simp only [Act.put, List.setIfInBounds_toArray, List.set_cons_zero, List.set_cons_succ]
        refine wpAnyIn_ready (rs := [2]) (by kernel_rfl) (by simp) ?_
        refine AllReadyIn.cons rfl (fun K hK => ?_) AllReadyIn.nil
        go_simp
        refine hK _ _ ?_
        clear hK K
        try simp only [Act.put, List.setIfInBounds_toArray, List.set_cons_zero, List.set_cons_succ]
        refine wpAnyIn_ready (rs := [3]) (by kernel_rfl) (by simp) ?_
        refine AllReadyIn.cons rfl (fun K hK => ?_) AllReadyIn.nil
        go_simp
        refine hK _ _ ?_
        clear hK K
        try simp only [Act.put, List.setIfInBounds_toArray, List.set_cons_zero, List.set_cons_succ]
        refine wpAnyIn_ready (rs := [4]) (by kernel_rfl) (by simp) ?_
        refine AllReadyIn.cons rfl (fun K hK => ?_) AllReadyIn.nil
        go_simp
        refine hK _ _ ?_
        clear hK K
        try simp only [Act.put, List.setIfInBounds_toArray, List.set_cons_zero, List.set_cons_succ]
        refine wpAnyIn_done (by kernel_rfl) ?_ _
        try gi_wp2
        have q := q.out
        have q1 : ((((X.setCell ⟨w.heap.size + 1 + 1, 0, none⟩ (.int .u16 (S : Int))).setCell ⟨w.heap.size + 1 + 1 + 1, 0, none⟩ (.int .u16 (A : Int))).setCell ⟨w.heap.size + 1 + 1 + 1 + 1, 0, none⟩ (.bool true)).drew.putObj D (.deferred none)).cell? ⟨w.heap.size + 1 + 1, 0, none⟩ = some (.int .u16 (S : Int)) := q.1.cell
        have q2 : ((((X.setCell ⟨w.heap.size + 1 + 1, 0, none⟩ (.int .u16 (S : Int))).setCell ⟨w.heap.size + 1 + 1 + 1, 0, none⟩ (.int .u16 (A : Int))).setCell ⟨w.heap.size + 1 + 1 + 1 + 1, 0, none⟩ (.bool true)).drew.putObj D (.deferred none)).cell? ⟨w.heap.size + 1 + 1 + 1, 0, none⟩ = some (.int .u16 (A : Int)) := q.2.1.cell
        have q3 : ((((X.setCell ⟨w.heap.size + 1 + 1, 0, none⟩ (.int .u16 (S : Int))).setCell ⟨w.heap.size + 1 + 1 + 1, 0, none⟩ (.int .u16 (A : Int))).setCell ⟨w.heap.size + 1 + 1 + 1 + 1, 0, none⟩ (.bool true)).drew.putObj D (.deferred none)).cell? ⟨w.heap.size + 1 + 1 + 1 + 1, 0, none⟩ = some (.bool true) := q.2.2.cell
        refine ⟨by simp, .inl ⟨_, _, rfl, run_takeDeferred hK3, ?_⟩⟩
        exact ⟨.tuple #[.int .u16 (S : Int), .int .u16 (A : Int), .bool true], by simp [results, Tryz.results44, go_sem, q1, q2, q3], xs, hxs, by rw [hO, ← HSe.out, ← HAe.out]; rfl, hB6.out⟩

theorem braveR_no {p : ProgD} (h : someB p = false) : braveR p = [] := by
  unfold someB at h
  have h := of_decide_eq_false h
  unfold braveR
  rw [show (answersL p).length = 0 by omega]
  rfl
set_option maxHeartbeats 2000000 in
theorem implBrave_calls {cs : List Value} {p : ProgD} {w : World} (h : Rd.R w cs p) :
    Calls Tryz.prog 11 #[.agg cs.toArray] w fun e w' => ∃ u, e = .returned (.tuple #[u, .bool (someB p)]) ∧ Own w.heap.size w' [u] (braveR p) ∧ Below w.heap.size w w' := by
  obtain ⟨p0, p1, p2, p3, p4, p5, p6, p7, rfl⟩ := list8 (Rd.len h)
  have t0 : Below w.heap.size w (w.alloc (.cells #[p0, p1, p2, p3, p4, p5, p6, p7] 37)) := (Below.refl _ _).alloc (by simp) _
  have HC := consequences_calls 0 0 (by omega) (by omega) (Rd.mono t0 h)
  cases hO : someB p
  · have hv := Lib.hid (braveR_no hO)
    go_enter Tryz.func11, Tryz.ntmps11
    go_wp2_with fail
    refine HC.mono ?_
    rintro e w1 ⟨ms, hms, rfl, b1⟩
    rw [some_mask hms, hO]
    have t1 := t0.step b1
    clear HC hms hO
    rw [if_neg (by simp)]
    go_wp2_with fail
    refine (list_calls 0 _ (by omega)).mono ?_
    rintro e w2 ⟨u, rfl, o2, b2⟩
    have o3 : OwnI w1.heap.size w2 u [] := o2
    obtain ⟨pu, cu, rfl, _, _⟩ := o3.open
    go_wp2
    refine bodyPost_ret (v := .tuple #[.slice pu 0 cu, .bool false]) (by simp [results, Tryz.results11, go_sem]) rfl ⟨_, rfl, by rw [hv.out]; exact (o3.mono t1.size).own, t1.step b2⟩
  · go_enter Tryz.func11, Tryz.ntmps11
    go_wp2_with fail
    refine HC.mono ?_
    rintro e w1 ⟨ms, hms, rfl, b1⟩
    have hv := Lib.hid (brave_mask hms)
    rw [some_mask hms, hO]
    have t1 := t0.step b1
    clear HC hms hO
    rw [if_pos rfl]
    obtain ⟨m, hm⟩ : ∃ m, m = conS 0 0 ms := ⟨_, rfl⟩
    have hlt : m < 4096 := by rw [hm]; exact conS_lt _ _ _
    rw [← hm] at hv ⊢
    clear hm
    go_wp2_with fail
    refine (list_calls m _ hlt).mono ?_
    rintro e w2 ⟨u, rfl, o2, b2⟩
    obtain ⟨pu, cu, rfl, _, _⟩ := o2.open
    have HO : Hid (Own w.heap.size w2 [.slice pu (pickTo (hasM m) 12).length cu] (braveR p)) := by show Own _ _ _ _; rw [← hv.out]; exact (o2.mono t1.size).own
    clear o2 hv
    go_wp2
    refine bodyPost_ret (v := .tuple #[.slice pu (pickTo (hasM m) 12).length cu, .bool true]) (by simp [results, Tryz.results11, go_sem]) rfl ⟨_, rfl, HO.out, t1.step b2⟩
set_option maxHeartbeats 2000000 in
theorem implCautious_calls {cs : List Value} {p : ProgD} {w : World} (h : Rd.R w cs p) :
    Calls Tryz.prog 18 #[.agg cs.toArray] w fun e w' => ∃ u, e = .returned (.tuple #[u, .bool (someB p)]) ∧ Own w.heap.size w' [u] (cautR p) ∧ Below w.heap.size w w' := by
  obtain ⟨p0, p1, p2, p3, p4, p5, p6, p7, rfl⟩ := list8 (Rd.len h)
  have t0 : Below w.heap.size w (w.alloc (.cells #[p0, p1, p2, p3, p4, p5, p6, p7] 37)) := (Below.refl _ _).alloc (by simp) _
  have HC := consequences_calls 0 0 (by omega) (by omega) (Rd.mono t0 h)
  cases hO : someB p
  · have hv := Lib.hid (cautR_no hO)
    go_enter Tryz.func18, Tryz.ntmps18
    go_wp2_with fail
    refine HC.mono ?_
    rintro e w1 ⟨ms, hms, rfl, b1⟩
    rw [some_mask hms, hO]
    have t1 := t0.step b1
    clear HC hms hO
    rw [if_neg (by simp)]
    go_wp2_with fail
    refine (list_calls 0 _ (by omega)).mono ?_
    rintro e w2 ⟨u, rfl, o2, b2⟩
    have o3 : OwnI w1.heap.size w2 u [] := o2
    obtain ⟨pu, cu, rfl, _, _⟩ := o3.open
    go_wp2
    refine bodyPost_ret (v := .tuple #[.slice pu 0 cu, .bool false]) (by simp [results, Tryz.results18, go_sem]) rfl ⟨_, rfl, by rw [hv.out]; exact (o3.mono t1.size).own, t1.step b2⟩
  · go_enter Tryz.func18, Tryz.ntmps18
    go_wp2_with fail
    refine HC.mono ?_
    rintro e w1 ⟨ms, hms, rfl, b1⟩
    have hv := Lib.hid (caut_mask hms hO)
    rw [some_mask hms, hO]
    have t1 := t0.step b1
    clear HC hms hO
    rw [if_pos rfl]
    obtain ⟨m, hm⟩ : ∃ m, m = conA 0 0 ms := ⟨_, rfl⟩
    have hlt : m < 4096 := by rw [hm]; exact conA_lt _ _ _
    rw [← hm] at hv ⊢
    clear hm
    go_wp2_with fail
    refine (list_calls m _ hlt).mono ?_
    rintro e w2 ⟨u, rfl, o2, b2⟩
    obtain ⟨pu, cu, rfl, _, _⟩ := o2.open
    have HO : Hid (Own w.heap.size w2 [.slice pu (pickTo (hasM m) 12).length cu] (cautR p)) := by show Own _ _ _ _; rw [← hv.out]; exact (o2.mono t1.size).own
    clear o2 hv
    go_wp2
    refine bodyPost_ret (v := .tuple #[.slice pu (pickTo (hasM m) 12).length cu, .bool true]) (by simp [results, Tryz.results18, go_sem]) rfl ⟨_, rfl, HO.out, t1.step b2⟩

end Go.Proofs.YtnjiephgiemkjaaGreat
