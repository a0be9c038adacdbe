/-
  Narrow: pure, and of both sides. No condition of its own.
-/
import Derived.Test.YtnjiephgiemkjaaGreatCon
import Derived.Test.YtnjiephgiemkjaaGreatValL
namespace Go.Proofs.YtnjiephgiemkjaaGreat
set_option linter.unusedVariables false
set_option linter.unusedSimpArgs false
open Go.RowKit
set_option maxRecDepth 100000

/-! ### Nar0 -/
set_option linter.unusedVariables false
set_option linter.unusedSimpArgs false

def yTo (X : List (List Int)) (vs : List Int) : Nat → List Int
  | 0 => setOfS 4095
  | k + 1 => if agreesB (nth X k) vs then pickTo (pickM (yTo X vs k) (nth X k)) 12 else yTo X vs k
def nTo (X : List (List Int)) (vs : List Int) : Nat → List Int
  | 0 => setOfS 4095
  | k + 1 => if agreesB (nth X k) vs then pickTo (pickL (nTo X vs k) (nth X k)) 12 else nTo X vs k
def sTo (X : List (List Int)) (vs : List Int) : Nat → Bool
  | 0 => false
  | k + 1 => if agreesB (nth X k) vs then true else sTo X vs k
section
variable {X : List (List Int)} {vs : List Int} {k : Nat}
theorem yTo_yes (h : agreesB (nth X k) vs = true) : yTo X vs (k + 1) = pickTo (pickM (yTo X vs k) (nth X k)) 12 := by simp [yTo, h]
theorem yTo_no (h : agreesB (nth X k) vs = false) : yTo X vs (k + 1) = yTo X vs k := by simp [yTo, h]
theorem nTo_yes (h : agreesB (nth X k) vs = true) : nTo X vs (k + 1) = pickTo (pickL (nTo X vs k) (nth X k)) 12 := by simp [nTo, h]
theorem nTo_no (h : agreesB (nth X k) vs = false) : nTo X vs (k + 1) = nTo X vs k := by simp [nTo, h]
theorem sTo_yes (h : agreesB (nth X k) vs = true) : sTo X vs (k + 1) = true := by simp [sTo, h]
theorem sTo_no (h : agreesB (nth X k) vs = false) : sTo X vs (k + 1) = sTo X vs k := by simp [sTo, h]
end
def valN (y no : List Int) (a : Int) : Int := if hasB no a then 2 else if hasB y a then 1 else 0
def narTo (y no : List Int) : Nat → List Int
  | 0 => []
  | k + 1 => narTo y no k ++ [valN y no ((k : Int) + 1)]
theorem narTo_succ (y no : List Int) (k : Nat) : narTo y no (k + 1) = narTo y no k ++ [valN y no ((k : Int) + 1)] := rfl
theorem narTo_len (y no : List Int) : ∀ k, (narTo y no k).length = k
  | 0 => rfl
  | k + 1 => by rw [narTo_succ, List.length_append, narTo_len y no k]; rfl
theorem narTo_el (y no : List Int) {i : Nat} : ∀ {k : Nat}, i < k → el (narTo y no k) i = valN y no ((i : Int) + 1)
  | k + 1, h => by
    rw [narTo_succ]
    rcases Nat.lt_or_ge i k with hlt | hge
    · rw [← narTo_el y no hlt]
      unfold el
      rw [List.getD_eq_getElem?_getD, List.getElem?_append_left (by rw [narTo_len]; exact hlt), List.getD_eq_getElem?_getD]
    · obtain rfl : i = k := by omega
      unfold el
      rw [List.getD_eq_getElem?_getD, List.getElem?_append_right (by rw [narTo_len]; exact Nat.le_refl _), narTo_len]
      simp
theorem valN_val (y no : List Int) (a : Int) : valN y no a = 0 ∨ valN y no a = 1 ∨ valN y no a = 2 := by
  unfold valN; split
  · exact .inr (.inr rfl)
  · split
    · exact .inr (.inl rfl)
    · exact .inl rfl
theorem narTo_ok (y no : List Int) {n : Nat} (hn : n ≤ 12) : VOk (narTo y no n).length (narTo y no n) := by
  refine ⟨rfl, by rw [narTo_len]; exact hn, fun v hv => ?_⟩
  obtain ⟨i, hi, rfl⟩ := List.getElem_of_mem hv
  rw [← el_eq hi, narTo_el y no (by rw [narTo_len] at hi; exact hi)]
  exact valN_val _ _ _
/-- Do any answers agree? -/
def narS (p : ProgD) (vs : List Int) : Bool := sTo (answersL p) vs (answersL p).length
def narO (p : ProgD) (vs : List Int) : Bool := valsOkR p vs && narS p vs
def narR (p : ProgD) (vs : List Int) : List Int := if narO p vs then narTo (yTo (answersL p) vs (answersL p).length) (nTo (answersL p) vs (answersL p).length) p.atoms.toNat else []
theorem narO_A {p : ProgD} {vs : List Int} (h : valsOkR p vs = false) : narO p vs = false := by simp [narO, h]
theorem narO_B {p : ProgD} {vs : List Int} (h : valsOkR p vs = true) : narO p vs = narS p vs := by simp [narO, h]
theorem narR_no {p : ProgD} {vs : List Int} (h : narO p vs = false) : narR p vs = [] := by simp [narR, h]
theorem narR_yes {p : ProgD} {vs : List Int} (h : narO p vs = true) : narR p vs = narTo (yTo (answersL p) vs (answersL p).length) (nTo (answersL p) vs (answersL p).length) p.atoms.toNat := by simp [narR, h]
theorem valsOk_fold {p : ProgD} {vs : List Int} (h : valsOkR p vs = true) : foldB p = true := by
  simp only [valsOkR, Bool.and_eq_true] at h; exact h.1
theorem nar_atoms {p : ProgD} {vs : List Int} (h : valsOkR p vs = true) : 0 ≤ p.atoms ∧ p.atoms ≤ 12 := by
  have := progOk_atoms (foldR_ok (valsOk_fold h))
  exact this
theorem narR_len (p : ProgD) (vs : List Int) : (narR p vs).length ≤ 12 := by
  cases h : narO p vs
  · rw [narR_no h]; simp
  · rw [narR_yes h, narTo_len]
    have hv : valsOkR p vs = true := by simp only [narO, Bool.and_eq_true] at h; exact h.1
    have := nar_atoms hv
    omega

/-! ### in bits -/
theorem hasM_upN {n : Nat} {x : Int} (h : 1 ≤ x ∧ x ≤ 12) : hasM (2 ^ n - 1) x = decide (x ≤ n) := by
  rw [hasM_bit _ _ h, Nat.testBit_two_pow_sub_one, decide_eq_decide]
  omega
theorem agreesMN (xs vs : List Int) : (inM (maskOf (withL vs 1)) (maskOf xs) && (((maskOf (withL vs 2) &&& maskOf xs : Nat) : Int) == 0)) = agreesB xs vs := by
  have hl : maskOf (withL vs 2) &&& maskOf xs < 4096 := Nat.lt_of_le_of_lt Nat.and_le_left (maskOf_lt _)
  rw [Bool.eq_iff_iff, Bool.and_eq_true, inM_iff (maskOf_lt _) (maskOf_lt _)]
  unfold agreesB
  rw [decide_eq_true_eq, pick_nil, beq_iff_eq]
  constructor
  · rintro ⟨h1, h2⟩ a a1 a2
    have ha : 1 ≤ a ∧ a ≤ 12 := ⟨a1, a2⟩
    have h2' : maskOf (withL vs 2) &&& maskOf xs = 0 := by omega
    have h3 : hasM (maskOf (withL vs 2) &&& maskOf xs) a = false := by rw [h2']; simp [hasM]
    rw [hasM_and ha, hasM_maskOf _ _ ha, hasM_maskOf _ _ ha, hasB_with ha] at h3
    have h4 := h1 a a1 a2
    rw [hasM_maskOf _ _ ha, hasM_maskOf _ _ ha, hasB_with ha] at h4
    unfold badV
    rw [h3, Bool.or_false]
    cases e : valB vs 1 a
    · rfl
    · rw [h4 e]; rfl
  · intro h
    refine ⟨fun a a1 a2 => ?_, ?_⟩
    · have ha : 1 ≤ a ∧ a ≤ 12 := ⟨a1, a2⟩
      have := h a a1 a2
      rw [hasM_maskOf _ _ ha, hasM_maskOf _ _ ha, hasB_with ha]
      intro e
      unfold badV at this
      rw [e] at this
      cases e2 : hasB xs a
      · rw [e2] at this; simp at this
      · rfl
    · have : maskOf (withL vs 2) &&& maskOf xs = 0 := zero_of_bits hl fun a a1 a2 => by
        have ha : 1 ≤ a ∧ a ≤ 12 := ⟨a1, a2⟩
        have := h a a1 a2
        rw [hasM_and ha, hasM_maskOf _ _ ha, hasM_maskOf _ _ ha, hasB_with ha]
        unfold badV at this
        rw [Bool.or_eq_false_iff] at this
        exact this.2
      omega
theorem ag_mask (vs : List Int) (m : MaskI) : agreesB (mset m.1) vs = agM (maskOf (withL vs 1)) (maskOf (withL vs 2)) m.1 := by
  rw [← agreesMN, mask_mset m.2]; rfl
theorem y_mask (ms : List MaskI) (vs : List Int) : ∀ k, k ≤ ms.length → yTo (mls ms) vs k = mset (conA (maskOf (withL vs 1)) (maskOf (withL vs 2)) (ms.take k))
  | 0, _ => setN_mset (k := 4095) (by omega)
  | k + 1, h => by
    have ih := y_mask ms vs k (by omega)
    rw [take_snoc (by omega)]
    cases e : agM (maskOf (withL vs 1)) (maskOf (withL vs 2)) (nth ms k).1
    · rw [conA_no e, yTo_no (by rw [mls_nth (by omega), ag_mask]; exact e), ih]
    · rw [conA_yes e, yTo_yes (by rw [mls_nth (by omega), ag_mask]; exact e), ih, mls_nth (by omega), mset_and _ _ (conA_lt _ _ _) (nth ms k).2]
theorem s_mask (ms : List MaskI) (vs : List Int) : ∀ k, k ≤ ms.length → sTo (mls ms) vs k = conO (maskOf (withL vs 1)) (maskOf (withL vs 2)) (ms.take k)
  | 0, _ => rfl
  | k + 1, h => by
    have ih := s_mask ms vs k (by omega)
    rw [take_snoc (by omega)]
    cases e : agM (maskOf (withL vs 1)) (maskOf (withL vs 2)) (nth ms k).1
    · rw [conO_no e, sTo_no (by rw [mls_nth (by omega), ag_mask]; exact e), ih]
    · rw [conO_yes e, sTo_yes (by rw [mls_nth (by omega), ag_mask]; exact e)]
theorem hasM_sub2 {a b : Nat} (ha : a < 4096) (hb : b < 4096) {x : Int} (h : 1 ≤ x ∧ x ≤ 12) : hasM (a &&& (65535 - b)) x = (hasM a x && !hasM b x) := by
  have := less_bit (mset a) (mset b) x h
  rw [mask_mset ha, mask_mset hb] at this
  rw [this, ← hasM_maskOf _ _ h, ← hasM_maskOf _ _ h, mask_mset ha, mask_mset hb]
theorem less_or {S m : Nat} (hS : S < 4096) (hm : m < 4096) : pickTo (hasM ((4095 &&& (65535 - S)) &&& (65535 - m))) 12 = pickTo (hasM (4095 &&& (65535 - (S ||| m)))) 12 := pickTo_congr fun x h1 h2 => by
  have h : 1 ≤ x ∧ x ≤ 12 := ⟨h1, by omega⟩
  have hl : S ||| m < 4096 := Nat.or_lt_two_pow (n := 12) hS hm
  have hl2 : 4095 &&& (65535 - S) < 4096 := Nat.lt_of_le_of_lt Nat.and_le_left (by omega)
  rw [hasM_sub2 hl2 hm h, hasM_sub2 (by omega) hS h, hasM_sub2 (by omega) hl h, hasM_or h]
  cases hasM S x <;> cases hasM m x <;> simp
theorem n_mask (ms : List MaskI) (vs : List Int) : ∀ k, k ≤ ms.length → nTo (mls ms) vs k = mset (4095 &&& (65535 - conS (maskOf (withL vs 1)) (maskOf (withL vs 2)) (ms.take k)))
  | 0, _ => (setN_mset (k := 4095) (by omega)).trans (by
    show mset 4095 = mset (4095 &&& (65535 - 0))
    rw [show 4095 &&& (65535 - 0) = 4095 from by decide])
  | k + 1, h => by
    have ih := n_mask ms vs k (by omega)
    rw [take_snoc (by omega)]
    cases e : agM (maskOf (withL vs 1)) (maskOf (withL vs 2)) (nth ms k).1
    · rw [conS_no e, nTo_no (by rw [mls_nth (by omega), ag_mask]; exact e), ih]
    · rw [conS_yes e, nTo_yes (by rw [mls_nth (by omega), ag_mask]; exact e), ih, mls_nth (by omega), ← mset_sub _ _ (Nat.lt_of_le_of_lt Nat.and_le_left (by omega)) (nth ms k).2]
      exact less_or (conS_lt _ _ _) (nth ms k).2
theorem ansN_small {p : ProgD} {m : Nat} (h : m ∈ ansN p) : m < 2 ^ p.atoms.toNat := by
  have hm := ansN_lt h
  cases hF : foldB p
  · rw [ansN_no hF] at h; cases h
  · have h2 : mset m ∈ answersL p := by rw [answersL_N]; exact List.mem_map_of_mem h
    rw [answersL_yes hF, mem_ansTo] at h2
    obtain ⟨k, hk, e, _⟩ := h2
    obtain ⟨a0, a1⟩ := progOk_atoms (foldR_ok hF)
    have hpw := pow_atomsN (n := p.atoms) a0 a1
    rw [setN_mset (by omega)] at e
    have := congrArg maskOf e
    rw [mask_mset hm, mask_mset (by omega)] at this
    omega
section
variable {p : ProgD} {vs : List Int} {ms : List MaskI}
theorem mls_ans (h : ms.map (·.1) = ansN p) : answersL p = mls ms := by rw [answersL_N, ← h, List.map_map]; rfl
theorem nar_some (h : ms.map (·.1) = ansN p) : conO (maskOf (withL vs 1)) (maskOf (withL vs 2)) ms = narS p vs := by
  unfold narS
  rw [mls_ans h, mls_len, s_mask ms vs _ (Nat.le_refl _), List.take_length]
theorem hasB_msetN {m : Nat} {x : Int} (hm : m < 4096) (h : 1 ≤ x ∧ x ≤ 12) : hasB (mset m) x = hasM m x := by rw [← hasM_maskOf _ _ h, mask_mset hm]
/-- What the program makes of the two numbers. -/
theorem nar_masks (h : ms.map (·.1) = ansN p) (hv : valsOkR p vs = true) (hs : narS p vs = true) :
    tM (narR p vs) = conA (maskOf (withL vs 1)) (maskOf (withL vs 2)) ms ∧ fM (narR p vs) = ((2 ^ p.atoms.toNat - 1) &&& (65535 - conS (maskOf (withL vs 1)) (maskOf (withL vs 2)) ms)) ∧ (narR p vs).length = p.atoms.toNat ∧ VOk (narR p vs).length (narR p vs) := by
  obtain ⟨a0, a1⟩ := nar_atoms hv
  have hO : narO p vs = true := by rw [narO_B hv]; exact hs
  have hpw := pow_atomsN (n := p.atoms) a0 a1
  rw [narR_yes hO, mls_ans h, mls_len, y_mask ms vs _ (Nat.le_refl _), n_mask ms vs _ (Nat.le_refl _), List.take_length]
  rw [← nar_some h] at hs
  obtain ⟨m, hm, hag⟩ : ∃ m ∈ ms, agM (maskOf (withL vs 1)) (maskOf (withL vs 2)) m.1 = true := by simpa [conO] using hs
  have kA := conA_sub hm hag
  have kS := conS_sup hm hag
  have hsm : m.1 < 2 ^ p.atoms.toNat := ansN_small (p := p) (by rw [← h]; exact List.mem_map_of_mem hm)
  generalize conA (maskOf (withL vs 1)) (maskOf (withL vs 2)) ms = A at *
  generalize hSS : conS (maskOf (withL vs 1)) (maskOf (withL vs 2)) ms = S at *
  have hA : A < 4096 := by rw [← kA]; exact Nat.lt_of_le_of_lt Nat.and_le_left m.2
  have hS : S < 4096 := by rw [← hSS]; exact conS_lt _ _ _
  have hN : 4095 &&& (65535 - S) < 4096 := Nat.lt_of_le_of_lt Nat.and_le_left (by omega)
  obtain ⟨n, hn⟩ : ∃ n, n = p.atoms.toNat := ⟨_, rfl⟩
  rw [← hn] at hsm hpw ⊢
  have hn12 : n ≤ 12 := by omega
  have hlen := narTo_len (mset A) (mset (4095 &&& (65535 - S))) n
  have hv1 : ∀ x : Int, 1 ≤ x → x ≤ 12 → ∀ c, valB (narTo (mset A) (mset (4095 &&& (65535 - S))) n) c x = decide (x ≤ (n : Int) ∧ valN (mset A) (mset (4095 &&& (65535 - S))) x = c) := by
    intro x x1 x2 c
    unfold valB
    rw [hlen, decide_eq_decide]
    constructor
    · rintro ⟨_, h2, h3⟩
      rw [narTo_el _ _ (by omega), show (((x - 1).toNat : Nat) : Int) + 1 = x by omega] at h3
      exact ⟨h2, h3⟩
    · rintro ⟨h2, h3⟩
      exact ⟨x1, h2, by rw [narTo_el _ _ (by omega), show (((x - 1).toNat : Nat) : Int) + 1 = x by omega]; exact h3⟩
  have hx : ∀ x : Int, 1 ≤ x → x ≤ 12 → valN (mset A) (mset (4095 &&& (65535 - S))) x = if hasM S x then (if hasM A x then 1 else 0) else 2 := by
    intro x x1 x2
    have hb : 1 ≤ x ∧ x ≤ 12 := ⟨x1, x2⟩
    unfold valN
    rw [hasB_msetN hN hb, hasB_msetN hA hb, hasM_sub2 (by omega) hS hb, hasM_all hb]
    cases hasM S x <;> simp
  have hAm : ∀ x : Int, 1 ≤ x → x ≤ 12 → hasM A x = true → hasM m.1 x = true := fun x x1 x2 e => by
    rw [← kA, hasM_and ⟨x1, x2⟩, Bool.and_eq_true] at e; exact e.1
  have hmS : ∀ x : Int, 1 ≤ x → x ≤ 12 → hasM m.1 x = true → hasM S x = true := fun x x1 x2 e => by
    rw [← kS, hasM_or ⟨x1, x2⟩, e, Bool.true_or]
  have hmn : ∀ x : Int, 1 ≤ x → x ≤ 12 → hasM m.1 x = true → x ≤ (n : Int) := fun x x1 x2 e => by
    rw [hasM_bit _ _ ⟨x1, x2⟩] at e
    rcases Int.lt_or_le (n : Int) x with hlt | hle
    · rw [Nat.testBit_lt_two_pow (Nat.lt_of_lt_of_le hsm (Nat.pow_le_pow_right (n := 2) (by omega) (by omega)))] at e
      cases e
    · exact hle
  have hU : (2 ^ n - 1) < 4096 := by omega
  refine ⟨?_, ?_, hlen, narTo_ok _ _ hn12⟩
  · have : mset (tM (narTo (mset A) (mset (4095 &&& (65535 - S))) n)) = mset A := pickTo_congr fun x x1 x2 => by
      have hb : 1 ≤ x ∧ x ≤ 12 := ⟨x1, by omega⟩
      unfold tM
      rw [hasM_with hb, hv1 x x1 hb.2, hx x x1 hb.2]
      cases eA : hasM A x
      · simp; intro _; split <;> simp
      · have e1 := hAm x x1 hb.2 eA
        have e2 := hmS x x1 hb.2 e1
        have e3 := hmn x x1 hb.2 e1
        rw [e2]; simp [e3]
    have := congrArg maskOf this
    rwa [mask_mset (tM_lt _), mask_mset hA] at this
  · have hlt : (2 ^ n - 1) &&& (65535 - S) < 4096 := Nat.lt_of_le_of_lt Nat.and_le_left hU
    have : mset (fM (narTo (mset A) (mset (4095 &&& (65535 - S))) n)) = mset ((2 ^ n - 1) &&& (65535 - S)) := pickTo_congr fun x x1 x2 => by
      have hb : 1 ≤ x ∧ x ≤ 12 := ⟨x1, by omega⟩
      unfold fM
      rw [hasM_with hb, hv1 x x1 hb.2, hx x x1 hb.2, hasM_sub2 hU hS hb, hasM_upN hb]
      cases eS : hasM S x
      · simp
      · cases hasM A x <;> simp
    have := congrArg maskOf this
    rwa [mask_mset (fM_lt _), mask_mset hlt] at this
end

/-! ### NarW -/
set_option linter.unusedVariables false
set_option linter.unusedSimpArgs false


set_option maxHeartbeats 8000000 in
theorem specNarrow_calls {cs : List Value} {p : ProgD} {w : World} {v : Value} {vs : List Int} (h : Rd.R w cs p) (gx : RdL w [v] vs) :
    Calls Tryz.prog 19 #[.agg cs.toArray, v] w fun e w' => ∃ u, e = .returned (.tuple #[u, .bool (narO p vs)]) ∧ Own w.heap.size w' [u] (narR p vs) ∧ Below w.heap.size w w' := by
  have h0 := h
  obtain ⟨c1, c2, c4, c5, c6, c7, rfl, hf, _⟩ := h0
  obtain ⟨ax, cx, rfl, _, hx⟩ := gx.sl
  have CX := Cells.new w [.int .i64 p.atoms, c1, c2, .bool p.projOn, c4, c5, c6, c7] 37
  have t0 : Below w.heap.size w (w.alloc (.cells #[.int .i64 p.atoms, c1, c2, .bool p.projOn, c4, c5, c6, c7] 37)) := (Below.refl _ _).alloc (Nat.le_refl _) _
  cases hO : valsOkR p vs
  · have hv := Lib.hid (narO_A hO)
    have hr := Lib.hid (narR_no (narO_A hO))
    go_enter Tryz.func19, Tryz.ntmps19
    go_wp2_with fail
    refine (specValsOk_calls (Rd.mono t0 h) (Rd.mono (α := List Int) t0 gx)).mono ?_
    rintro e w1 ⟨he, b1⟩
    rw [hO] at he
    subst he
    have t1 := t0.step b1
    go_wp2
    refine bodyPost_ret (v := .tuple #[.slice (some ⟨w1.heap.size, 0, none⟩) 0 0, .bool false]) (by simp [results, Tryz.results19, go_sem]) rfl ?_
    exact ⟨_, by rw [hv.out], by rw [hr.out]; exact (OwnI.new w1 w.heap.size t1.size).own, t1.alloc t1.size _⟩
  · obtain ⟨ha0, ha1⟩ := nar_atoms hO
    have hv := Lib.hid (narO_B hO)
    obtain ⟨X, hX⟩ : ∃ X, X = answersL p := ⟨_, rfl⟩
    have HS := fun (cs : List Value) (w : World) (h : Rd.R w cs p) => Lib.hid (specAnswers_calls h)
    rw [← hX] at HS
    have hsm : Hid (narS p vs = sTo X vs X.length) := by show _ = _; rw [hX]; rfl
    have hR1 : Hid (narS p vs = true → narR p vs = narTo (yTo X vs X.length) (nTo X vs X.length) p.atoms.toNat) := by
      show _ → _
      intro hs
      rw [narR_yes (by rw [hv.out]; exact hs), hX]
    have hR0 : Hid (narS p vs = false → narR p vs = []) := by
      show _ → _
      intro hs
      exact narR_no (by rw [hv.out]; exact hs)
    obtain ⟨n, hn⟩ : ∃ n : Nat, p.atoms = (n : Int) := ⟨p.atoms.toNat, by omega⟩
    have hn12 : n ≤ 12 := by omega
    have hnn : p.atoms.toNat = n := by omega
    rw [hnn] at hR1
    have hOO := Lib.hid hO
    rw [hn] at CX t0 h
    rw [hn]
    clear hX ha0 ha1 hO hnn
    go_enter Tryz.func19, Tryz.ntmps19
    go_wp2_with fail
    refine (specValsOk_calls (Rd.mono t0 h) (Rd.mono (α := List Int) t0 gx)).mono ?_
    rintro e w1 ⟨he, b1⟩
    rw [hOO.out] at he
    subst he
    have t1 := t0.step b1
    have CX1 := CX.later b1
    obtain ⟨y0, y1, y2, y3, y4, y5, y6, y7⟩ := cells8 CX1
    go_wp2_with fail
    refine (specSetOf_calls _ _).mono ?_
    rintro e w2 ⟨v2, rfl, o2, b2⟩
    have t2 := t1.step b2
    have CX2 := CX1.later b2
    clear y0 y1 y2 y3 y4 y5 y6 y7
    obtain ⟨y0, y1, y2, y3, y4, y5, y6, y7⟩ := cells8 CX2
    have g2 : RdL w2 [v2] (setOfS 4095) := o2.own.rd
    go_wp2_with fail
    refine (HS _ _ (Rd.mono t2 h)).out.mono ?_
    rintro e w3 ⟨u, rfl, o3, b3⟩
    have t3 := t2.step b3
    have CX3 := Lib.hid (CX2.later b3)
    have g3 : RdL w3 [v2] (setOfS 4095) := Rd.mono (α := List Int) b3 g2
    obtain ⟨a3, k3, rfl, _, hr3⟩ := (show RdL w3 [u] X from o3.rd).sl
    have hm3 := hr3.1
    have HR := Lib.hid hr3
    have hvs := Lib.hid (hx.later t3)
    have hl0 := CX3.out.lt
    clear o3 hr3 HS y0 y1 y2 y3 y4 y5 y6 y7 o2 g2 b1 b2 b3 CX CX1 CX2
    go_wp2
    go_loopw [6, 7, 8, 10] (fun s y no i wr => ∃ k : Nat, k ≤ X.length ∧ i = .int .i64 k ∧ s = .bool (sTo X vs k) ∧ RdL wr [y] (yTo X vs k) ∧ RdL wr [no] (nTo X vs k) ∧ Below w3.heap.size w3 wr) (fun _ _ _ i _ => X.length - (intOf i).toNat)
    case atStart => exact ⟨0, Nat.zero_le _, rfl, rfl, g3, g3, Below.refl _ _⟩
    case round =>
      obtain ⟨k, hk, rfl, rfl, gy, gn, hb⟩ := hrel
      clear g3
      obtain ⟨py, cy, rfl, _, hIy0⟩ := gy.sl
      obtain ⟨pn, cn, rfl, _, hIn0⟩ := gn.sl
      by_cases hlt : k < X.length
      · obtain ⟨b, off, rfl, hc⟩ := HR.out.base (by omega)
        obtain ⟨ecs, hC, hRk⟩ := hc k hlt
        have hC := hC.later hb
        have hRk := Rd.mono hb hRk
        obtain ⟨ak, ck, rfl, _, _, hRow⟩ := hRk
        rw [show Rd.k (List Int) = 1 from rfl, Nat.mul_one] at hC
        have u0 := hC.c0
        have hIv := (hvs.out.later hb).ints
        have hIk := Lib.hid hRow.ints
        cases hA : agreesB (nth X k) vs
        · have e1 := Lib.hid (yTo_no hA)
          have e2 := Lib.hid (nTo_no hA)
          have e3 := Lib.hid (sTo_no hA)
          go_wp2_with fail
          refine (specAgrees_calls _ _ _ _ _ _ _ hIk.out hIv).mono ?_
          rintro e w4 ⟨he, b4⟩
          rw [hA] at he
          subst he
          have gy4 := Rd.mono (α := List Int) b4 gy
          have gn4 := Rd.mono (α := List Int) b4 gn
          clear gy gn hC hc hIy0 hIn0
          go_wp2
          go_roundw
          case rel => exact ⟨k + 1, by omega, by go_num, by rw [e3.out], by rw [e1.out]; exact gy4, by rw [e2.out]; exact gn4, hb.step b4⟩
          case measure => simp [intOf]; omega
        · have e1 := Lib.hid (yTo_yes hA)
          have e2 := Lib.hid (nTo_yes hA)
          have e3 := Lib.hid (sTo_yes hA)
          go_wp2_with fail
          refine (specAgrees_calls _ _ _ _ _ _ _ hIk.out hIv).mono ?_
          rintro e w4 ⟨he, b4⟩
          rw [hA] at he
          subst he
          have hC4 := hC.later b4
          have u4 := hC4.c0
          have hIy4 := (hIy0.later b4).ints
          have hRow4 := hRow.later b4
          clear gy gn hC hc u0 hIy0
          go_wp2_with fail
          refine (specSetMeet_calls _ _ _ _ _ _ _ hIy4 hRow4.ints).mono ?_
          rintro e w5 ⟨v5, rfl, o5, b5⟩
          have u5 := (hC4.later b5).c0
          have hIn5 := ((hIn0.later b4).later b5).ints
          clear u4 hC4
          go_wp2_with fail
          refine (specSetLess_calls _ _ _ _ _ _ _ hIn5 (hRow4.later b5).ints).mono ?_
          rintro e w6 ⟨v6, rfl, o6, b6⟩
          have gy6 : RdL w6 [v5] _ := Rd.mono (α := List Int) b6 o5.own.rd
          have gn6 : RdL w6 [v6] _ := o6.own.rd
          have hb6 := ((hb.step b4).step b5).step b6
          clear o5 o6 u5 hRow4 hRow hIn5 hIy4 hIn0
          go_wp2
          go_roundw
          case rel => exact ⟨k + 1, by omega, by go_num, by rw [e3.out], by rw [e1.out]; exact gy6, by rw [e2.out]; exact gn6, hb6⟩
          case measure => simp [intOf]; omega
      · obtain rfl : k = X.length := by omega
        have t4 := t3.trans (hb.mono t3.size)
        have CX4 := Lib.hid (CX3.out.later hb)
        cases hs : sTo X vs X.length
        · have hs2 : Hid (narS p vs = false) := by show _ = _; rw [hsm.out, hs]
          clear gy gn hIy0 hIn0
          go_wp2
          refine bodyPost_ret (v := .tuple #[.slice (some ⟨wr.heap.size, 0, none⟩) 0 0, .bool false]) (by simp [results, Tryz.results19, go_sem]) rfl ?_
          exact ⟨_, by rw [hv.out, hs2.out], by rw [hR0.out hs2.out]; exact (OwnI.new wr w.heap.size t4.size).own, t4.alloc t4.size _⟩
        · have hs2 : Hid (narS p vs = true) := by show _ = _; rw [hsm.out, hs]
          have HY := Lib.hid hIy0
          have HN := Lib.hid hIn0
          have hzz := t4.size
          have hl4 := CX4.out.lt
          clear gy gn hIy0 hIn0
          obtain ⟨wo, rfl⟩ : ∃ wo, wo = wr := ⟨_, rfl⟩
          go_wp2
          go_loopw [11, 12] (fun v i wq => ∃ a : Nat, a ≤ n ∧ i = .int .i64 ((a : Int) + 1) ∧ OwnI wo.heap.size wq v (narTo (yTo X vs X.length) (nTo X vs X.length) a) ∧ Below wo.heap.size wo wq) (fun _ i _ => 20 - (intOf i).toNat)
          case atStart => exact ⟨0, Nat.zero_le _, rfl, OwnI.new _ _ (Nat.le_refl _), (Below.refl _ _).alloc (Nat.le_refl _) _⟩
          case round =>
            obtain ⟨a, ha, rfl, ho, hb⟩ := hrel
            obtain ⟨y0, y1, y2, y3, y4, y5, y6, y7⟩ := cells8 (CX4.out.later hb)
            have hIy := (HY.out.later hb).ints
            have hIn := (HN.out.later hb).ints
            have hszd := hb.size
            by_cases hlt : a < n
            · have hle : (a : Int) + 1 ≤ (n : Int) := by omega
              have hv := Lib.hid (narTo_succ (yTo X vs X.length) (nTo X vs X.length) a)
              cases hn1 : hasB (nTo X vs X.length) ((a : Int) + 1) <;> cases hy1 : hasB (yTo X vs X.length) ((a : Int) + 1)
              · have hw : valN (yTo X vs X.length) (nTo X vs X.length) ((a : Int) + 1) = 0 := by unfold valN; rw [hn1, hy1]; rfl
                rw [hw] at hv
                clear hw
                go_wp2_with fail
                refine (SetHas_calls _ _ _ _ _ hIy).mono ?_
                rintro e w' ⟨he, rfl⟩
                rw [hy1] at he
                subst he
                go_wp2_with fail
                refine (SetHas_calls _ _ _ _ _ hIn).mono ?_
                rintro e w' ⟨he, rfl⟩
                rw [hn1] at he
                subst he
                have hF : Fits 0 := ⟨by omega, by omega⟩
                go_wp2_with (at_builtin; refine wpList_append_int rfl _ _ rfl rfl ho rfl (by rw [narTo_len]; omega) hF hszd ?_; intro v' w' ho' hb' hg')
                go_roundw
                case rel => exact ⟨a + 1, by omega, by go_num, by rw [hv.out]; exact ho', hb.trans hb'⟩
                case measure => simp [intOf]; omega
              · have hw : valN (yTo X vs X.length) (nTo X vs X.length) ((a : Int) + 1) = 1 := by unfold valN; rw [hn1, hy1]; rfl
                rw [hw] at hv
                clear hw
                go_wp2_with fail
                refine (SetHas_calls _ _ _ _ _ hIy).mono ?_
                rintro e w' ⟨he, rfl⟩
                rw [hy1] at he
                subst he
                go_wp2_with fail
                refine (SetHas_calls _ _ _ _ _ hIn).mono ?_
                rintro e w' ⟨he, rfl⟩
                rw [hn1] at he
                subst he
                have hF : Fits 1 := ⟨by omega, by omega⟩
                go_wp2_with (at_builtin; refine wpList_append_int rfl _ _ rfl rfl ho rfl (by rw [narTo_len]; omega) hF hszd ?_; intro v' w' ho' hb' hg')
                go_roundw
                case rel => exact ⟨a + 1, by omega, by go_num, by rw [hv.out]; exact ho', hb.trans hb'⟩
                case measure => simp [intOf]; omega
              · have hw : valN (yTo X vs X.length) (nTo X vs X.length) ((a : Int) + 1) = 2 := by unfold valN; rw [hn1]; rfl
                rw [hw] at hv
                clear hw
                go_wp2_with fail
                refine (SetHas_calls _ _ _ _ _ hIy).mono ?_
                rintro e w' ⟨he, rfl⟩
                rw [hy1] at he
                subst he
                go_wp2_with fail
                refine (SetHas_calls _ _ _ _ _ hIn).mono ?_
                rintro e w' ⟨he, rfl⟩
                rw [hn1] at he
                subst he
                have hF : Fits 2 := ⟨by omega, by omega⟩
                go_wp2_with (at_builtin; refine wpList_append_int rfl _ _ rfl rfl ho rfl (by rw [narTo_len]; omega) hF hszd ?_; intro v' w' ho' hb' hg')
                go_roundw
                case rel => exact ⟨a + 1, by omega, by go_num, by rw [hv.out]; exact ho', hb.trans hb'⟩
                case measure => simp [intOf]; omega
              · have hw : valN (yTo X vs X.length) (nTo X vs X.length) ((a : Int) + 1) = 2 := by unfold valN; rw [hn1]; rfl
                rw [hw] at hv
                clear hw
                go_wp2_with fail
                refine (SetHas_calls _ _ _ _ _ hIy).mono ?_
                rintro e w' ⟨he, rfl⟩
                rw [hy1] at he
                subst he
                go_wp2_with fail
                refine (SetHas_calls _ _ _ _ _ hIn).mono ?_
                rintro e w' ⟨he, rfl⟩
                rw [hn1] at he
                subst he
                have hF : Fits 2 := ⟨by omega, by omega⟩
                go_wp2_with (at_builtin; refine wpList_append_int rfl _ _ rfl rfl ho rfl (by rw [narTo_len]; omega) hF hszd ?_; intro v' w' ho' hb' hg')
                go_roundw
                case rel => exact ⟨a + 1, by omega, by go_num, by rw [hv.out]; exact ho', hb.trans hb'⟩
                case measure => simp [intOf]; omega
            · obtain rfl : a = n := by omega
              have hgt : (a : Int) < (a : Int) + 1 := by omega
              obtain ⟨pv, cv, rfl, _, _⟩ := ho.open
              have HO : Hid (Own w.heap.size wr [.slice pv (narTo (yTo X vs X.length) (nTo X vs X.length) a).length cv] (narR p vs)) := by show Own _ _ _ _; rw [hR1.out hs2.out]; exact (ho.mono hzz).own
              have hfin := t4.trans (hb.mono hzz)
              clear ho hIy hIn
              go_wp2
              refine bodyPost_ret (v := .tuple #[.slice pv (narTo (yTo X vs X.length) (nTo X vs X.length) a).length cv, .bool true]) (by simp [results, Tryz.results19, go_sem]) rfl ?_
              exact ⟨_, by rw [hv.out, hs2.out], HO.out, hfin⟩

theorem upN_pow {n : Nat} (hn : n ≤ 12) : ((2 : Int) ^ n) = ((2 ^ n : Nat) : Int) ∧ 1 ≤ 2 ^ n ∧ 2 ^ n ≤ 4096 := by
  have h1 : 2 ^ n ≤ 2 ^ 12 := Nat.pow_le_pow_right (by omega) hn
  have h2 : 0 < 2 ^ n := Nat.two_pow_pos n
  exact ⟨by simp, h2, h1⟩
theorem upN_calls (n : Nat) (w : World) (hn : n ≤ 12) :
    Calls Tryz.prog 62 #[.int .i64 (n : Int)] w fun e w' => e = .returned (.int .u16 ((2 ^ n - 1 : Nat) : Int)) ∧ w = w' := by
  obtain ⟨hp, h1, h2⟩ := upN_pow hn
  obtain ⟨P, hP⟩ : ∃ P : Nat, P = 2 ^ n := ⟨_, rfl⟩
  rw [← hP] at hp h1 h2
  have hv : Hid (2 ^ n = P) := hP.symm
  clear hP
  go_enter Tryz.func62, Tryz.ntmps62
  go_wp2
  go_ret
  refine ⟨ret_int ?_, rfl⟩
  rw [hv.out]
  first | omega | (unfold IntKind.wrap; simp; omega) | skip
set_option maxHeartbeats 8000000 in
theorem implNarrow_calls {cs : List Value} {p : ProgD} {w : World} {v : Value} {vs : List Int} (h : Rd.R w cs p) (gx : RdL w [v] vs) :
    Calls Tryz.prog 21 #[.agg cs.toArray, v] w fun e w' => ∃ u, e = .returned (.tuple #[u, .bool (narO p vs)]) ∧ Own w.heap.size w' [u] (narR p vs) ∧ Below w.heap.size w w' := by
  have h0 := h
  obtain ⟨c1, c2, c4, c5, c6, c7, rfl, hf, _⟩ := h0
  obtain ⟨ax, cx, rfl, _, hx⟩ := gx.sl
  have CX := Cells.new w [.int .i64 p.atoms, c1, c2, .bool p.projOn, c4, c5, c6, c7] 37
  have t0 : Below w.heap.size w (w.alloc (.cells #[.int .i64 p.atoms, c1, c2, .bool p.projOn, c4, c5, c6, c7] 37)) := (Below.refl _ _).alloc (Nat.le_refl _) _
  cases hO : valsOkR p vs
  · have hv := Lib.hid (narO_A hO)
    have hr := Lib.hid (narR_no (narO_A hO))
    go_enter Tryz.func21, Tryz.ntmps21
    go_wp2_with fail
    refine (implValsOk_calls (Rd.mono t0 h) (Rd.mono (α := List Int) t0 gx)).mono ?_
    rintro e w1 ⟨he, b1⟩
    rw [hO] at he
    subst he
    go_wp2
    refine bodyPost_ret (v := .tuple #[.slice none 0 0, .bool false]) (by simp [results, Tryz.results21, go_sem]) rfl ?_
    exact ⟨_, by rw [hv.out], by rw [hr.out]; exact (OwnI.nil _ _).own, t0.step b1⟩
  · obtain ⟨ha0, ha1⟩ := nar_atoms hO
    have hv := Lib.hid (narO_B hO)
    obtain ⟨n, hn⟩ : ∃ n : Nat, p.atoms = (n : Int) := ⟨p.atoms.toNat, by omega⟩
    have hn12 : n ≤ 12 := by omega
    have hnn := Lib.hid (show p.atoms.toNat = n by omega)
    have hOO := Lib.hid hO
    rw [hn] at CX t0 h
    rw [hn]
    clear ha0 ha1 hO hn
    cases hS : narS p vs
    · have hSS := Lib.hid hS
      have hr : Hid (narR p vs = []) := narR_no (by rw [hv.out]; exact hS)
      clear hS
      go_enter Tryz.func21, Tryz.ntmps21
      go_wp2_with fail
      refine (implValsOk_calls (Rd.mono t0 h) (Rd.mono (α := List Int) t0 gx)).mono ?_
      rintro e w1 ⟨he, b1⟩
      rw [hOO.out] at he
      subst he
      have t1 := t0.step b1
      have CX1 := CX.later b1
      go_wp2
      go_region_held3 (fun w' => w'.cell? ⟨w.heap.size, 0, none⟩ = some (.int .i64 (n : Int)) ∧ w'.cell? ⟨w.heap.size, 1, none⟩ = some c1 ∧ w'.cell? ⟨w.heap.size, 2, none⟩ = some c2 ∧ w'.cell? ⟨w.heap.size, 3, none⟩ = some (.bool p.projOn) ∧ w'.cell? ⟨w.heap.size, 4, none⟩ = some c4 ∧ w'.cell? ⟨w.heap.size, 5, none⟩ = some c5 ∧ w'.cell? ⟨w.heap.size, 6, none⟩ = some c6 ∧ w'.cell? ⟨w.heap.size, 7, none⟩ = some c7)
        (first | exact cells8 CX1.drew | exact cells8 CX1 | exact cells8 (CX1.drew.later b2) | exact cells8 ((CX1.drew.later b2).later b3))
        (first | (go_at_call 61; refine (valuesOf_calls _ vs _ _ (hx.later t1.drew).ints).mono ?_; rintro e w2 ⟨rfl, b2⟩) |
          (go_at_call 44; refine (consequences_calls _ _ (maskOf_lt _) (maskOf_lt _) (Rd.mono (t1.drew.step b2) h)).mono ?_; rintro e w3 ⟨ms, hms, rfl, b3⟩; rw [nar_some hms, hSS.out, if_neg Bool.false_ne_true]))
      go_wp2
      refine bodyPost_ret (v := .tuple #[.slice none 0 0, .bool false]) (by simp [results, Tryz.results21, go_sem]) rfl ?_
      exact ⟨_, by rw [hv.out, hSS.out], by rw [hr.out]; exact (OwnI.nil _ _).own, (t1.drew.step b2).step b3⟩
    · have hSS := Lib.hid hS
      clear hS
      obtain ⟨_, hU1, hU2⟩ := upN_pow hn12
      obtain ⟨U, hU⟩ : ∃ U : Nat, U = 2 ^ n - 1 := ⟨_, rfl⟩
      have hUl : U < 4096 := by omega
      have HUp := fun (w : World) => Lib.hid (upN_calls n w hn12)
      have HL0 := fun (ms : List MaskI) (hms : ms.map (·.1) = ansN p) => nar_masks hms hOO.out hSS.out
      rw [hnn.out, ← hU] at HL0
      rw [← hU] at HUp
      clear hU hU1 hU2
      go_enter Tryz.func21, Tryz.ntmps21
      go_wp2_with fail
      refine (implValsOk_calls (Rd.mono t0 h) (Rd.mono (α := List Int) t0 gx)).mono ?_
      rintro e w1 ⟨he, b1⟩
      rw [hOO.out] at he
      subst he
      have t1 := t0.step b1
      have CX1 := CX.later b1
      go_wp2
      go_region_held3 (fun w' => w'.cell? ⟨w.heap.size, 0, none⟩ = some (.int .i64 (n : Int)) ∧ w'.cell? ⟨w.heap.size, 1, none⟩ = some c1 ∧ w'.cell? ⟨w.heap.size, 2, none⟩ = some c2 ∧ w'.cell? ⟨w.heap.size, 3, none⟩ = some (.bool p.projOn) ∧ w'.cell? ⟨w.heap.size, 4, none⟩ = some c4 ∧ w'.cell? ⟨w.heap.size, 5, none⟩ = some c5 ∧ w'.cell? ⟨w.heap.size, 6, none⟩ = some c6 ∧ w'.cell? ⟨w.heap.size, 7, none⟩ = some c7)
        (first | exact cells8 CX1.drew | exact cells8 CX1 | exact cells8 (CX1.drew.later b2) | exact cells8 ((CX1.drew.later b2).later b3))
        (first | (go_at_call 61; refine (valuesOf_calls _ vs _ _ (hx.later t1.drew).ints).mono ?_; rintro e w2 ⟨rfl, b2⟩) |
          (go_at_call 44; refine (consequences_calls _ _ (maskOf_lt _) (maskOf_lt _) (Rd.mono (t1.drew.step b2) h)).mono ?_; rintro e w3 ⟨ms, hms, rfl, b3⟩; rw [nar_some hms, hSS.out, if_pos rfl]))
      obtain ⟨m1, m2, m3, m4⟩ := HL0 ms hms
      have HL := fun w => Lib.hid (valsList_calls (narR p vs) w m4)
      rw [m1, m2, m3] at HL
      obtain ⟨A, hA⟩ : ∃ A, A = conA (maskOf (withL vs 1)) (maskOf (withL vs 2)) ms := ⟨_, rfl⟩
      obtain ⟨S, hSe⟩ : ∃ S, S = conS (maskOf (withL vs 1)) (maskOf (withL vs 2)) ms := ⟨_, rfl⟩
      have hSl : S < 4096 := by rw [hSe]; exact conS_lt _ _ _
      rw [← hA, ← hSe] at HL
      rw [← hA, ← hSe]
      have t3 := (t1.drew.step b2).step b3
      obtain ⟨y0, y1, y2, y3, y4, y5, y6, y7⟩ := cells8 ((CX1.drew.later b2).later b3)
      have hl0 := ((CX1.drew.later b2).later b3).lt
      have hl3 := m3
      clear m1 m2 m3 m4 hA hSe hms HL0 b2 b3 CX1 b1 CX
      go_wp2_with (first | (go_at_call 62; refine (HUp _).out.mono ?_; rintro e w' ⟨rfl, rfl⟩) | (go_at_call 63; refine (lessN_calls _ _ _ hUl hSl).mono ?_; rintro e w' ⟨rfl, rfl⟩) | (go_at_call 64; refine (HL _).out.mono ?_; rintro e w4 ⟨u4, rfl, o4, b4⟩))
      have t4 := (t3.alloc t3.size (.cells #[.int .u16 (A : Int), .int .u16 ((U &&& (65535 - S) : Nat) : Int)] 73)).step b4
      have HO : Hid (Own w.heap.size w4 [u4] (narR p vs)) := (o4.mono (by rw [World.size_alloc]; have := t3.size; omega)).own
      refine bodyPost_ret (v := .tuple #[u4, .bool true]) (by simp [results, Tryz.results21, go_sem]) rfl ?_
      exact ⟨_, by rw [hv.out, hSS.out], HO.out, t4⟩

end Go.Proofs.YtnjiephgiemkjaaGreat
