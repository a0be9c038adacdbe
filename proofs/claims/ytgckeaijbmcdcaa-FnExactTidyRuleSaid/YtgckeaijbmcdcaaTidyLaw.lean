/-
  A tidied rule is small; reading its marks. No condition of its own.
-/
import Derived.Test.YtgckeaijbmcdcaaTidyR
import Derived.Test.YtgckeaijbmcdcaaMark
import Derived.Test.YtgckeaijbmcdcaaHeld
import Derived.Test.YtgckeaijbmcdcaaLawsSz
import Derived.Test.YtgckeaijbmcdcaaLawsEq
namespace Go.Proofs.Ytgckeaijbmcdcaa
open Go.RowKit
set_option maxRecDepth 100000

theorem onceL_len24 (xs : List (Int × Int)) : (onceL xs).length ≤ 24 * xs.length := by
  have h1 : (onceL xs).length ≤ (ordL xs).length := onceTo_len _ _
  have h2 : (ordL xs).length ≤ 2 * 12 * xs.length := ordTo_len xs 12
  omega
theorem tidyU_len {ch : Bool} {heads : List Int} {body : List (Int × Int)} {x : RuleD} (h : tidyU ch heads body = some x) : x.heads.length ≤ heads.length ∧ x.body.length ≤ 24 * body.length := by
  unfold tidyU at h
  split at h
  · cases h
  · cases h
    exact ⟨restH_len _ _, onceL_len24 _⟩
theorem tidyRR_len (r : RuleD) : (tidyRR r).heads.length ≤ 20 ∧ (tidyRR r).body.length ≤ 480 := by
  unfold tidyRR
  cases hT : tidyO r with
  | none => exact ⟨by show ([] : List Int).length ≤ _; simp, by show ([] : List (Int × Int)).length ≤ _; simp⟩
  | some x =>
    show x.heads.length ≤ 20 ∧ x.body.length ≤ 480
    cases hok : ruleOkB r 12
    · rw [tidyO_no hok] at hT; cases hT
    · have h1 := ruleOk_heads hok
      have h2 := (ruleOk_body hok).1
      cases hw : r.weight
      · rw [tidyO_U hok hw] at hT
        have := tidyU_len hT
        omega
      · rw [tidyO_W hok hw] at hT
        unfold tidyW at hT
        split at hT
        · have := tidyU_len hT
          have h3 : ([] : List (Int × Int)).length = 0 := rfl
          rw [h3] at this
          omega
        · split at hT
          · cases hT
          · split at hT
            · have := tidyU_len hT
              omega
            · split at hT
              · cases hT
                refine ⟨h1, ?_⟩
                show (mergedL r.body r.bound).length ≤ 480
                unfold mergedL
                rw [List.length_map]
                have := onceL_len24 r.body
                omega
              · cases hT
                refine ⟨h1, ?_⟩
                show (ordL r.body).length ≤ 480
                have : (ordL r.body).length ≤ 2 * 12 * r.body.length := ordTo_len r.body 12
                omega
theorem cntRuleV_eq (r : RuleD) : cntRuleV r = r.heads.length + 2 * r.body.length := by unfold cntRuleV; rw [cntTo_int, cntTo_pair]

set_option maxHeartbeats 1000000 in
theorem heldRule_calls {cs : List Value} {r : RuleD} {w : World} (k : Int) (h : Rd.R w cs (mkRuleV k r)) (h0 : 0 ≤ k) (h1 : k + r.heads.length + 2 * r.body.length ≤ 1152921504606846976) :
    Calls Try.prog 18 #[.agg cs.toArray, .int .i64 k] w fun e w' => e = .returned (.int .i64 (k + (cntRuleV r : Nat))) ∧ Below w.heap.size w w' := by
  obtain ⟨c1, c4, rfl, hf, r1, r4⟩ := h
  have i1 := cntTo_int r.heads r.heads.length
  obtain ⟨k2, hk2⟩ : ∃ k2 : Int, k2 = k + (cntTo r.heads r.heads.length : Nat) := ⟨_, rfl⟩
  have a2 : 0 ≤ k2 := by omega
  have b2 : k2 + 2 * r.body.length ≤ 1152921504606846976 := by omega
  have HE : Hid (k2 + (cntTo r.body r.body.length : Nat) = k + (cntRuleV r : Nat)) := by
    show k2 + (cntTo r.body r.body.length : Nat) = k + ((cntTo r.heads r.heads.length + cntTo r.body r.body.length : Nat) : Int); omega
  have H2 := Lib.hid hk2
  have r1 : RdL w [c1] (Mk.mkd k r.heads) := r1
  have r4 : RdL w [c4] (Mk.mkd k2 r.body) := by rw [H2.out]; exact r4
  have a8 : (0 : Int) ≤ k + (cntRuleV r : Nat) := by omega
  have b1 : k + r.heads.length ≤ 1152921504606846976 := by omega
  clear hk2 i1 h1
  have tb := (Below.refl w.heap.size w).alloc (Nat.le_refl _) (.cells #[.bool (mkRuleV k r).choice, c1, .bool (mkRuleV k r).weight, .int .i64 (mkRuleV k r).bound, c4] 48)
  go_enter Try.func18, Try.ntmps18
  go_wp2_with fail
  refine (heldIntSO_calls k (Rd.mono (α := List Int) tb r1) h0 b1).mono ?_
  rintro e w' ⟨he, rfl⟩
  rw [← H2.out] at he
  subst he
  go_wp2_with fail
  refine (heldWLitS_calls k2 (Rd.mono (α := List (Int × Int)) tb r4) a2 b2).mono ?_
  rintro e w' ⟨he, rfl⟩
  rw [HE.out] at he
  subst he
  go_wp2
  go_ret
  exact ⟨rfl, tb⟩

end Go.Proofs.Ytgckeaijbmcdcaa
