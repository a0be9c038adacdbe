/-
  A tidied rule is small; reading its marks. No condition of its own.
-/
import Derived.Test.YtmndmhnhcoblnaaGreatTidyA
import Derived.Test.YtmndmhnhcoblnaaGreatMark
import Derived.Test.YtmndmhnhcoblnaaGreatHeld
import Derived.Test.YtmndmhnhcoblnaaGreatLawsSz
import Derived.Test.YtmndmhnhcoblnaaGreatLawsEq
namespace Go.Proofs.YtmndmhnhcoblnaaGreat
open Go.RowKit
set_option maxRecDepth 100000

theorem onceL_len24 (xs : List (Int × Int)) : (onceL xs).length ≤ 24 * xs.length := by
  have h1 : (onceL xs).length ≤ (ordL xs).length := onceTo_len _ _
  have h2 : (ordL xs).length ≤ 2 * 12 * xs.length := ordTo_len xs 12
  omega
theorem tidyU_len {ch : Bool} {heads : List Int} {body : List (Int × Int)} {x : RuleD} (h : tidyU ch heads body = some x) : x.heads.length ≤ heads.length ∧ x.body.length ≤ 24 * body.length := by
  unfold tidyU at h
  split at h
  · cases h
  · cases h
    exact ⟨restH_len _ _, onceL_len24 _⟩
theorem tidyRR_len (r : RuleD) : (tidyRR r).heads.length ≤ 20 ∧ (tidyRR r).body.length ≤ 480 := by
  unfold tidyRR
  cases hT : tidyO r with
  | none => exact ⟨by show ([] : List Int).length ≤ _; simp, by show ([] : List (Int × Int)).length ≤ _; simp⟩
  | some x =>
    show x.heads.length ≤ 20 ∧ x.body.length ≤ 480
    cases hok : ruleOkB r 12
    · rw [tidyO_no hok] at hT; cases hT
    · have h1 := ruleOk_heads hok
      have h2 := (ruleOk_body hok).1
      cases hw : r.weight
      · rw [tidyO_U hok hw] at hT
        have := tidyU_len hT
        omega
      · rw [tidyO_W hok hw] at hT
        unfold tidyW at hT
        split at hT
        · have := tidyU_len hT
          have h3 : ([] : List (Int × Int)).length = 0 := rfl
          rw [h3] at this
          omega
        · split at hT
          · cases hT
          · split at hT
            · have := tidyU_len hT
              omega
            · split at hT
              · cases hT
                refine ⟨h1, ?_⟩
                show (mergedL r.body r.bound).length ≤ 480
                unfold mergedL
                rw [List.length_map]
                have := onceL_len24 r.body
                omega
              · cases hT
                refine ⟨h1, ?_⟩
                show (ordL r.body).length ≤ 480
                have : (ordL r.body).length ≤ 2 * 12 * r.body.length := ordTo_len r.body 12
                omega
theorem cntRuleV_eq (r : RuleD) : cntRuleV r = r.heads.length + 2 * r.body.length := by unfold cntRuleV; rw [cntTo_int, cntTo_pair]


end Go.Proofs.YtmndmhnhcoblnaaGreat
