/-
  The least set as the program makes it. No condition of its own.
-/
import Derived.Test.YthfbnalgnnjbbaaLeastD
import Derived.Test.YthfbnalgnnjbbaaSetsPure
namespace Go.Proofs.Ythfbnalgnnjbbaa
set_option linter.unusedVariables false
set_option linter.unusedSimpArgs false
open Go.RowKit
set_option maxRecDepth 100000

/-! ### MadeD -/
/-- The list of a set that is told by its number. -/
def mset (m : Nat) : List Int := pickTo (hasM m) 12
theorem hasM_or {a b : Nat} {x : Int} (h : 1 ≤ x ∧ x ≤ 12) : hasM (a ||| b) x = (hasM a x || hasM b x) := by
  rw [hasM_bit _ _ h, hasM_bit _ _ h, hasM_bit _ _ h, Nat.testBit_or]
/-- Is a set in another one? -/
def inM (a b : Nat) : Bool := (((a &&& (65535 - b) : Nat) : Int) == 0)

/-- What a rule gives, as a number. -/
def givesM (r : RuleD) (m : Nat) : Nat := if r.choice then maskOf r.heads &&& m else maskOf r.heads
/-- What a rule gives, as far as it is let. -/
def moreG (ch mo : Nat) (r : RuleD) : Nat := givesM r ch &&& mo
/-- What the numbers say of rules that are turned by f. -/
def MoreOk (rs : List RuleD) (xs : List Int) (all : Bool) (f : RuleD → RuleD) (ch mo : Nat) : Prop :=
  (∀ r ∈ rs, ∀ x : Int, 1 ≤ x → x ≤ 12 → hasM (moreG ch mo r) x = hasB (putL all xs (f r)) x) ∧ (∀ r g, reachB (f r) g = reachB r g) ∧ ∀ r, (f r).body = r.body

section
variable {rs : List RuleD} {xs : List Int} {all : Bool} {f : RuleD → RuleD} {ch mo : Nat}
/-- What holds between two rounds. -/
def MadeJ (rs : List RuleD) (xs : List Int) (all : Bool) (m : Nat) : Prop := m < 4096 ∧ Sub (mset m) (leastL rs xs all)
/-- What holds within a round that began with m0, k rules being over. -/
def MadeI (rs : List RuleD) (xs : List Int) (all : Bool) (m0 m : Nat) (k : Nat) : Prop :=
  MadeJ rs xs all m ∧ Sub (mset m0) (mset m) ∧ (m = m0 → ∀ i, i < k → reachB (nth rs i) (h2B (mset m0) xs) = true → Sub (putL all xs (nth rs i)) (mset m0))
end

/-! ### Made -/
theorem joinN_calls (a b : Nat) (w : World) (ha : a < 4096) (hb : b < 4096) :
    Calls Try.prog 71 #[.int .u16 (a : Int), .int .u16 (b : Int)] w fun e w' => e = .returned (.int .u16 ((a ||| b : Nat) : Int)) ∧ w = w' := by
  have hor := or_u16 a b ha hb
  go_enter Try.func71, Try.ntmps71
  go_wp2
  go_ret
  exact ⟨rfl, rfl⟩

def natOf : Value → Nat
  | .int _ n => n.toNat
  | _ => 0

end Go.Proofs.Ythfbnalgnnjbbaa
