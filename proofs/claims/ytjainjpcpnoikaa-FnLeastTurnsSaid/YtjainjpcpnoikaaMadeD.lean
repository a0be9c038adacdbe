/-
  The least set as the program makes it: pure. No condition of its own.
-/
import Derived.Test.YtjainjpcpnoikaaLeastD
import Derived.Test.YtjainjpcpnoikaaSetsPure
namespace Go.Proofs.Ytjainjpcpnoikaa
set_option linter.unusedVariables false
set_option linter.unusedSimpArgs false
open Go.RowKit
set_option maxRecDepth 100000

/-- The list of a set that is told by its number. -/
def mset (m : Nat) : List Int := pickTo (hasM m) 12
theorem mset_isP (m : Nat) : IsP (mset m) := isP_pick _
theorem hasB_mset {m : Nat} {a : Int} (h : 1 ≤ a ∧ a ≤ 12) : hasB (mset m) a = hasM m a := hasB_pickTo h
theorem mask_mset {m : Nat} (hm : m < 4096) : maskOf (mset m) = m := by
  rw [← num_same, sumTo_congr (g := hasM m) fun x h1 h2 => hasB_mset ⟨h1, h2⟩, sum_bits m 12 (by omega)]
  exact Nat.mod_eq_of_lt hm
theorem mset_mask {xs : List Int} (h : IsP xs) : mset (maskOf xs) = xs := by
  rw [h]
  refine pickTo_congr fun x h1 h2 => ?_
  rw [hasM_maskOf _ _ ⟨h1, by omega⟩, hasB_pickTo ⟨h1, by omega⟩]
theorem mset_zero : mset 0 = [] := by decide
theorem hasM_and {a b : Nat} {x : Int} (h : 1 ≤ x ∧ x ≤ 12) : hasM (a &&& b) x = (hasM a x && hasM b x) := by
  rw [hasM_bit _ _ h, hasM_bit _ _ h, hasM_bit _ _ h, Nat.testBit_and]
theorem hasM_or {a b : Nat} {x : Int} (h : 1 ≤ x ∧ x ≤ 12) : hasM (a ||| b) x = (hasM a x || hasM b x) := by
  rw [hasM_bit _ _ h, hasM_bit _ _ h, hasM_bit _ _ h, Nat.testBit_or]
theorem hasM_all {x : Int} (h : 1 ≤ x ∧ x ≤ 12) : hasM 4095 x = true := by
  rw [hasM_bit _ _ h, show (4095 : Nat) = 2 ^ 12 - 1 from rfl, Nat.testBit_two_pow_sub_one]
  exact decide_eq_true (by omega)
/-- Is a set in another one? -/
def inM (a b : Nat) : Bool := (((a &&& (65535 - b) : Nat) : Int) == 0)
theorem inM_iff {a b : Nat} (ha : a < 4096) (hb : b < 4096) : inM a b = true ↔ ∀ x : Int, 1 ≤ x → x ≤ 12 → hasM a x = true → hasM b x = true := by
  have key : ∀ x : Int, 1 ≤ x → x ≤ 12 → hasM (a &&& (65535 - b)) x = (hasM a x && !hasM b x) := fun x h1 h2 => by
    have := less_bit (mset a) (mset b) x ⟨h1, h2⟩
    rw [mask_mset ha, mask_mset hb, hasB_mset ⟨h1, h2⟩, hasB_mset ⟨h1, h2⟩] at this
    exact this
  unfold inM
  rw [beq_iff_eq]
  constructor
  · intro h x h1 h2 hx
    have h0 : a &&& (65535 - b) = 0 := by omega
    have := key x h1 h2
    rw [h0, hx] at this
    cases hb : hasM b x
    · rw [hb] at this
      simp [hasM] at this
    · rfl
  · intro h
    have : a &&& (65535 - b) = 0 := by
      refine zero_of_bits (Nat.lt_of_le_of_lt Nat.and_le_left ha) fun x h1 h2 => ?_
      rw [key x h1 h2]
      cases hx : hasM a x
      · rfl
      · rw [h x h1 h2 hx]; rfl
    rw [this]; rfl

/-- What a rule gives, as a number. -/
def givesM (r : RuleD) (m : Nat) : Nat := if r.choice then maskOf r.heads &&& m else maskOf r.heads
theorem givesM_T {r : RuleD} {m : Nat} (h : r.choice = true) : givesM r m = maskOf r.heads &&& m := if_pos h
theorem givesM_F {r : RuleD} {m : Nat} (h : r.choice = false) : givesM r m = maskOf r.heads := by unfold givesM; rw [h]; rfl
theorem givesM_lt (r : RuleD) (m : Nat) : givesM r m < 4096 := by
  have h := maskOf_lt r.heads
  unfold givesM
  split
  · exact Nat.lt_of_le_of_lt Nat.and_le_left h
  · exact h
/-- What a rule gives, as far as it is let. -/
def moreG (ch mo : Nat) (r : RuleD) : Nat := givesM r ch &&& mo
theorem moreG_lt (ch mo : Nat) (r : RuleD) : moreG ch mo r < 4096 := Nat.lt_of_le_of_lt Nat.and_le_left (givesM_lt _ _)
/-- What the numbers say of rules that are turned by f. -/
def MoreOk (rs : List RuleD) (xs : List Int) (all : Bool) (f : RuleD → RuleD) (ch mo : Nat) : Prop :=
  (∀ r ∈ rs, ∀ x : Int, 1 ≤ x → x ≤ 12 → hasM (moreG ch mo r) x = hasB (putL all xs (f r)) x) ∧ (∀ r g, reachB (f r) g = reachB r g) ∧ ∀ r, (f r).body = r.body
theorem moreOk_least (rs : List RuleD) (xs : List Int) : MoreOk rs xs false id (maskOf xs) 4095 := by
  refine ⟨fun r _ x h1 h2 => ?_, fun _ _ => rfl, fun _ => rfl⟩
  have h : 1 ≤ x ∧ x ≤ 12 := ⟨h1, h2⟩
  unfold moreG
  rw [hasM_and h, hasM_all h, Bool.and_true]
  show _ = hasB (putL false xs r) x
  cases hc : r.choice
  · rw [givesM_F hc, hasM_maskOf _ _ h, putL_F (by rw [hc]; rfl)]
  · rw [givesM_T hc, putL_T (by rw [hc]; rfl), hasB_meet h, hasM_and h, hasM_maskOf _ _ h, hasM_maskOf _ _ h]
theorem moreOk_base (rs : List RuleD) (xs : List Int) : MoreOk rs xs true id (maskOf xs) (maskOf xs) := by
  refine ⟨fun r _ x h1 h2 => ?_, fun _ _ => rfl, fun _ => rfl⟩
  have h : 1 ≤ x ∧ x ≤ 12 := ⟨h1, h2⟩
  unfold moreG
  rw [hasM_and h, hasM_maskOf _ _ h]
  show _ = hasB (putL true xs r) x
  rw [putL_T (by cases r.choice <;> rfl), hasB_meet h]
  cases hc : r.choice
  · rw [givesM_F hc, hasM_maskOf _ _ h]
  · rw [givesM_T hc, hasM_and h, hasM_maskOf _ _ h, hasM_maskOf _ _ h]
    cases hasB r.heads x <;> cases hasB xs x <;> rfl
theorem nth_map' {α β : Type} [Inhabited α] [Inhabited β] {xs : List α} {f : α → β} {k : Nat} (h : k < xs.length) : nth (xs.map f) k = f (nth xs k) := by
  rw [nth_eq (by rw [List.length_map]; exact h), nth_eq h, List.getElem_map]

section
variable {rs : List RuleD} {xs : List Int} {all : Bool} {f : RuleD → RuleD} {ch mo : Nat}
/-- What holds between two rounds. -/
def MadeJ (rs : List RuleD) (xs : List Int) (all : Bool) (m : Nat) : Prop := m < 4096 ∧ Sub (mset m) (leastL rs xs all)
/-- What holds within a round that began with m0, k rules being over. -/
def MadeI (rs : List RuleD) (xs : List Int) (all : Bool) (m0 m : Nat) (k : Nat) : Prop :=
  MadeJ rs xs all m ∧ Sub (mset m0) (mset m) ∧ (m = m0 → ∀ i, i < k → reachB (nth rs i) (h2B (mset m0) xs) = true → Sub (putL all xs (nth rs i)) (mset m0))
theorem madeJ_zero : MadeJ rs xs all 0 := ⟨by omega, fun a h1 h2 h => by rw [mset_zero] at h; simp [hasB] at h⟩
theorem madeI_start {m : Nat} (h : MadeJ rs xs all m) : MadeI rs xs all m m 0 := ⟨h, fun _ _ _ h => h, fun _ i hi => absurd hi (by omega)⟩
theorem hasM_moreK (H : MoreOk rs xs all f ch mo) {k : Nat} (hk : k < rs.length) {x : Int} (h1 : 1 ≤ x) (h2 : x ≤ 12) : hasM (moreG ch mo (nth rs k)) x = hasB (putL all xs (nth (rs.map f) k)) x := by
  rw [nth_map' hk]; exact H.1 _ (nth_mem hk) x h1 h2
theorem madeI_in (H : MoreOk rs xs all f ch mo) {m0 m k : Nat} (hk : k < rs.length) (h : MadeI (rs.map f) xs all m0 m k) (hi : inM (moreG ch mo (nth rs k)) m = true) : MadeI (rs.map f) xs all m0 m (k + 1) := by
  obtain ⟨h1, h2, h3⟩ := h
  refine ⟨h1, h2, fun e i hik hr => ?_⟩
  rcases Nat.lt_or_ge i k with hlt | hge
  · exact h3 e i hlt hr
  · obtain rfl : i = k := by omega
    intro a a1 a2 ha
    have := (inM_iff (moreG_lt _ _ _) h1.1).1 hi a a1 a2 (by rw [hasM_moreK H hk a1 a2]; exact ha)
    rw [← e, hasB_mset ⟨a1, a2⟩]; exact this
theorem reach_map (H : MoreOk rs xs all f ch mo) {k : Nat} (hk : k < rs.length) (g : Int × Int → Bool) : reachB (nth (rs.map f) k) g = reachB (nth rs k) g := by
  rw [nth_map' hk]; exact H.2.1 _ _
theorem madeI_no (H : MoreOk rs xs all f ch mo) {m0 m k : Nat} (hk : k < rs.length) (h : MadeI (rs.map f) xs all m0 m k) (hr : reachB (nth rs k) (h2B (mset m) xs) = false) : MadeI (rs.map f) xs all m0 m (k + 1) := by
  obtain ⟨h1, h2, h3⟩ := h
  refine ⟨h1, h2, fun e i hik hh => ?_⟩
  rcases Nat.lt_or_ge i k with hlt | hge
  · exact h3 e i hlt hh
  · obtain rfl : i = k := by omega
    rw [← e, reach_map H hk, hr] at hh; cases hh
theorem wts_map (H : MoreOk rs xs all f ch mo) (hw : Wts rs) : Wts (rs.map f) := fun r hr p hp => by
  obtain ⟨r', hr', rfl⟩ := List.mem_map.1 hr
  rw [H.2.2] at hp
  exact hw r' hr' p hp
theorem madeI_yes (H : MoreOk rs xs all f ch mo) {m0 m k : Nat} (hw : Wts rs) (hk : k < rs.length) (h : MadeI (rs.map f) xs all m0 m k) (hi : inM (moreG ch mo (nth rs k)) m = false) (hr : reachB (nth rs k) (h2B (mset m) xs) = true) :
    MadeI (rs.map f) xs all m0 (m ||| moreG ch mo (nth rs k)) (k + 1) := by
  obtain ⟨⟨h1, hs⟩, h2, h3⟩ := h
  have hlt : m ||| moreG ch mo (nth rs k) < 4096 := Nat.or_lt_two_pow (n := 12) h1 (moreG_lt _ _ _)
  have hmem : nth (rs.map f) k ∈ rs.map f := nth_mem (by rw [List.length_map]; exact hk)
  have hput : Sub (putL all xs (nth (rs.map f) k)) (leastL (rs.map f) xs all) := least_closed _ hmem (reachB_mono (wts_map H hw _ hmem) (fun p _ => h2B_mono hs) (by rw [reach_map H hk]; exact hr))
  refine ⟨⟨hlt, fun a a1 a2 ha => ?_⟩, fun a a1 a2 ha => ?_, fun e => ?_⟩
  · rw [hasB_mset ⟨a1, a2⟩, hasM_or ⟨a1, a2⟩, Bool.or_eq_true] at ha
    rcases ha with ha | ha
    · exact hs a a1 a2 (by rw [hasB_mset ⟨a1, a2⟩]; exact ha)
    · rw [hasM_moreK H hk a1 a2] at ha; exact hput a a1 a2 ha
  · have := h2 a a1 a2 ha
    rw [hasB_mset ⟨a1, a2⟩] at this ⊢
    rw [hasM_or ⟨a1, a2⟩, this]; rfl
  · exfalso
    have hn : ¬ inM (moreG ch mo (nth rs k)) m = true := by rw [hi]; exact Bool.false_ne_true
    apply hn
    rw [inM_iff (moreG_lt _ _ _) h1]
    intro a a1 a2 ha
    have : hasB (mset m0) a = true := by rw [← e, hasB_mset ⟨a1, a2⟩, hasM_or ⟨a1, a2⟩, ha, Bool.or_true]
    have := h2 a a1 a2 this
    rwa [hasB_mset ⟨a1, a2⟩] at this
theorem madeI_end (H : MoreOk rs xs all f ch mo) {m : Nat} (hw : Wts rs) (h : MadeI (rs.map f) xs all m m rs.length) : mset m = leastL (rs.map f) xs all := by
  obtain ⟨h1, _, h3⟩ := h
  refine least_uniq (wts_map H hw) (mset_isP m) (fun r hr hh => ?_) h1.2
  obtain ⟨i, hi, rfl⟩ := List.getElem_of_mem hr
  rw [← nth_eq hi] at hh ⊢
  exact h3 rfl i (by rwa [List.length_map] at hi) hh
theorem madeI_less {m0 m : Nat} (h : MadeI (rs.map f) xs all m0 m rs.length) (h0 : m0 < 4096) (hne : m ≠ m0) : (mset m0).length < (mset m).length := by
  obtain ⟨h1, h2, _⟩ := h
  obtain ⟨a, b⟩ := (mset_isP m0).len (mset_isP m) h2
  rcases Nat.lt_or_ge (mset m0).length (mset m).length with hlt | hge
  · exact hlt
  · exfalso
    apply hne
    have := b (by omega)
    rw [← mask_mset h1.1, ← mask_mset h0, this]
theorem mset_len (m : Nat) : (mset m).length ≤ 12 := pickTo_len _ _
end
/-- Is the set that is made the one that was asked of? -/
theorem made_eq {rs : List RuleD} {xs : List Int} {m : Nat} (hm : m < 4096) (hx : IsP xs) (h : mset m = leastL rs xs false) : decide ((m : Int) = (maskOf xs : Int)) = decide (leastL rs xs false = xs) := by
  rw [decide_eq_decide, ← h]
  constructor
  · intro e
    have e : m = maskOf xs := by omega
    rw [e, mset_mask hx]
  · intro e
    rw [← mask_mset hm, e]

end Go.Proofs.Ytjainjpcpnoikaa
