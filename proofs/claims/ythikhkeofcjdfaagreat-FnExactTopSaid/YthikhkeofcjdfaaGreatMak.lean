/-
 The least set as the program makes it. No condition of its own.
-/
import Derived.Test.YthikhkeofcjdfaaGreatLeastD
import Derived.Test.YthikhkeofcjdfaaGreatSetsPure
namespace Go.Proofs.YthikhkeofcjdfaaGreat
set_option linter.unusedVariables false
set_option linter.unusedSimpArgs false
open Go.RowKit
set_option maxRecDepth 100000

/-! ### MadeD -/
/-- The list of a set that is told by its number. -/
def mset (m : Nat) : List Int := pickTo (hasM m) 12
theorem mset_isP (m : Nat) : IsP (mset m) := isP_pick _
theorem hasB_mset {m : Nat} {a : Int} (h : 1 ≤ a ∧ a ≤ 12) : hasB (mset m) a = hasM m a := hasB_pickTo h
theorem mask_mset {m : Nat} (hm : m < 4096) : maskOf (mset m) = m := by
 rw [← num_same, sumTo_congr (g := hasM m) fun x h1 h2 => hasB_mset ⟨h1, h2⟩, sum_bits m 12 (by omega)]
 exact Nat.mod_eq_of_lt hm
theorem mset_mask {xs : List Int} (h : IsP xs) : mset (maskOf xs) = xs := by
 rw [h]
 refine pickTo_congr fun x h1 h2 => ?_
 rw [hasM_maskOf _ _ ⟨h1, by omega⟩, hasB_pickTo ⟨h1, by omega⟩]
theorem mset_zero : mset 0 = [] := by decide
theorem hasM_and {a b : Nat} {x : Int} (h : 1 ≤ x ∧ x ≤ 12) : hasM (a &&& b) x = (hasM a x && hasM b x) := by
 rw [hasM_bit _ _ h, hasM_bit _ _ h, hasM_bit _ _ h, Nat.testBit_and]
theorem hasM_or {a b : Nat} {x : Int} (h : 1 ≤ x ∧ x ≤ 12) : hasM (a ||| b) x = (hasM a x || hasM b x) := by
 rw [hasM_bit _ _ h, hasM_bit _ _ h, hasM_bit _ _ h, Nat.testBit_or]
theorem hasM_all {x : Int} (h : 1 ≤ x ∧ x ≤ 12) : hasM 4095 x = true := by
 rw [hasM_bit _ _ h, show (4095 : Nat) = 2 ^ 12 - 1 from rfl, Nat.testBit_two_pow_sub_one]
 exact decide_eq_true (by omega)
/-- Is a set in another one? -/
def inM (a b : Nat) : Bool := (((a &&& (65535 - b) : Nat) : Int) == 0)
theorem inM_iff {a b : Nat} (ha : a < 4096) (hb : b < 4096) : inM a b = true ↔ ∀ x : Int, 1 ≤ x → x ≤ 12 → hasM a x = true → hasM b x = true := by
 have key : ∀ x : Int, 1 ≤ x → x ≤ 12 → hasM (a &&& (65535 - b)) x = (hasM a x && !hasM b x) := fun x h1 h2 => by
  have := less_bit (mset a) (mset b) x ⟨h1, h2⟩
  rw [mask_mset ha, mask_mset hb, hasB_mset ⟨h1, h2⟩, hasB_mset ⟨h1, h2⟩] at this
  exact this
 unfold inM
 rw [beq_iff_eq]
 constructor
 ·intro h x h1 h2 hx
  have h0 : a &&& (65535 - b) = 0 := by omega
  have := key x h1 h2
  rw [h0, hx] at this
  cases hb : hasM b x
  ·rw [hb] at this
   simp [hasM] at this
  ·rfl
 ·intro h
  have : a &&& (65535 - b) = 0 := by
   refine zero_of_bits (Nat.lt_of_le_of_lt Nat.and_le_left ha) fun x h1 h2 => ?_
   rw [key x h1 h2]
   cases hx : hasM a x
   ·rfl
   ·rw [h x h1 h2 hx]; rfl
  rw [this]; rfl

/-- What a rule gives, as a number. -/
def givesM (r : RuleD) (m : Nat) : Nat := if r.choice then maskOf r.heads &&& m else maskOf r.heads
theorem givesM_T {r : RuleD} {m : Nat} (h : r.choice = true) : givesM r m = maskOf r.heads &&& m := if_pos h
theorem givesM_F {r : RuleD} {m : Nat} (h : r.choice = false) : givesM r m = maskOf r.heads := by unfold givesM; rw [h]; rfl
theorem givesM_lt (r : RuleD) (m : Nat) : givesM r m < 4096 := by
 have h := maskOf_lt r.heads
 unfold givesM
 split
 ·exact Nat.lt_of_le_of_lt Nat.and_le_left h
 ·exact h
/-- What a rule gives, as far as it is let. -/
def moreG (ch mo : Nat) (r : RuleD) : Nat := givesM r ch &&& mo
theorem moreG_lt (ch mo : Nat) (r : RuleD) : moreG ch mo r < 4096 := Nat.lt_of_le_of_lt Nat.and_le_left (givesM_lt _ _)
/-- What the numbers say of rules that are turned by f. -/
def MoreOk (rs : List RuleD) (xs : List Int) (all : Bool) (f : RuleD → RuleD) (ch mo : Nat) : Prop :=
 (∀ r ∈ rs, ∀ x : Int, 1 ≤ x → x ≤ 12 → hasM (moreG ch mo r) x = hasB (putL all xs (f r)) x) ∧ (∀ r g, reachB (f r) g = reachB r g) ∧ ∀ r, (f r).body = r.body
theorem moreOk_least (rs : List RuleD) (xs : List Int) : MoreOk rs xs false id (maskOf xs) 4095 := by
 refine ⟨fun r _ x h1 h2 => ?_, fun _ _ => rfl, fun _ => rfl⟩
 have h : 1 ≤ x ∧ x ≤ 12 := ⟨h1, h2⟩
 unfold moreG
 rw [hasM_and h, hasM_all h, Bool.and_true]
 show _ = hasB (putL false xs r) x
 cases hc : r.choice
 ·rw [givesM_F hc, hasM_maskOf _ _ h, putL_F (by rw [hc]; rfl)]
 ·rw [givesM_T hc, putL_T (by rw [hc]; rfl), hasB_meet h, hasM_and h, hasM_maskOf _ _ h, hasM_maskOf _ _ h]
theorem moreOk_base (rs : List RuleD) (xs : List Int) : MoreOk rs xs true id (maskOf xs) (maskOf xs) := by
 refine ⟨fun r _ x h1 h2 => ?_, fun _ _ => rfl, fun _ => rfl⟩
 have h : 1 ≤ x ∧ x ≤ 12 := ⟨h1, h2⟩
 unfold moreG
 rw [hasM_and h, hasM_maskOf _ _ h]
 show _ = hasB (putL true xs r) x
 rw [putL_T (by cases r.choice <;> rfl), hasB_meet h]
 cases hc : r.choice
 ·rw [givesM_F hc, hasM_maskOf _ _ h]
 ·rw [givesM_T hc, hasM_and h, hasM_maskOf _ _ h, hasM_maskOf _ _ h]
  cases hasB r.heads x <;> cases hasB xs x <;> rfl
theorem nth_map' {α β : Type} [Inhabited α] [Inhabited β] {xs : List α} {f : α → β} {k : Nat} (h : k < xs.length) : nth (xs.map f) k = f (nth xs k) := by
 rw [nth_eq (by rw [List.length_map]; exact h), nth_eq h, List.getElem_map]

section
variable {rs : List RuleD} {xs : List Int} {all : Bool} {f : RuleD → RuleD} {ch mo : Nat}
/-- What holds between two rounds. -/
def MadeJ (rs : List RuleD) (xs : List Int) (all : Bool) (m : Nat) : Prop := m < 4096 ∧ Sub (mset m) (leastL rs xs all)
/-- What holds within a round that began with m0, k rules being over. -/
def MadeI (rs : List RuleD) (xs : List Int) (all : Bool) (m0 m : Nat) (k : Nat) : Prop :=
 MadeJ rs xs all m ∧ Sub (mset m0) (mset m) ∧ (m = m0 → ∀ i, i < k → reachB (nth rs i) (h2B (mset m0) xs) = true → Sub (putL all xs (nth rs i)) (mset m0))
theorem madeJ_zero : MadeJ rs xs all 0 := ⟨by omega, fun a h1 h2 h => by rw [mset_zero] at h; simp [hasB] at h⟩
theorem madeI_start {m : Nat} (h : MadeJ rs xs all m) : MadeI rs xs all m m 0 := ⟨h, fun _ _ _ h => h, fun _ i hi => absurd hi (by omega)⟩
theorem hasM_moreK (H : MoreOk rs xs all f ch mo) {k : Nat} (hk : k < rs.length) {x : Int} (h1 : 1 ≤ x) (h2 : x ≤ 12) : hasM (moreG ch mo (nth rs k)) x = hasB (putL all xs (nth (rs.map f) k)) x := by
 rw [nth_map' hk]; exact H.1 _ (nth_mem hk) x h1 h2
theorem madeI_in (H : MoreOk rs xs all f ch mo) {m0 m k : Nat} (hk : k < rs.length) (h : MadeI (rs.map f) xs all m0 m k) (hi : inM (moreG ch mo (nth rs k)) m = true) : MadeI (rs.map f) xs all m0 m (k + 1) := by
 obtain ⟨h1, h2, h3⟩ := h
 refine ⟨h1, h2, fun e i hik hr => ?_⟩
 rcases Nat.lt_or_ge i k with hlt | hge
 ·exact h3 e i hlt hr
 ·obtain rfl : i = k := by omega
  intro a a1 a2 ha
  have := (inM_iff (moreG_lt _ _ _) h1.1).1 hi a a1 a2 (by rw [hasM_moreK H hk a1 a2]; exact ha)
  rw [← e, hasB_mset ⟨a1, a2⟩]; exact this
theorem reach_map (H : MoreOk rs xs all f ch mo) {k : Nat} (hk : k < rs.length) (g : Int × Int → Bool) : reachB (nth (rs.map f) k) g = reachB (nth rs k) g := by
 rw [nth_map' hk]; exact H.2.1 _ _
theorem madeI_no (H : MoreOk rs xs all f ch mo) {m0 m k : Nat} (hk : k < rs.length) (h : MadeI (rs.map f) xs all m0 m k) (hr : reachB (nth rs k) (h2B (mset m) xs) = false) : MadeI (rs.map f) xs all m0 m (k + 1) := by
 obtain ⟨h1, h2, h3⟩ := h
 refine ⟨h1, h2, fun e i hik hh => ?_⟩
 rcases Nat.lt_or_ge i k with hlt | hge
 ·exact h3 e i hlt hh
 ·obtain rfl : i = k := by omega
  rw [← e, reach_map H hk, hr] at hh; cases hh
theorem wts_map (H : MoreOk rs xs all f ch mo) (hw : Wts rs) : Wts (rs.map f) := fun r hr p hp => by
 obtain ⟨r', hr', rfl⟩ := List.mem_map.1 hr
 rw [H.2.2] at hp
 exact hw r' hr' p hp
theorem madeI_yes (H : MoreOk rs xs all f ch mo) {m0 m k : Nat} (hw : Wts rs) (hk : k < rs.length) (h : MadeI (rs.map f) xs all m0 m k) (hi : inM (moreG ch mo (nth rs k)) m = false) (hr : reachB (nth rs k) (h2B (mset m) xs) = true) :
  MadeI (rs.map f) xs all m0 (m ||| moreG ch mo (nth rs k)) (k + 1) := by
 obtain ⟨⟨h1, hs⟩, h2, h3⟩ := h
 have hlt : m ||| moreG ch mo (nth rs k) < 4096 := Nat.or_lt_two_pow (n := 12) h1 (moreG_lt _ _ _)
 have hmem : nth (rs.map f) k ∈ rs.map f := nth_mem (by rw [List.length_map]; exact hk)
 have hput : Sub (putL all xs (nth (rs.map f) k)) (leastL (rs.map f) xs all) := least_closed _ hmem (reachB_mono (wts_map H hw _ hmem) (fun p _ => h2B_mono hs) (by rw [reach_map H hk]; exact hr))
 refine ⟨⟨hlt, fun a a1 a2 ha => ?_⟩, fun a a1 a2 ha => ?_, fun e => ?_⟩
 ·rw [hasB_mset ⟨a1, a2⟩, hasM_or ⟨a1, a2⟩, Bool.or_eq_true] at ha
  rcases ha with ha | ha
  ·exact hs a a1 a2 (by rw [hasB_mset ⟨a1, a2⟩]; exact ha)
  ·rw [hasM_moreK H hk a1 a2] at ha; exact hput a a1 a2 ha
 ·have := h2 a a1 a2 ha
  rw [hasB_mset ⟨a1, a2⟩] at this ⊢
  rw [hasM_or ⟨a1, a2⟩, this]; rfl
 ·exfalso
  have hn : ¬ inM (moreG ch mo (nth rs k)) m = true := by rw [hi]; exact Bool.false_ne_true
  apply hn
  rw [inM_iff (moreG_lt _ _ _) h1]
  intro a a1 a2 ha
  have : hasB (mset m0) a = true := by rw [← e, hasB_mset ⟨a1, a2⟩, hasM_or ⟨a1, a2⟩, ha, Bool.or_true]
  have := h2 a a1 a2 this
  rwa [hasB_mset ⟨a1, a2⟩] at this
theorem madeI_end (H : MoreOk rs xs all f ch mo) {m : Nat} (hw : Wts rs) (h : MadeI (rs.map f) xs all m m rs.length) : mset m = leastL (rs.map f) xs all := by
 obtain ⟨h1, _, h3⟩ := h
 refine least_uniq (wts_map H hw) (mset_isP m) (fun r hr hh => ?_) h1.2
 obtain ⟨i, hi, rfl⟩ := List.getElem_of_mem hr
 rw [← nth_eq hi] at hh ⊢
 exact h3 rfl i (by rwa [List.length_map] at hi) hh
theorem madeI_less {m0 m : Nat} (h : MadeI (rs.map f) xs all m0 m rs.length) (h0 : m0 < 4096) (hne : m ≠ m0) : (mset m0).length < (mset m).length := by
 obtain ⟨h1, h2, _⟩ := h
 obtain ⟨a, b⟩ := (mset_isP m0).len (mset_isP m) h2
 rcases Nat.lt_or_ge (mset m0).length (mset m).length with hlt | hge
 ·exact hlt
 ·exfalso
  apply hne
  have := b (by omega)
  rw [← mask_mset h1.1, ← mask_mset h0, this]
theorem mset_len (m : Nat) : (mset m).length ≤ 12 := pickTo_len _ _
end
/-- Is the set that is made the one that was asked of? -/
theorem made_eq {rs : List RuleD} {xs : List Int} {m : Nat} (hm : m < 4096) (hx : IsP xs) (h : mset m = leastL rs xs false) : decide ((m : Int) = (maskOf xs : Int)) = decide (leastL rs xs false = xs) := by
 rw [decide_eq_decide, ← h]
 constructor
 ·intro e
  have e : m = maskOf xs := by omega
  rw [e, mset_mask hx]
 ·intro e
  rw [← mask_mset hm, e]

/-! ### Made -/
theorem joinN_calls (a b : Nat) (w : World) (ha : a < 4096) (hb : b < 4096) :
  Calls Tryz.prog 175 #[.int .u16 (a : Int), .int .u16 (b : Int)] w fun e w' => e = .returned (.int .u16 ((a ||| b : Nat) : Int)) ∧ w = w' := by
 have hor := or_u16 a b ha hb
 go_enter Tryz.func175, Tryz.ntmps175
 go_wp2
 go_ret
 exact ⟨rfl, rfl⟩

theorem inM_calls (a b : Nat) (w : World) (ha : a < 4096) (hb : b < 4096) :
  Calls Tryz.prog 239 #[.int .u16 (a : Int), .int .u16 (b : Int)] w fun e w' => e = .returned (.bool (inM a b)) ∧ w = w' := by
 have hlaw := andNot_u16 a b ha hb
 go_enter Tryz.func239, Tryz.ntmps239
 go_wp2_with (go_in)
 go_ret
 exact ⟨rfl, rfl⟩

set_option maxHeartbeats 1000000 in
theorem gives_calls {cs : List Value} {r : RuleD} {w : World} (m : Nat) (hm : m < 4096) (h : Rd.R w cs r) :
  Calls Tryz.prog 263 #[.agg cs.toArray, .int .u16 (m : Int)] w fun e w' => e = .returned (.int .u16 (givesM r m : Int)) ∧ Below w.heap.size w w' := by
 obtain ⟨c1, c4, rfl, hf, g1, g4⟩ := h
 obtain ⟨ah, kh, rfl, _, hh⟩ := g1.sl
 have tb : Below w.heap.size w (w.alloc (.cells #[.bool r.choice, .slice ah r.heads.length kh, .bool r.weight, .int .i64 r.bound, c4] 34)) := (Below.refl _ _).alloc (Nat.le_refl _) _
 have hhI := (hh.later tb).ints
 have hml := maskOf_lt r.heads
 have one4 := g4.one1
 clear g1 g4 hf hh
 cases hc : r.choice
 ·have hv := Lib.hid (givesM_F (m := m) hc)
  rw [hc] at tb hhI
  go_enter Tryz.func263, Tryz.ntmps263
  go_wp2_with (go_at_call 76; refine (atomsIn_calls _ _ _ _ hhI).mono ?_; rintro e w' ⟨rfl, rfl⟩)
  go_ret
  exact ⟨ret_int (by rw [hv.out]), tb⟩
 ·have hv := Lib.hid (givesM_T (m := m) hc)
  rw [hc] at tb hhI
  go_enter Tryz.func263, Tryz.ntmps263
  go_wp2_with (first | (go_at_call 76; refine (atomsIn_calls _ _ _ _ hhI).mono ?_; rintro e w' ⟨rfl, rfl⟩) | (go_at_call 183; refine (meet_calls _ _ _ hml hm).mono ?_; rintro e w' ⟨rfl, rfl⟩))
  go_ret
  exact ⟨ret_int (by rw [hv.out]), tb⟩

def natOf : Value → Nat
 | .int _ n => n.toNat
 | _ => 0

set_option maxHeartbeats 4000000 in
theorem made_calls {cs : List Value} {p : ProgD} {w : World} (xs : List Int) (all : Bool) (f : RuleD → RuleD) (ch mo : Nat) (hch : ch < 4096) (hmo : mo < 4096) (H : MoreOk p.rules xs all f ch mo) (h : Rd.R w cs p) (hok : ∀ r ∈ p.rules, ruleOkB r 12 = true) :
  Calls Tryz.prog 232 #[.agg cs.toArray, .int .u16 (maskOf xs : Int), .int .u16 (ch : Int), .int .u16 (mo : Int)] w fun e w' => ∃ m : Nat, e = .returned (.int .u16 (m : Int)) ∧ (m < 4096 ∧ mset m = leastL (p.rules.map f) xs all) ∧ Below w.heap.size w w' := by
 have hw := Lib.hid (wts_ok hok)
 have HOK := Lib.hid hok
 have hxl := maskOf_lt xs
 have HH := Lib.hid H
 clear H
 clear hok
 obtain ⟨c1, c2, c4, c5, c6, c7, rfl, hf, g1, g2, g4, g5, g6, g7⟩ := h
 obtain ⟨a1, k1, rfl, _, h1⟩ := g1.sl
 have hm1 := h1.1
 have CX := Cells.new w [.int .i64 p.atoms, .slice a1 p.rules.length k1, c2, .bool p.projOn, c4, c5, c6, c7] 30
 have tb : Below w.heap.size w (w.alloc (.cells #[.int .i64 p.atoms, .slice a1 p.rules.length k1, c2, .bool p.projOn, c4, c5, c6, c7] 30)) := (Below.refl _ _).alloc (Nat.le_refl _) _
 clear g1 g2 g4 g5 g6 g7 hf
 go_enter Tryz.func232, Tryz.ntmps232
 go_wp2
 have CX1 := Lib.hid CX
 have t1 := tb
 clear CX tb
 go_loopw [9] (fun s wo => ∃ m0 : Nat, s = .int .u16 (m0 : Int) ∧ Hid (MadeJ (p.rules.map f) xs all m0) ∧ Hid (Cells wo w.heap.size 0 [.int .i64 p.atoms, .slice a1 p.rules.length k1, c2, .bool p.projOn, c4, c5, c6, c7]) ∧ Below w.heap.size w wo) (fun s _ => 13 - (mset (natOf s)).length)
 case atStart => exact ⟨0, rfl, madeJ_zero, CX1, t1⟩
 case round =>
  obtain ⟨m0, rfl, hJ0, hX0, hb0⟩ := hrel
  obtain ⟨y0, y1, y2, y3, y4, y5, y6, y7⟩ := cells8 hX0.out
  have hm0 := hJ0.out.1
  clear CX1 t1
  go_wp2
  clear y0 y1 y2 y3 y4 y5 y6 y7
  go_loopw [9, 18] (fun s i wr => ∃ m k : Nat, k ≤ p.rules.length ∧ i = .int .i64 k ∧ s = .int .u16 (m : Int) ∧ Hid (MadeI (p.rules.map f) xs all m0 m k) ∧ Hid (Cells wr w.heap.size 0 [.int .i64 p.atoms, .slice a1 p.rules.length k1, c2, .bool p.projOn, c4, c5, c6, c7]) ∧ Below w.heap.size w wr) (fun _ i _ => p.rules.length - (intOf i).toNat)
  case atStart => exact ⟨m0, 0, Nat.zero_le _, rfl, rfl, madeI_start hJ0.out, hX0, hb0⟩
  case round =>
   obtain ⟨m, k, hk, rfl, rfl, hI0, hX, hb⟩ := hrel
   have hml := hI0.out.1.1
   have hsz := hb.size
   clear hX0 hb0
   by_cases hlt : k < p.rules.length
   ·obtain ⟨b, off, rfl, hc⟩ := h1.base (by omega)
    obtain ⟨ecs, hC, hR⟩ := hc k hlt
    have hC := hC.later hb
    have hR := Rd.mono hb hR
    have hok12 := HOK.out _ (nth_mem hlt)
    have hR0 := hR
    obtain ⟨d1, d4, rfl, hf', r1, r4⟩ := hR0
    obtain ⟨ah, kh, rfl, _, _⟩ := r1.sl
    obtain ⟨ab, kb, rfl, _, _⟩ := r4.sl
    have u0 := hC.c0
    have u1 := hC.c1
    have u2 := hC.c2
    have u3 := hC.c3
    have u4 := hC.c4
    rw [show Rd.k RuleD = 5 from rfl] at u0 u1 u2 u3 u4
    have hbA := hb.alloc hb.size (.cells #[.bool (nth p.rules k).choice, .slice ah (nth p.rules k).heads.length kh, .bool (nth p.rules k).weight, .int .i64 (nth p.rules k).bound, .slice ab (nth p.rules k).body.length kb] 34)
    have hXA := Lib.hid (hX.out.alloc (.cells #[.bool (nth p.rules k).choice, .slice ah (nth p.rules k).heads.length kh, .bool (nth p.rules k).weight, .int .i64 (nth p.rules k).bound, .slice ab (nth p.rules k).body.length kb] 34))
    have hCL := Lib.hid (Cells.new wr [.bool (nth p.rules k).choice, .slice ah (nth p.rules k).heads.length kh, .bool (nth p.rules k).weight, .int .i64 (nth p.rules k).bound, .slice ab (nth p.rules k).body.length kb] 34)
    have hR := Rd.mono ((Below.refl wr.heap.size wr).alloc (Nat.le_refl _) (.cells #[.bool (nth p.rules k).choice, .slice ah (nth p.rules k).heads.length kh, .bool (nth p.rules k).weight, .int .i64 (nth p.rules k).bound, .slice ab (nth p.rules k).body.length kb] 34)) hR
    have hgl := givesM_lt (nth p.rules k) ch
    have hml2 : givesM (nth p.rules k) ch &&& mo < 4096 := moreG_lt ch mo (nth p.rules k)
    clear hC hc hX r1 r4
    cases hI : inM (givesM (nth p.rules k) ch &&& mo) m
    ·have hI' := Lib.hid (show inM (moreG ch mo (nth p.rules k)) m = false from hI)
     have hRe : Hid (reachI (nth p.rules k) m (maskOf xs) = reachB (nth p.rules k) (h2B (mset m) xs)) := by
      show _ = _
      rw [← reachI_h2 hok12 (rd_rule hR), mask_mset hml]
     cases hB : reachB (nth p.rules k) (h2B (mset m) xs)
     ·have hS := Lib.hid (madeI_no HH.out hlt hI0.out hB)
      clear hI0
      go_wp2_with fail
      refine (gives_calls _ hch hR).mono ?_
      rintro e w2 ⟨rfl, b2⟩
      have hb2 := hbA.step b2
      have hX2 := Lib.hid (hXA.out.later b2)
      obtain ⟨z0, z1, z2, z3, z4⟩ := cells5 (hCL.out.later b2)
      go_wp2_with (first | (go_at_call 183; refine (meet_calls _ _ _ hgl hmo).mono ?_; rintro e w' ⟨rfl, rfl⟩) | (go_at_call 239; refine (inM_calls _ _ _ hml2 hml).mono ?_; rintro e w' ⟨he, rfl⟩; rw [hI] at he; subst he))
      refine (implReach2_calls m (maskOf xs) hml hxl (Rd.mono b2 hR) hok12).mono ?_
      rintro e w3 ⟨he, b3⟩
      rw [hRe.out, hB] at he
      subst he
      have hb3 := hb2.step b3
      have hX3 := Lib.hid (hX2.out.later b3)
      clear hB hI
      go_wp2
      go_roundw
      case rel => exact ⟨m, k + 1, by omega, by go_num, rfl, hS, hX3, hb3⟩
      case measure => simp [intOf]; omega
     ·have hS := Lib.hid (madeI_yes HH.out hw.out hlt hI0.out hI'.out hB)
      clear hI0
      go_wp2_with fail
      refine (gives_calls _ hch hR).mono ?_
      rintro e w2 ⟨rfl, b2⟩
      have hb2 := hbA.step b2
      have hX2 := Lib.hid (hXA.out.later b2)
      obtain ⟨z0, z1, z2, z3, z4⟩ := cells5 (hCL.out.later b2)
      go_wp2_with (first | (go_at_call 183; refine (meet_calls _ _ _ hgl hmo).mono ?_; rintro e w' ⟨rfl, rfl⟩) | (go_at_call 239; refine (inM_calls _ _ _ hml2 hml).mono ?_; rintro e w' ⟨he, rfl⟩; rw [hI] at he; subst he))
      refine (implReach2_calls m (maskOf xs) hml hxl (Rd.mono b2 hR) hok12).mono ?_
      rintro e w3 ⟨he, b3⟩
      rw [hRe.out, hB] at he
      subst he
      have hb3 := hb2.step b3
      have hX3 := Lib.hid (hX2.out.later b3)
      clear hB hI
      go_wp2_with (go_at_call 175; refine (joinN_calls _ _ _ hml hml2).mono ?_; rintro e w' ⟨rfl, rfl⟩)
      go_roundw
      case rel => exact ⟨m ||| moreG ch mo (nth p.rules k), k + 1, by omega, by go_num, rfl, hS, hX3, hb3⟩
      case measure => simp [intOf]; omega
    ·have hS := Lib.hid (madeI_in HH.out hlt hI0.out hI)
     clear hI0
     go_wp2_with fail
     refine (gives_calls _ hch hR).mono ?_
     rintro e w2 ⟨rfl, b2⟩
     have hb2 := hbA.step b2
     have hX2 := Lib.hid (hXA.out.later b2)
     obtain ⟨z0, z1, z2, z3, z4⟩ := cells5 (hCL.out.later b2)
     go_wp2_with (first | (go_at_call 183; refine (meet_calls _ _ _ hgl hmo).mono ?_; rintro e w' ⟨rfl, rfl⟩) | (go_at_call 239; refine (inM_calls _ _ _ hml2 hml).mono ?_; rintro e w' ⟨he, rfl⟩; rw [hI] at he; subst he))
     clear hI
     go_roundw
     case rel => exact ⟨m, k + 1, by omega, by go_num, rfl, hS, hX2, hb2⟩
     case measure => simp [intOf]; omega
   ·obtain rfl : k = p.rules.length := by omega
    by_cases he : m = m0
    ·subst he
     have hS := Lib.hid (madeI_end HH.out hw.out hI0.out)
     go_wp2
     go_ret
     exact ⟨m, rfl, ⟨hml, hS.out⟩, hb⟩
    ·have hne : ((m : Int) == (m0 : Int)) = false := by simp; omega
     have hL := madeI_less hI0.out hm0 he
     have hl12 := mset_len m
     clear he
     go_wp2
     go_roundw
     case rel => exact ⟨m, rfl, hI0.out.1, hX, hb⟩
     case measure => simp [natOf]; omega

end Go.Proofs.YthikhkeofcjdfaaGreat
