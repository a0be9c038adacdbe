/-
  Literals in the order of a body: what spec and the library's sort put there. No condition of its own.
-/
import Derived.Test.YtmndmhnhcoblnaaGreatRuleOk
import Derived.Test.YtmndmhnhcoblnaaGreatOwnR
import Derived.Test.YtmndmhnhcoblnaaGreatCopy
import Derived.Test.YtmndmhnhcoblnaaGreatBody
import Derived.IntWalk
import Derived.BigQuiet
import Derived.Deep.QuietTactic
import Derived.Sort.WalkA
import Derived.Shelf.GgSortFunc.RowK
import Derived.Test.YtmndmhnhcoblnaaGreatHolds
import Derived.Deep.DeepCutAuto
import Derived.Shelf.SlSortCmp.QuietGrown
import Derived.Shelf.SlSortCmp.InsertionK
import Derived.Shelf.SlGeneric
import Derived.Ground.SlsfProg
namespace Go.Proofs.YtmndmhnhcoblnaaGreat
open Go.RowKit
set_option maxRecDepth 100000

/-! ### TidyD -/
/-- The rank of a literal: by atoms, of one atom that without a '-' first. -/
def rankI (l : Int) : Int := if l < 0 then 2 * (-l) + 1 else 2 * l
theorem rank_inj {a b : Int} (h : rankI a = rankI b) : a = b := by
  unfold rankI at h
  split at h <;> split at h <;> omega
/-- The literals of each rank up to k, one behind the other. -/
def ordTo (xs : List (Int × Int)) : Nat → List (Int × Int)
  | 0 => []
  | k + 1 => ordTo xs k ++ (xs.filter (fun p => p.1 == (k : Int) + 1) ++ xs.filter (fun p => p.1 == -((k : Int) + 1)))
def ordL (xs : List (Int × Int)) : List (Int × Int) := ordTo xs 12
/-- Sorted by rank. -/
def Srt (ys : List (Int × Int)) : Prop := ys.Pairwise (fun a b => rankI a.1 ≤ rankI b.1)
def lits12 (xs : List (Int × Int)) : Prop := ∀ p ∈ xs, (1 ≤ p.1 ∧ p.1 ≤ 12) ∨ (-12 ≤ p.1 ∧ p.1 ≤ -1)

theorem ordTo_rank {xs : List (Int × Int)} : ∀ {k : Nat} {p : Int × Int}, p ∈ ordTo xs k → 2 ≤ rankI p.1 ∧ rankI p.1 ≤ 2 * (k : Int) + 1
  | 0, p, h => by simp [ordTo] at h
  | k + 1, p, h => by
    rcases List.mem_append.1 h with h | h
    · have := ordTo_rank h; omega
    · rcases List.mem_append.1 h with h | h
      · have h2 := (List.mem_filter.1 h).2
        have h2 : p.1 = (k : Int) + 1 := by simpa using h2
        unfold rankI; rw [h2]; split <;> omega
      · have h2 := (List.mem_filter.1 h).2
        have h2 : p.1 = -((k : Int) + 1) := by simpa using h2
        unfold rankI; rw [h2]; split <;> omega
theorem ordTo_srt (xs : List (Int × Int)) : ∀ k, Srt (ordTo xs k)
  | 0 => List.Pairwise.nil
  | k + 1 => by
    have eqF : ∀ l : Int, Srt (xs.filter (fun p => p.1 == l)) := fun l => by
      refine List.Pairwise.imp_of_mem (R := fun _ _ => True) (fun {a b} ha hb _ => ?_) (List.pairwise_of_forall (fun _ _ => trivial))
      have h1 : a.1 = l := by simpa using (List.mem_filter.1 ha).2
      have h2 : b.1 = l := by simpa using (List.mem_filter.1 hb).2
      rw [h1, h2]; exact Int.le_refl _
    refine List.pairwise_append.2 ⟨ordTo_srt xs k, List.pairwise_append.2 ⟨eqF _, eqF _, fun a ha b hb => ?_⟩, fun a ha b hb => ?_⟩
    · have h1 : a.1 = (k : Int) + 1 := by simpa using (List.mem_filter.1 ha).2
      have h2 : b.1 = -((k : Int) + 1) := by simpa using (List.mem_filter.1 hb).2
      rw [h1, h2]; unfold rankI; split <;> split <;> omega
    · have := ordTo_rank ha
      rcases List.mem_append.1 hb with hb | hb
      · have h2 : b.1 = (k : Int) + 1 := by simpa using (List.mem_filter.1 hb).2
        rw [h2]; unfold rankI at this ⊢; split <;> omega
      · have h2 : b.1 = -((k : Int) + 1) := by simpa using (List.mem_filter.1 hb).2
        rw [h2]; unfold rankI at this ⊢; split <;> omega

/-- One more literal goes behind those of no greater rank. -/
def loR (r : Int) (ys : List (Int × Int)) : List (Int × Int) := ys.filter (fun p => decide (rankI p.1 ≤ r))
def hiR (r : Int) (ys : List (Int × Int)) : List (Int × Int) := ys.filter (fun p => !decide (rankI p.1 ≤ r))
theorem loR_app (r : Int) (a b : List (Int × Int)) : loR r (a ++ b) = loR r a ++ loR r b := List.filter_append ..
theorem hiR_app (r : Int) (a b : List (Int × Int)) : hiR r (a ++ b) = hiR r a ++ hiR r b := List.filter_append ..
theorem loR_all {r : Int} {ys : List (Int × Int)} (h : ∀ p ∈ ys, rankI p.1 ≤ r) : loR r ys = ys := List.filter_eq_self.2 fun p hp => by simpa using h p hp
theorem hiR_all {r : Int} {ys : List (Int × Int)} (h : ∀ p ∈ ys, r < rankI p.1) : hiR r ys = ys := List.filter_eq_self.2 fun p hp => by have := h p hp; simpa using this
theorem loR_none {r : Int} {ys : List (Int × Int)} (h : ∀ p ∈ ys, r < rankI p.1) : loR r ys = [] := List.filter_eq_nil_iff.2 fun p hp => by have := h p hp; simpa using this
theorem hiR_none {r : Int} {ys : List (Int × Int)} (h : ∀ p ∈ ys, rankI p.1 ≤ r) : hiR r ys = [] := List.filter_eq_nil_iff.2 fun p hp => by have := h p hp; simpa using this
theorem filt_snoc (xs : List (Int × Int)) (x : Int × Int) (l : Int) : (xs ++ [x]).filter (fun p => p.1 == l) = xs.filter (fun p => p.1 == l) ++ (if x.1 = l then [x] else []) := by
  rw [List.filter_append]
  congr 1
  by_cases h : x.1 = l <;> simp [h]
theorem filt_rank {xs : List (Int × Int)} {l : Int} {p : Int × Int} (h : p ∈ xs.filter (fun p => p.1 == l)) : rankI p.1 = rankI l := by
  have : p.1 = l := by simpa using (List.mem_filter.1 h).2
  rw [this]
theorem rank_pos (k : Nat) : rankI ((k : Int) + 1) = 2 * (k : Int) + 2 := by unfold rankI; split <;> omega
theorem rank_neg (k : Nat) : rankI (-((k : Int) + 1)) = 2 * (k : Int) + 3 := by unfold rankI; split <;> omega
theorem ordTo_high {xs : List (Int × Int)} {x : Int × Int} : ∀ {k : Nat}, 2 * (k : Int) + 1 < rankI x.1 → ordTo (xs ++ [x]) k = ordTo xs k
  | 0, _ => rfl
  | k + 1, h => by
    have h1 : x.1 ≠ (k : Int) + 1 := fun e => by rw [e, rank_pos] at h; omega
    have h2 : x.1 ≠ -((k : Int) + 1) := fun e => by rw [e, rank_neg] at h; omega
    show ordTo (xs ++ [x]) k ++ _ = ordTo xs k ++ _
    rw [ordTo_high (by omega), filt_snoc, filt_snoc, if_neg h1, if_neg h2, List.append_nil, List.append_nil]
theorem ordTo_ins {xs : List (Int × Int)} {x : Int × Int} : ∀ {k : Nat}, 2 ≤ rankI x.1 → rankI x.1 ≤ 2 * (k : Int) + 1 → ordTo (xs ++ [x]) k = loR (rankI x.1) (ordTo xs k) ++ [x] ++ hiR (rankI x.1) (ordTo xs k)
  | 0, h1, h2 => by omega
  | k + 1, h1, h2 => by
    show ordTo (xs ++ [x]) k ++ _ = loR _ (ordTo xs k ++ _) ++ [x] ++ hiR _ (ordTo xs k ++ _)
    rw [filt_snoc, filt_snoc, loR_app, hiR_app, loR_app, hiR_app]
    by_cases hk : rankI x.1 ≤ 2 * (k : Int) + 1
    · have n1 : x.1 ≠ (k : Int) + 1 := fun e => by rw [e, rank_pos] at hk; omega
      have n2 : x.1 ≠ -((k : Int) + 1) := fun e => by rw [e, rank_neg] at hk; omega
      rw [ordTo_ins h1 hk, if_neg n1, if_neg n2, List.append_nil, List.append_nil]
      rw [loR_none (ys := xs.filter (fun p => p.1 == (k : Int) + 1)) (fun p hp => by rw [filt_rank hp, rank_pos]; omega), loR_none (ys := xs.filter (fun p => p.1 == -((k : Int) + 1))) (fun p hp => by rw [filt_rank hp, rank_neg]; omega)]
      rw [hiR_all (ys := xs.filter (fun p => p.1 == (k : Int) + 1)) (fun p hp => by rw [filt_rank hp, rank_pos]; omega), hiR_all (ys := xs.filter (fun p => p.1 == -((k : Int) + 1))) (fun p hp => by rw [filt_rank hp, rank_neg]; omega)]
      simp [List.append_assoc]
    · rw [ordTo_high (by omega), loR_all (ys := ordTo xs k) (fun p hp => by have := ordTo_rank hp; omega), hiR_none (ys := ordTo xs k) (fun p hp => by have := ordTo_rank hp; omega)]
      have hr : rankI x.1 = 2 * (k : Int) + 2 ∨ rankI x.1 = 2 * (k : Int) + 3 := by omega
      rcases hr with hr | hr
      · have e1 : x.1 = (k : Int) + 1 := rank_inj (by rw [hr, rank_pos])
        have e2 : x.1 ≠ -((k : Int) + 1) := by omega
        rw [if_pos e1, if_neg e2, List.append_nil, hr]
        rw [loR_all (ys := xs.filter (fun p => p.1 == (k : Int) + 1)) (fun p hp => by rw [filt_rank hp, rank_pos]; omega), loR_none (ys := xs.filter (fun p => p.1 == -((k : Int) + 1))) (fun p hp => by rw [filt_rank hp, rank_neg]; omega)]
        rw [hiR_none (ys := xs.filter (fun p => p.1 == (k : Int) + 1)) (fun p hp => by rw [filt_rank hp, rank_pos]; omega), hiR_all (ys := xs.filter (fun p => p.1 == -((k : Int) + 1))) (fun p hp => by rw [filt_rank hp, rank_neg]; omega)]
        simp [List.append_assoc]
      · have e2 : x.1 = -((k : Int) + 1) := rank_inj (by rw [hr, rank_neg])
        have e1 : x.1 ≠ (k : Int) + 1 := by omega
        rw [if_neg e1, if_pos e2, List.append_nil, hr]
        rw [loR_all (ys := xs.filter (fun p => p.1 == (k : Int) + 1)) (fun p hp => by rw [filt_rank hp, rank_pos]; omega), loR_all (ys := xs.filter (fun p => p.1 == -((k : Int) + 1))) (fun p hp => by rw [filt_rank hp, rank_neg]; omega)]
        rw [hiR_none (ys := xs.filter (fun p => p.1 == (k : Int) + 1)) (fun p hp => by rw [filt_rank hp, rank_pos]; omega), hiR_none (ys := xs.filter (fun p => p.1 == -((k : Int) + 1))) (fun p hp => by rw [filt_rank hp, rank_neg]; omega)]
        simp [List.append_assoc]
/-- Where a literal that is put in stops: all behind it are of a greater rank, the one ahead of it is not. -/
theorem ordL_put {xs : List (Int × Int)} {x : Int × Int} {j : Nat} (hx : (1 ≤ x.1 ∧ x.1 ≤ 12) ∨ (-12 ≤ x.1 ∧ x.1 ≤ -1)) (hj : j ≤ (ordL xs).length) (hb : ∀ p ∈ (ordL xs).drop j, rankI x.1 < rankI p.1) (ha : ∀ p ∈ (ordL xs).take j, rankI p.1 ≤ rankI x.1) :
    ordL (xs ++ [x]) = (ordL xs).take j ++ [x] ++ (ordL xs).drop j := by
  have hr : 2 ≤ rankI x.1 ∧ rankI x.1 ≤ 25 := by unfold rankI; split <;> omega
  have h := ordTo_ins (xs := xs) (x := x) (k := 12) hr.1 (by have := hr.2; simpa using this)
  unfold ordL
  rw [h]
  have e : ordTo xs 12 = (ordL xs).take j ++ (ordL xs).drop j := (List.take_append_drop j (ordL xs)).symm
  have e1 : loR (rankI x.1) (ordTo xs 12) = (ordL xs).take j := by rw [e, loR_app, loR_all ha, loR_none hb, List.append_nil]
  have e2 : hiR (rankI x.1) (ordTo xs 12) = (ordL xs).drop j := by rw [e, hiR_app, hiR_none ha, hiR_all hb, List.nil_append]
  rw [e1, e2]
  rfl
theorem ordL_srt (xs : List (Int × Int)) : Srt (ordL xs) := ordTo_srt xs 12

/-! ### Pair -/
/-- What a world keeps of another one below B, but for the blocks of D0 and block g. -/
structure Kp (B : Nat) (D0 : Nat → Prop) (g : Nat) (w w' : World) : Prop where
  os : w'.os = w.os
  tape : w'.tape = w.tape
  output : w'.output = w.output
  size : w.heap.size ≤ w'.heap.size
  block : ∀ k, k < B → ¬ D0 k → k ≠ g → w'.heap[k]? = w.heap[k]?
theorem Kp.refl (B : Nat) (D0 : Nat → Prop) (g : Nat) (w : World) : Kp B D0 g w w := ⟨rfl, rfl, rfl, Nat.le_refl _, fun _ _ _ _ => rfl⟩
theorem Kp.step {B : Nat} {D0 : Nat → Prop} {g : Nat} {w w' w'' : World} (h : Kp B D0 g w w') (hB : B ≤ w'.heap.size) (b : Below w'.heap.size w' w'') : Kp B D0 g w w'' :=
  ⟨b.os.trans h.os, b.tape.trans h.tape, b.output.trans h.output, Nat.le_trans h.size b.size, fun k h1 h2 h3 => (b.block k (by omega)).trans (h.block k h1 h2 h3)⟩
theorem Kp.set {B : Nat} {D0 : Nat → Prop} {g : Nat} {w w' : World} (h : Kp B D0 g w w') (o : Nat) (v : Value) : Kp B D0 g w (w'.setCell ⟨g, o, none⟩ v) :=
  ⟨h.os, h.tape, h.output, by simp [World.setCell]; exact h.size, fun k h1 h2 h3 => (Below.heap_setCell _ _ _ _ h3).trans (h.block k h1 h2 h3)⟩
theorem Kp.app {B : Nat} {D0 D : Nat → Prop} {g lo : Nat} {w w' w'' : World} (h : Kp B D0 g w w') (hB : B ≤ w'.heap.size) (hD : ∀ f, D f → D0 f ∨ B ≤ f) (b : Below lo w' w'') (hb : ∀ k, k < w'.heap.size → ¬ D k → w''.heap[k]? = w'.heap[k]?) : Kp B D0 g w w'' :=
  ⟨b.os.trans h.os, b.tape.trans h.tape, b.output.trans h.output, Nat.le_trans h.size b.size, fun k h1 h2 h3 => (hb k (by omega) fun hd => (hD k hd).elim h2 (by omega)).trans (h.block k h1 h2 h3)⟩
theorem Kp.below {B : Nat} {D0 : Nat → Prop} {g lo : Nat} {w w' : World} (h : Kp B D0 g w w') (hB : lo ≤ B) (hg : lo ≤ g) (hD : ∀ f, D0 f → lo ≤ f) : Below lo w w' :=
  ⟨h.os, h.tape, h.output, h.size, fun k hk => h.block k (by omega) (fun hd => by have := hD k hd; omega) (by omega)⟩

abbrev Pr := Int × Int
/-- A row of pairs of the call's own, nil or in a block of D. -/
def PRow (B : Nat) (D : Nat → Prop) (w : World) (v : Value) (xs : List Pr) : Prop := OwnF B 84 w v xs ∧ ∀ g, v.ownBlock = some g → D g
def encP (p : Pr) : List Value := [.int .i64 p.1, .int .i64 p.2]
theorem encP_len (xs : List Pr) : (xs.flatMap encP).length = xs.length * 2 := by
  induction xs with
  | nil => rfl
  | cons p r ih => rw [List.flatMap_cons, List.length_append, ih, List.length_cons]; simp [encP]; omega
theorem encP_0 {xs : List Pr} {i : Nat} (h : i < xs.length) : (xs.flatMap encP)[i * 2]? = some (.int .i64 (nth xs i).1) := by
  induction xs generalizing i with
  | nil => simp at h
  | cons p r ih =>
    cases i with
    | zero => rfl
    | succ i =>
      rw [List.flatMap_cons, List.getElem?_append_right (by simp [encP]; omega)]
      rw [show (i + 1) * 2 - (encP p).length = i * 2 by simp [encP]; omega]
      rw [ih (by simpa using h)]
      rfl
theorem encP_1 {xs : List Pr} {i : Nat} (h : i < xs.length) : (xs.flatMap encP)[i * 2 + 1]? = some (.int .i64 (nth xs i).2) := by
  induction xs generalizing i with
  | nil => simp at h
  | cons p r ih =>
    cases i with
    | zero => rfl
    | succ i =>
      rw [List.flatMap_cons, List.getElem?_append_right (by simp [encP]; omega)]
      rw [show (i + 1) * 2 + 1 - (encP p).length = i * 2 + 1 by simp [encP]; omega]
      rw [ih (by simpa using h)]
      rfl
theorem encP_set {xs : List Pr} {i : Nat} (W : Int) : ∀ (h : i < xs.length), (xs.flatMap encP).set (i * 2 + 1) (.int .i64 W) = (xs.set i ((nth xs i).1, W)).flatMap encP := by
  induction xs generalizing i with
  | nil => intro h; simp at h
  | cons p r ih =>
    intro h
    cases i with
    | zero => rfl
    | succ i =>
      rw [List.flatMap_cons, List.set_append_right _ _ (by simp [encP]; omega), List.set_cons_succ, List.flatMap_cons]
      rw [show (i + 1) * 2 + 1 - (encP p).length = i * 2 + 1 by simp [encP]; omega]
      rw [ih (by simpa using h)]
      rfl

theorem PRow.rd {B : Nat} {D : Nat → Prop} {w : World} {v : Value} {xs : List Pr} (h : PRow B D w v xs) : RdL w [v] xs := h.1.own.rd
theorem PRow.weak {B B' : Nat} {D D' : Nat → Prop} {w : World} {v : Value} {xs : List Pr} (h : PRow B D w v xs) (hB : B' ≤ B) (hD : ∀ f, D f → D' f) : PRow B' D' w v xs := by
  obtain ⟨⟨⟨h1, h2⟩, h3⟩, h4⟩ := h
  exact ⟨⟨⟨h1, h2.imp id fun ⟨g, cap, cur, e1, e2, r⟩ => ⟨g, cap, cur, e1, Nat.le_trans hB e2, r⟩⟩, h3⟩, fun g hg => hD g (h4 g hg)⟩
theorem PRow.lt {B : Nat} {D : Nat → Prop} {w : World} {v : Value} {xs : List Pr} (h : PRow B D w v xs) {g : Nat} (hg : v.ownBlock = some g) : B ≤ g ∧ g < w.heap.size := h.1.1.lt g hg
theorem PRow.bound {B : Nat} {D : Nat → Prop} {w : World} {v : Value} {xs : List Pr} (h : PRow B D w v xs) : PRow B (fun f => D f ∧ B ≤ f ∧ f < w.heap.size) w v xs := ⟨h.1, fun g hg => ⟨h.2 g hg, h.lt hg⟩⟩
theorem PRow.keep {B : Nat} {D : Nat → Prop} {w w' : World} {v : Value} {xs : List Pr} (h : PRow B D w v xs) (hk : ∀ g, D g → B ≤ g → g < w.heap.size → w'.heap[g]? = w.heap[g]?) : PRow B D w' v xs := by
  have hl := fun g => h.lt (g := g)
  obtain ⟨⟨⟨h1, h2⟩, h3⟩, h4⟩ := h
  refine ⟨⟨⟨h1, h2.imp id fun ⟨g, cap, cur, e1, e2, e3, r⟩ => ⟨g, cap, cur, e1, e2, ?_, r⟩⟩, h3⟩, h4⟩
  have hg : v.ownBlock = some g := by rw [e1]; rfl
  rw [hk g (h4 g hg) (hl g hg).1 (hl g hg).2]; exact e3
theorem PRow.later {B : Nat} {D : Nat → Prop} {w w' : World} {v : Value} {xs : List Pr} (h : PRow B D w v xs) (hb : Below w.heap.size w w') : PRow B D w' v xs := h.keep fun g _ _ hl => hb.block g hl
theorem PRow.fits {B : Nat} {D : Nat → Prop} {w : World} {v : Value} {xs : List Pr} (h : PRow B D w v xs) : ∀ p ∈ xs, Fits p.1 ∧ Fits p.2 := h.1.2
/-- Its form; its cells. -/
theorem PRow.form {B : Nat} {D : Nat → Prop} {w : World} {v : Value} {xs : List Pr} (h : PRow B D w v xs) :
    (v = .slice none 0 0 ∧ xs = []) ∨ ∃ g cap, v = .slice (some ⟨g, 0, none⟩) xs.length cap ∧ xs.length ≤ cap ∧ cap ≤ 9223372036854775807 ∧ D g ∧ B ≤ g ∧ g < w.heap.size := by
  have hl := fun g => h.lt (g := g)
  obtain ⟨⟨⟨h1, h2⟩, h3⟩, h4⟩ := h
  rcases h2 with ⟨rfl, hn⟩ | ⟨g, cap, cur, rfl, hg, hh, hnc, hcm, _⟩
  · exact .inl ⟨rfl, List.eq_nil_of_length_eq_zero hn⟩
  · exact .inr ⟨g, cap, rfl, hnc, by unfold maxLen at hcm; omega, h4 g rfl, (hl g rfl).1, (hl g rfl).2⟩
theorem PRow.cell {B : Nat} {D : Nat → Prop} {w : World} {g cap n : Nat} {xs : List Pr} (h : PRow B D w (.slice (some ⟨g, 0, none⟩) n cap) xs) {i : Nat} (hi : i < xs.length) :
    w.cell? ⟨g, i * 2, none⟩ = some (.int .i64 (nth xs i).1) ∧ w.cell? ⟨g, i * 2 + 1, none⟩ = some (.int .i64 (nth xs i).2) := by
  have hr : w.ownsRow B 84 2 (.slice (some ⟨g, 0, none⟩) n cap) xs.length (xs.flatMap encP) := h.1.1
  have hn : n = xs.length := by
    rcases hr.2 with ⟨h, _⟩ | ⟨_, _, _, h, _⟩
    · cases h
    · cases h; rfl
  subst hn
  exact ⟨by rw [hr.cellAt _ (by omega), encP_0 hi], by rw [hr.cellAt _ (by omega), encP_1 hi]⟩
theorem PRow.frozen {B : Nat} {D : Nat → Prop} {w : World} {g cap n : Nat} {xs : List Pr} (h : PRow B D w (.slice (some ⟨g, 0, none⟩) n cap) xs) (j : Nat) : w.frozen? ⟨g, j, none⟩ = false := by
  rcases h.1.1.2 with ⟨h, _⟩ | ⟨g', cap', cur, h, _, hh, _⟩
  · cases h
  · cases h
    exact frozen_of_row w g j _ _ hh
/-- A W is written. -/
theorem PRow.setW {B : Nat} {D : Nat → Prop} {w : World} {g cap n : Nat} {xs : List Pr} (h : PRow B D w (.slice (some ⟨g, 0, none⟩) n cap) xs) {i : Nat} (hi : i < xs.length) {W : Int} (hW : Fits W) :
    PRow B D (w.setCell ⟨g, i * 2 + 1, none⟩ (.int .i64 W)) (.slice (some ⟨g, 0, none⟩) n cap) (xs.set i ((nth xs i).1, W)) := by
  obtain ⟨⟨⟨h1, h2⟩, h3⟩, h4⟩ := h
  have hlen : (xs.set i ((nth xs i).1, W)).length = xs.length := List.length_set ..
  have h1 : (xs.flatMap encP).length = xs.length * 2 := h1
  refine ⟨⟨⟨?_, ?_⟩, ?_⟩, h4⟩
  · show ((xs.set i ((nth xs i).1, W)).flatMap encP).length = _ * 2
    exact encP_len _
  · rcases h2 with ⟨h2, _⟩ | ⟨g', cap', cur, he, hg, hh, hnc, hcm, hcs, ht⟩
    · cases h2
    · cases he
      have ht : cur.toList.take (xs.length * 2) = xs.flatMap encP := ht
      refine .inr ⟨g, cap, cur.setIfInBounds (i * 2 + 1) (.int .i64 W), by rw [hlen], hg, heap_setCell_same w g (i * 2 + 1) cur _ _ hh, by rw [hlen]; exact hnc, hcm, by simpa using hcs, ?_⟩
      show (cur.setIfInBounds (i * 2 + 1) (.int .i64 W)).toList.take ((xs.set i ((nth xs i).1, W)).length * 2) = (xs.set i ((nth xs i).1, W)).flatMap encP
      rw [hlen, Array.toList_setIfInBounds, List.take_set, ht]
      exact encP_set W hi
  · intro p hp
    rcases List.mem_or_eq_of_mem_set hp with hp | rfl
    · exact h3 p hp
    · exact ⟨(h3 _ (nth_mem hi)).1, hW⟩

theorem PRow.made {B : Nat} {D : Nat → Prop} {w : World} {g : Nat} {v : Value} (h : w.ownsRow B 84 2 v 0 []) (hD : ∀ g, v.ownBlock = some g → D g) : PRow B D w v [] := ⟨⟨h, by simp⟩, hD⟩
theorem PRow.lit (w : World) (D : Nat → Prop) (hD : D w.heap.size) : PRow w.heap.size D (w.alloc (.cells #[] 84)) (.slice (some ⟨w.heap.size, 0, none⟩) 0 0) [] :=
  ⟨OwnF.new w (Nat.le_refl _), fun g hg => by simp [Value.ownBlock] at hg; exact hg ▸ hD⟩
theorem PRow.nil (B : Nat) (D : Nat → Prop) (w : World) : PRow B D w (.slice none 0 0) [] := ⟨⟨World.ownsRow_nil _ _ _ _, by simp⟩, fun g hg => by simp [Value.ownBlock] at hg⟩

theorem PRow.append {P : Program} {w : World} {B : Nat} {D : Nat → Prop} {t ty : TypeId} {v : Value} {xs : List Pr} {p : Pr} {g c : Nat}
    (i : TypeInfo) (z : Value) (ht : P.underlying t = some (.slice 84)) (hi : P.info? 84 = some i) (hz : i.zero = some z) (hsize : i.size = 2) (hby : i.bytes = 16) (hzs : z.cells.size = 2)
    (hown : PRow B D w v xs) (hc : Cells w g 0 [.int .i64 p.1, .int .i64 p.2]) (hf : Fits p.1 ∧ Fits p.2) (hl : xs.length ≤ 1000000) (hB : B ≤ w.heap.size) :
    ∃ v' w', (Builtin.append_ #[t, t] ty #[v, .slice (some ⟨g, 0, none⟩) 1 c]).run P w = .ok v' w' ∧ PRow B (fun f => D f ∨ w.heap.size ≤ f) w' v' (xs ++ [p]) ∧ Below B w w' ∧ (∀ k, k < w.heap.size → ¬ D k → w'.heap[k]? = w.heap[k]?) := by
  obtain ⟨⟨hr, hok⟩, hD⟩ := hown
  obtain ⟨v', w', r1, r2, r3, _, r5⟩ := run_append_own_at (P := P) w B t ty 84 i z 2 16 ht hi hz hsize hby hzs (by decide) v xs.length (xs.flatMap encP) hr ⟨g, 0, none⟩ 1 c (encP p) rfl (fun j u hu => by
    have := hc j u hu
    rw [Nat.zero_add] at this
    unfold Addr.add
    by_cases e : j = 0
    · subst e; exact this
    · rw [if_neg e]; rw [show ({ block := g, off := 0 + j } : Addr) = ⟨g, j, none⟩ by simp]; exact this) (fun u hu => by simp [encP] at hu; rcases hu with rfl | rfl <;> rfl) (by unfold maxLen; omega) (by omega) hB
  refine ⟨v', w', r1, ⟨⟨?_, ?_⟩, fun f hf => ?_⟩, (Below.refl _ _).grown r3 hB fun k hk => (hr.lt k hk).1, fun k hk hd => r3.block k hk fun e => hd (hD k e.symm)⟩
  · rw [List.length_append, List.flatMap_append]
    exact r2
  · intro q hq
    rcases List.mem_append.1 hq with hq | hq
    · exact hok q hq
    · rw [List.mem_singleton.1 hq]; exact hf
  · rcases r5 with r5 | r5
    · exact .inl (hD f (r5 ▸ hf))
    · rw [r5] at hf; exact .inr (by have := Option.some.inj hf; omega)

/-! ### TidyS -/
/-- A body whose literals are atoms' and whose W are ones of a rule. -/
def WOk (xs : List (Int × Int)) : Prop := xs.length ≤ 20 ∧ ∀ p ∈ xs, ((1 ≤ p.1 ∧ p.1 ≤ 12) ∨ (-12 ≤ p.1 ∧ p.1 ≤ -1)) ∧ 1 ≤ p.2 ∧ p.2 ≤ 1000
theorem WOk.w {xs : List (Int × Int)} (h : WOk xs) : ∀ p ∈ xs, 1 ≤ p.2 ∧ p.2 ≤ 1000 := fun p hp => (h.2 p hp).2

set_option maxHeartbeats 1000000 in
theorem l04Sum_calls {v : Value} {xs : List (Int × Int)} {w : World} (l : Int) (h : RdL w [v] xs) (hw : WOk xs) :
    Calls Tryz.prog 51 #[v, .int .i64 l] w fun e w' => e = .returned (.int .i64 (sumH (fun p => p.1 != l) xs)) ∧ w = w' := by
  obtain ⟨a, cap, rfl, _, h⟩ := h.sl
  have hm := h.1
  have hl := hw.1
  have HW := Lib.hid hw
  clear hw
  go_enter Tryz.func51, Tryz.ntmps51
  go_wp2
  go_loop [5, 6] (fun s i => ∃ k : Nat, k ≤ xs.length ∧ i = .int .i64 k ∧ s = .int .i64 (sumH (fun p => p.1 != l) (xs.take k))) (fun _ i => xs.length - (intOf i).toNat)
  case atStart => exact ⟨0, Nat.zero_le _, rfl, rfl⟩
  case round =>
    obtain ⟨k, hk, rfl, rfl⟩ := hrel
    have hsb := sumH_take_bd (f := fun p => p.1 != l) k HW.out.w hl
    obtain ⟨sv, hsv⟩ : ∃ sv, sv = sumH (fun p => p.1 != l) (xs.take k) := ⟨_, rfl⟩
    rw [← hsv] at hsb ⊢
    obtain ⟨hs0, hs1⟩ := hsb
    by_cases hlt : k < xs.length
    · obtain ⟨b, off, rfl, hc⟩ := h.base (by omega)
      obtain ⟨ecs, hC, rfl, hf1, hf2⟩ := hc k hlt
      have hpw := HW.out.w _ (nth_mem hlt)
      obtain ⟨hp0, hp1⟩ := hpw
      have u0 := hC.c0
      have u1 := hC.c1
      rw [show Rd.k (Int × Int) = 2 from rfl] at u0 u1
      cases hd : ((nth xs k).1 != l)
      · have hn := Lib.hid (hsv.trans (sumH_no (f := fun p => p.1 != l) hlt hd).symm)
        clear hC hc h hsv
        go_wp2
        go_round
        case rel => exact ⟨k + 1, by omega, by go_num, by rw [← hn.out]⟩
        case measure => simp [intOf]; omega
      · have hn0 : sv + (nth xs k).2 = sumH (fun p => p.1 != l) (xs.take (k + 1)) := by rw [sumH_yes (f := fun p => p.1 != l) hlt hd, hsv]
        have hn := Lib.hid hn0
        clear hn0
        clear hC hc h hsv
        go_wp2
        go_round
        case rel => exact ⟨k + 1, by omega, by go_num, by rw [← hn.out]⟩
        case measure => simp [intOf]; omega
    · have he := Lib.hid (hsv.trans (sumH_end (f := fun p => p.1 != l) (l := xs) (k := k) (by omega)))
      clear hsv h
      go_wp2
      go_ret
      exact ⟨ret_int he.out, rfl⟩

theorem filt_yes {xs : List (Int × Int)} {k : Nat} {l : Int} (hk : k < xs.length) (h : ((nth xs k).1 == l) = true) : (xs.take (k + 1)).filter (fun p => p.1 == l) = (xs.take k).filter (fun p => p.1 == l) ++ [nth xs k] := by
  rw [take_nth hk, List.filter_append]; simp [h]
theorem filt_no {xs : List (Int × Int)} {k : Nat} {l : Int} (hk : k < xs.length) (h : ((nth xs k).1 == l) = false) : (xs.take (k + 1)).filter (fun p => p.1 == l) = (xs.take k).filter (fun p => p.1 == l) := by
  rw [take_nth hk, List.filter_append]; simp [h]
theorem filt_len (xs : List (Int × Int)) (k : Nat) (l : Int) : ((xs.take k).filter (fun p => p.1 == l)).length ≤ xs.length :=
  Nat.le_trans (List.length_filter_le _ _) (by rw [List.length_take]; omega)
theorem ordTo_len (xs : List (Int × Int)) : ∀ k, (ordTo xs k).length ≤ 2 * k * xs.length
  | 0 => by simp [ordTo]
  | k + 1 => by
    have ih := ordTo_len xs k
    have h1 := List.length_filter_le (fun p : Int × Int => p.1 == (k : Int) + 1) xs
    have h2 := List.length_filter_le (fun p : Int × Int => p.1 == -((k : Int) + 1)) xs
    show (ordTo xs k ++ (_ ++ _)).length ≤ _
    rw [List.length_append, List.length_append]
    have e : 2 * (k + 1) * xs.length = 2 * k * xs.length + (xs.length + xs.length) := by rw [Nat.mul_add, Nat.add_mul]; omega
    omega

def midL (xs : List (Int × Int)) (a k : Nat) : List (Int × Int) := if k = 0 then ordTo xs a else if k = 1 then ordTo xs a ++ xs.filter (fun p => p.1 == (a : Int) + 1) else ordTo xs (a + 1)
set_option maxHeartbeats 4000000 in
theorem l04Ordered_calls {v : Value} {xs : List (Int × Int)} {w : World} (h : RdL w [v] xs) (hl : xs.length ≤ 1000) :
    Calls Tryz.prog 53 #[v] w fun e w' => ∃ v', e = .returned v' ∧ PRow w.heap.size (fun f => w.heap.size ≤ f) w' v' (ordL xs) ∧ Below w.heap.size w w' := by
  obtain ⟨a, cap, rfl, _, h⟩ := h.sl
  obtain ⟨i0, hi, hz0, hz1, hz2⟩ := info_parts info_cloneWLit
  have hm := h.1
  have hmade : PRow w.heap.size (fun f => w.heap.size ≤ f) (w.alloc (.cells #[] 84)) (.slice (some ⟨w.heap.size, 0, none⟩) 0 0) [] :=
    PRow.lit w _ (Nat.le_refl _)
  have hbel : Below w.heap.size w (w.alloc (.cells #[] 84)) := (Below.refl _ _).alloc (Nat.le_refl _) _
  go_enter Tryz.func53, Tryz.ntmps53
  go_wp2
  go_loopw [3, 4] (fun v i wr => ∃ a : Nat, a ≤ 12 ∧ i = .int .i64 ((a : Int) + 1) ∧ PRow w.heap.size (fun f => w.heap.size ≤ f) wr v (ordTo xs a) ∧ Below w.heap.size w wr) (fun _ i _ => 13 - (intOf i).toNat)
  case atStart => exact ⟨0, by omega, rfl, hmade, hbel⟩
  case round =>
    obtain ⟨a, ha, rfl, ho, hb⟩ := hrel
    clear hmade hbel
    have hsz := hb.size
    by_cases hlt : a < 12
    · have han : (a : Int) ≤ 12 := by omega
      have hab : decide ((a : Int) + 1 ≤ 12) = true := by simp; omega
      have hal := (Below.refl wr.heap.size wr).alloc (Nat.le_refl _) (.cells #[.int .i64 ((a : Int) + 1), .int .i64 (-((a : Int) + 1))] 3)
      have hgM := alloc_block wr #[.int .i64 ((a : Int) + 1), .int .i64 (-((a : Int) + 1))] 3
      have hoM := (ho.bound.weak (Nat.le_refl _) (D' := fun f => w.heap.size ≤ f ∧ f ≠ wr.heap.size) fun f hf => ⟨hf.1, by omega⟩).later hal
      have hbM := hb.alloc hsz (.cells #[.int .i64 ((a : Int) + 1), .int .i64 (-((a : Int) + 1))] 3)
      have hol := ordTo_len xs a
      have hol2 : 2 * a * xs.length ≤ 24 * 1000 := Nat.mul_le_mul (by omega) hl
      have hfl := List.length_filter_le (fun p : Int × Int => p.1 == (a : Int) + 1) xs
      clear ho hb hal
      obtain ⟨wo, rfl⟩ : ∃ wo : World, wo = wr := ⟨_, rfl⟩
      go_wp2
      go_loopw [3, 18] (fun v i wr => ∃ (k : Nat) (z : Int), k ≤ 2 ∧ z = (k : Int) ∧ i = .int .i64 z ∧ PRow w.heap.size (fun f => w.heap.size ≤ f ∧ f ≠ wo.heap.size) wr v (midL xs a k) ∧ wr.heap[wo.heap.size]? = some (.cells #[.int .i64 ((a : Int) + 1), .int .i64 (-((a : Int) + 1))] 3 (0, 0)) ∧ Below w.heap.size w wr) (fun _ i _ => 2 - (intOf i).toNat)
      case atStart => exact ⟨0, 0, by omega, rfl, rfl, hoM, hgM, hbM⟩
      case round =>
        clear hoM hgM hbM
        obtain ⟨k, z, hk, hz, rfl, hoM, hgM, hbM⟩ := hrel
        obtain ⟨wm, rfl⟩ : ∃ wm : World, wm = wr := ⟨_, rfl⟩
        rcases (show k = 0 ∨ k = 1 ∨ k = 2 by omega) with rfl | rfl | rfl
        · obtain rfl : z = (0 : Int) := hz
          have c0 : wm.cell? ⟨wo.heap.size, 0, none⟩ = some (.int .i64 ((a : Int) + 1)) := by rw [cell_of_row wm wo.heap.size 0 _ _ _ hgM]; rfl
          rw [show midL xs a 0 = ordTo xs a from rfl] at hoM
          go_wp2
          go_loopw [3, 7] (fun v i wr => ∃ k : Nat, k ≤ xs.length ∧ i = .int .i64 k ∧ PRow w.heap.size (fun f => w.heap.size ≤ f ∧ f ≠ wo.heap.size) wr v (ordTo xs a ++ (xs.take k).filter (fun p => p.1 == (a : Int) + 1)) ∧ wr.heap[wo.heap.size]? = some (.cells #[.int .i64 ((a : Int) + 1), .int .i64 (-((a : Int) + 1))] 3 (0, 0)) ∧ Below w.heap.size w wr) (fun _ i _ => xs.length - (intOf i).toNat)
          case atStart => exact ⟨0, Nat.zero_le _, rfl, by simpa using hoM, hgM, hbM⟩
          case round =>
            clear c0 hoM hgM hbM
            obtain ⟨k, hk, rfl, ho, hg2, hb⟩ := hrel
            have hsz := hb.size
            have hg2l := block_lt hg2
            by_cases hlt : k < xs.length
            · obtain ⟨b, off, rfl, hc⟩ := h.base (by omega)
              obtain ⟨ecs, hC, rfl, hf1, hf2⟩ := hc k hlt
              have hC := hC.later hb
              have u0 := hC.c0
              have u1 := hC.c1
              rw [show Rd.k (Int × Int) = 2 from rfl] at u0 u1
              have hflen := filt_len xs k ((a : Int) + 1)
              cases hd : ((nth xs k).1 == (a : Int) + 1)
              · have hn := Lib.hid (filt_no hlt hd)
                clear hC hc hflen
                go_wp2
                go_roundw
                case rel => exact ⟨k + 1, by omega, by go_num, by rw [hn.out]; exact ho, hg2, hb⟩
                case measure => simp [intOf]; omega
              · have hn := Lib.hid (filt_yes hlt hd)
                have hbA := (Below.refl wr.heap.size wr).alloc (Nat.le_refl _) (.cells #[.int .i64 (nth xs k).1, .int .i64 (nth xs k).2] 84)
                have hcn := Cells.new wr [.int .i64 (nth xs k).1, .int .i64 (nth xs k).2] 84
                obtain ⟨v4, w4, r4, o4, b4, k4⟩ := PRow.append (P := Tryz.prog) (t := 47) (ty := 47) (c := 1) i0 _ Tryz.underlying47 hi hz0 hz1 hz2 rfl (ho.later hbA) hcn ⟨hf1, hf2⟩ (by rw [List.length_append]; omega) (by simp; omega)
                have o4' := Lib.hid (o4.weak (Nat.le_refl _) (D' := fun f => w.heap.size ≤ f ∧ f ≠ wo.heap.size) fun f hf => by
                  rcases hf with hf | hf
                  · exact hf
                  · rw [World.size_alloc] at hf; omega)
                have g4 := Lib.hid (((k4 wo.heap.size (by simp; omega) (fun hd => hd.2 rfl)).trans (hbA.block wo.heap.size hg2l)).trans hg2)
                have hb4 := Lib.hid ((hb.alloc hsz (.cells #[.int .i64 (nth xs k).1, .int .i64 (nth xs k).2] 84)).trans b4)
                clear hC hc hflen o4 b4 k4 hbA hcn ho hg2
                go_wp2_with (at_builtin; refine wpList_append_of rfl _ _ rfl rfl rfl r4 ?_)
                go_roundw
                case rel => exact ⟨k + 1, by omega, by go_num, by rw [hn.out, ← List.append_assoc]; exact o4'.out, g4.out, hb4.out⟩
                case measure => simp [intOf]; omega
            · have hkx : Hid (xs.take k = xs) := List.take_of_length_le (by omega)
              rw [hkx.out] at ho
              go_wp2
              go_roundw
              case rel => exact ⟨1, 1, by omega, rfl, rfl, ho, hg2, hb⟩
              case measure => simp [intOf]
        · obtain rfl : z = (1 : Int) := hz
          have c0 : wm.cell? ⟨wo.heap.size, 1, none⟩ = some (.int .i64 (-((a : Int) + 1))) := by rw [cell_of_row wm wo.heap.size 1 _ _ _ hgM]; rfl
          rw [show midL xs a 1 = ordTo xs a ++ xs.filter (fun p => p.1 == (a : Int) + 1) from rfl] at hoM
          have hfl2 : (ordTo xs a ++ xs.filter (fun p => p.1 == (a : Int) + 1)).length ≤ 25000 := by rw [List.length_append]; omega
          go_wp2
          go_loopw [3, 7] (fun v i wr => ∃ k : Nat, k ≤ xs.length ∧ i = .int .i64 k ∧ PRow w.heap.size (fun f => w.heap.size ≤ f ∧ f ≠ wo.heap.size) wr v ((ordTo xs a ++ xs.filter (fun p => p.1 == (a : Int) + 1)) ++ (xs.take k).filter (fun p => p.1 == -((a : Int) + 1))) ∧ wr.heap[wo.heap.size]? = some (.cells #[.int .i64 ((a : Int) + 1), .int .i64 (-((a : Int) + 1))] 3 (0, 0)) ∧ Below w.heap.size w wr) (fun _ i _ => xs.length - (intOf i).toNat)
          case atStart => exact ⟨0, Nat.zero_le _, rfl, by simpa using hoM, hgM, hbM⟩
          case round =>
            clear c0 hoM hgM hbM
            obtain ⟨k, hk, rfl, ho, hg2, hb⟩ := hrel
            have hsz := hb.size
            have hg2l := block_lt hg2
            by_cases hlt : k < xs.length
            · obtain ⟨b, off, rfl, hc⟩ := h.base (by omega)
              obtain ⟨ecs, hC, rfl, hf1, hf2⟩ := hc k hlt
              have hC := hC.later hb
              have u0 := hC.c0
              have u1 := hC.c1
              rw [show Rd.k (Int × Int) = 2 from rfl] at u0 u1
              have hflen := filt_len xs k (-((a : Int) + 1))
              cases hd : ((nth xs k).1 == -((a : Int) + 1))
              · have hn := Lib.hid (filt_no hlt hd)
                clear hC hc hflen
                go_wp2
                go_roundw
                case rel => exact ⟨k + 1, by omega, by go_num, by rw [hn.out]; exact ho, hg2, hb⟩
                case measure => simp [intOf]; omega
              · have hn := Lib.hid (filt_yes hlt hd)
                have hbA := (Below.refl wr.heap.size wr).alloc (Nat.le_refl _) (.cells #[.int .i64 (nth xs k).1, .int .i64 (nth xs k).2] 84)
                have hcn := Cells.new wr [.int .i64 (nth xs k).1, .int .i64 (nth xs k).2] 84
                obtain ⟨v4, w4, r4, o4, b4, k4⟩ := PRow.append (P := Tryz.prog) (t := 47) (ty := 47) (c := 1) i0 _ Tryz.underlying47 hi hz0 hz1 hz2 rfl (ho.later hbA) hcn ⟨hf1, hf2⟩ (by rw [List.length_append]; omega) (by simp; omega)
                have o4' := Lib.hid (o4.weak (Nat.le_refl _) (D' := fun f => w.heap.size ≤ f ∧ f ≠ wo.heap.size) fun f hf => by
                  rcases hf with hf | hf
                  · exact hf
                  · rw [World.size_alloc] at hf; omega)
                have g4 := Lib.hid (((k4 wo.heap.size (by simp; omega) (fun hd => hd.2 rfl)).trans (hbA.block wo.heap.size hg2l)).trans hg2)
                have hb4 := Lib.hid ((hb.alloc hsz (.cells #[.int .i64 (nth xs k).1, .int .i64 (nth xs k).2] 84)).trans b4)
                clear hC hc hflen o4 b4 k4 hbA hcn ho hg2
                go_wp2_with (at_builtin; refine wpList_append_of rfl _ _ rfl rfl rfl r4 ?_)
                go_roundw
                case rel => exact ⟨k + 1, by omega, by go_num, by rw [hn.out, ← List.append_assoc]; exact o4'.out, g4.out, hb4.out⟩
                case measure => simp [intOf]; omega
            · have hkx : Hid (xs.take k = xs) := List.take_of_length_le (by omega)
              rw [hkx.out] at ho
              go_wp2
              go_roundw
              case rel => exact ⟨2, 2, by omega, rfl, rfl, by rw [List.append_assoc] at ho; exact ho, hg2, hb⟩
              case measure => simp [intOf]
        · obtain rfl : z = (2 : Int) := hz
          rw [show midL xs a 2 = ordTo xs (a + 1) from rfl] at hoM
          have hoN := Lib.hid (hoM.weak (Nat.le_refl _) (D' := fun f => w.heap.size ≤ f) fun f hf => hf.1)
          clear hoM
          go_wp2
          go_roundw
          case rel => exact ⟨a + 1, by omega, by go_num, hoN.out, hbM⟩
          case measure => simp [intOf]; omega
    · obtain rfl : a = 12 := by omega
      go_wp2
      go_ret
      exact ⟨_, rfl, ho, hb⟩

/-- Each literal once, with a W of 1. -/
def newB (ys : List (Int × Int)) (k : Nat) : Bool := decide (k = 0) || ((nth ys k).1 != (nth ys (k - 1)).1)
def onceTo (ys : List (Int × Int)) : Nat → List (Int × Int)
  | 0 => []
  | k + 1 => if newB ys k then onceTo ys k ++ [((nth ys k).1, 1)] else onceTo ys k
theorem onceTo_yes {ys : List (Int × Int)} {k : Nat} (h : newB ys k = true) : onceTo ys (k + 1) = onceTo ys k ++ [((nth ys k).1, 1)] := by simp [onceTo, h]
theorem onceTo_no {ys : List (Int × Int)} {k : Nat} (h : newB ys k = false) : onceTo ys (k + 1) = onceTo ys k := by simp [onceTo, h]
theorem onceTo_len (ys : List (Int × Int)) : ∀ k, (onceTo ys k).length ≤ k
  | 0 => by simp [onceTo]
  | k + 1 => by
    have := onceTo_len ys k
    unfold onceTo
    split
    · rw [List.length_append, List.length_singleton]; omega
    · omega
def onceL (xs : List (Int × Int)) : List (Int × Int) := onceTo (ordL xs) (ordL xs).length

set_option maxHeartbeats 4000000 in
theorem l04Once_calls {v : Value} {xs : List (Int × Int)} {w : World} (h : RdL w [v] xs) (hl : xs.length ≤ 1000) :
    Calls Tryz.prog 54 #[v] w fun e w' => ∃ v', e = .returned v' ∧ PRow w.heap.size (fun f => w.heap.size ≤ f) w' v' (onceL xs) ∧ Below w.heap.size w w' := by
  obtain ⟨i0, hi, hz0, hz1, hz2⟩ := info_parts info_cloneWLit
  have hbel : Below w.heap.size w (w.alloc (.cells #[] 84)) := (Below.refl _ _).alloc (Nat.le_refl _) _
  have hmade := PRow.lit w (fun f => f = w.heap.size) rfl
  have hol : (ordL xs).length ≤ 24000 := Nat.le_trans (ordTo_len xs 12) (Nat.mul_le_mul_left _ hl)
  obtain ⟨a, cap, rfl, _⟩ := h.sl
  go_enter Tryz.func54, Tryz.ntmps54
  go_wp2_with fail
  refine (l04Ordered_calls (Rd.mono (α := List (Int × Int)) hbel h) hl).mono ?_
  rintro e w2 ⟨v2, rfl, o2, b2⟩
  have hmade := hmade.later b2
  have t2 := hbel.step b2
  have z2 := b2.size
  rw [World.size_alloc] at o2 z2
  obtain ⟨ys, hys⟩ : ∃ ys, ys = ordL xs := ⟨_, rfl⟩
  rw [← hys] at o2 hol
  have HY := Lib.hid hys
  clear hys h hbel b2
  have hlY : (ys.length : Int) ≤ 24000 := by omega
  obtain ⟨ay, cy, rfl, hyC⟩ : ∃ ay cy, v2 = .slice ay ys.length cy ∧ (0 < ys.length → ∃ gy, ay = some ⟨gy, 0, none⟩ ∧ w.heap.size < gy ∧ gy < w2.heap.size ∧ ∀ i, i < ys.length → w2.cell? ⟨gy, i * 2, none⟩ = some (.int .i64 (nth ys i).1)) := by
    rcases o2.form with ⟨rfl, rfl⟩ | ⟨g, c, rfl, _, _, hD, hB, hlt⟩
    · exact ⟨none, 0, rfl, fun h => by simp at h⟩
    · exact ⟨_, c, rfl, fun _ => ⟨g, rfl, by omega, hlt, fun i hi => (o2.cell hi).1⟩⟩
  have hyF := o2.fits
  clear o2
  go_wp2
  go_loopw [3, 5] (fun v i wr => ∃ k : Nat, k ≤ ys.length ∧ i = .int .i64 k ∧ PRow w.heap.size (fun f => f = w.heap.size ∨ w2.heap.size ≤ f) wr v (onceTo ys k) ∧ Kp w2.heap.size (fun _ => False) w.heap.size w2 wr) (fun _ i _ => ys.length - (intOf i).toNat)
  case atStart => exact ⟨0, Nat.zero_le _, rfl, hmade.weak (Nat.le_refl _) fun f hf => .inl hf, Kp.refl _ _ _ _⟩
  case round =>
    obtain ⟨k, hk, rfl, ho, hK⟩ := hrel
    clear hmade
    have hsz := hK.size
    by_cases hlt : k < ys.length
    · obtain ⟨gy, rfl, hg1, hg2, hC⟩ := hyC (by omega)
      have u0 := (World.cell?_of_block (a := ⟨gy, k * 2, none⟩) (hK.block gy hg2 (fun h => h) (by omega))).trans (hC k hlt)
      have hkn : (0 : Int) ≤ (k : Int) := by omega
      have hkl : (k : Int) < (ys.length : Int) := by omega
      have hnl := onceTo_len ys k
      have hf := (hyF _ (nth_mem hlt)).1
      cases hN : newB ys k
      · have hz3 : 0 < k := by
          rcases Nat.eq_zero_or_pos k with h0 | h0
          · subst h0; simp [newB] at hN
          · exact h0
        have hne : ((nth ys k).1 != (nth ys (k - 1)).1) = false := by
          unfold newB at hN; rw [Bool.or_eq_false_iff] at hN; exact hN.2
        have hn := Lib.hid (onceTo_no hN)
        have u1 := (World.cell?_of_block (a := ⟨gy, (k - 1) * 2, none⟩) (hK.block gy hg2 (fun h => h) (by omega))).trans (hC (k - 1) (by omega))
        have hz0' : ((k : Int) == 0) = false := by simp; omega
        have hz1' : (0 : Int) ≤ (k : Int) - 1 := by omega
        have hz2' : (k : Int) - 1 < (ys.length : Int) := by omega
        have hw1 : IntKind.i64.wrap ((k : Int) - 1) = (k : Int) - 1 := IntWalk.i64_in _ (by omega)
        have hn1 : ((k : Int) - 1).toNat = k - 1 := by omega
        clear hN hC hyC
        go_wp2
        go_quiet (fail)
        go_wp2
        have hq := below_drewN (Below.refl wr.heap.size wr) nq
        go_roundw
        case rel => exact ⟨k + 1, by omega, by go_num, by rw [hn.out]; exact ho.later hq, hK.step hsz hq⟩
        case measure => simp [intOf]; omega
      · have hn := Lib.hid (onceTo_yes hN)
        by_cases h0 : k = 0
        · have hz0' : ((k : Int) == 0) = true := by simp; omega
          clear hN hC hyC h0
          go_wp2
          go_quiet (fail)
          have hq := below_drewN (Below.refl wr.heap.size wr) nq
          have hbA := (Below.refl (wr.drewN nq).heap.size (wr.drewN nq)).alloc (Nat.le_refl _) (.cells #[.int .i64 (nth ys k).1, .int .i64 1] 84)
          have hcn : Cells ((wr.drewN nq).alloc (.cells #[.int .i64 (nth ys k).1, .int .i64 1] 84)) wr.heap.size 0 [.int .i64 (nth ys k).1, .int .i64 1] := Cells.new (wr.drewN nq) [.int .i64 (nth ys k).1, .int .i64 1] 84
          obtain ⟨v4, w4, r4, o4, b4, k4⟩ := PRow.append (P := Tryz.prog) (t := 47) (ty := 47) (c := 1) (p := ((nth ys k).1, 1)) i0 _ Tryz.underlying47 hi hz0 hz1 hz2 rfl ((ho.later hq).later hbA) hcn ⟨hf, by show Fits (1 : Int); unfold Fits; omega⟩ (by omega) (by have := ho.1.1; have := t2.size; simp; omega)
          have hzA : ((wr.drewN nq).alloc (.cells #[.int .i64 (nth ys k).1, .int .i64 1] 84)).heap.size = wr.heap.size + 1 := World.size_alloc _ _
          have K1 := (hK.step hsz hq).step (w'' := (wr.drewN nq).alloc (.cells #[.int .i64 (nth ys k).1, .int .i64 1] 84)) hsz hbA
          have o4' := Lib.hid (o4.weak (Nat.le_refl _) (D' := fun f => f = w.heap.size ∨ w2.heap.size ≤ f) fun f hf => by
            rcases hf with hf | hf
            · exact hf
            · exact .inr (by omega))
          have K4 : Hid (Kp w2.heap.size (fun _ => False) w.heap.size w2 w4) := ⟨b4.os.trans K1.os, b4.tape.trans K1.tape, b4.output.trans K1.output, Nat.le_trans K1.size b4.size, fun j h1 h2 h3 => (k4 j (by omega) (fun hd => by omega)).trans (K1.block j h1 h2 h3)⟩
          clear o4 b4 k4 K1 hzA hcn hbA hq ho hK hsz
          go_wp2_with (at_builtin; refine wpList_append_of rfl _ _ rfl rfl rfl r4 ?_)
          go_roundw
          case rel => exact ⟨k + 1, by omega, by go_num, by rw [hn.out]; exact o4'.out, K4.out⟩
          case measure => simp [intOf]; omega
        · have hne : ((nth ys k).1 != (nth ys (k - 1)).1) = true := by
            unfold newB at hN; rw [Bool.or_eq_true] at hN; exact hN.resolve_left (by simp [h0])
          have u1 := (World.cell?_of_block (a := ⟨gy, (k - 1) * 2, none⟩) (hK.block gy hg2 (fun h => h) (by omega))).trans (hC (k - 1) (by omega))
          have hz0' : ((k : Int) == 0) = false := by simp; omega
          have hz1' : (0 : Int) ≤ (k : Int) - 1 := by omega
          have hz2' : (k : Int) - 1 < (ys.length : Int) := by omega
          have hw1 : IntKind.i64.wrap ((k : Int) - 1) = (k : Int) - 1 := IntWalk.i64_in _ (by omega)
          have hn1 : ((k : Int) - 1).toNat = k - 1 := by omega
          clear hN hC hyC h0
          go_wp2
          go_quiet (fail)
          clear hw1 hn1 hz1' hz2' u1
          have hq := below_drewN (Below.refl wr.heap.size wr) nq
          have hbA := (Below.refl (wr.drewN nq).heap.size (wr.drewN nq)).alloc (Nat.le_refl _) (.cells #[.int .i64 (nth ys k).1, .int .i64 1] 84)
          have hcn : Cells ((wr.drewN nq).alloc (.cells #[.int .i64 (nth ys k).1, .int .i64 1] 84)) wr.heap.size 0 [.int .i64 (nth ys k).1, .int .i64 1] := Cells.new (wr.drewN nq) [.int .i64 (nth ys k).1, .int .i64 1] 84
          obtain ⟨v4, w4, r4, o4, b4, k4⟩ := PRow.append (P := Tryz.prog) (t := 47) (ty := 47) (c := 1) (p := ((nth ys k).1, 1)) i0 _ Tryz.underlying47 hi hz0 hz1 hz2 rfl ((ho.later hq).later hbA) hcn ⟨hf, by show Fits (1 : Int); unfold Fits; omega⟩ (by omega) (by have := ho.1.1; have := t2.size; simp; omega)
          have hzA : ((wr.drewN nq).alloc (.cells #[.int .i64 (nth ys k).1, .int .i64 1] 84)).heap.size = wr.heap.size + 1 := World.size_alloc _ _
          have K1 := (hK.step hsz hq).step (w'' := (wr.drewN nq).alloc (.cells #[.int .i64 (nth ys k).1, .int .i64 1] 84)) hsz hbA
          have o4' := Lib.hid (o4.weak (Nat.le_refl _) (D' := fun f => f = w.heap.size ∨ w2.heap.size ≤ f) fun f hf => by
            rcases hf with hf | hf
            · exact hf
            · exact .inr (by omega))
          have K4 : Hid (Kp w2.heap.size (fun _ => False) w.heap.size w2 w4) := ⟨b4.os.trans K1.os, b4.tape.trans K1.tape, b4.output.trans K1.output, Nat.le_trans K1.size b4.size, fun j h1 h2 h3 => (k4 j (by omega) (fun hd => by omega)).trans (K1.block j h1 h2 h3)⟩
          clear o4 b4 k4 K1 hzA hcn hbA hq ho hK hsz
          go_wp2_with (at_builtin; refine wpList_append_of rfl _ _ rfl rfl rfl r4 ?_)
          go_roundw
          case rel => exact ⟨k + 1, by omega, by go_num, by rw [hn.out]; exact o4'.out, K4.out⟩
          case measure => simp [intOf]; omega
    · obtain rfl : k = ys.length := by omega
      have hE := Lib.hid (show onceTo ys ys.length = onceL xs by rw [HY.out]; rfl)
      have hB := Lib.hid (t2.trans (hK.below (lo := w.heap.size) (by omega) (Nat.le_refl _) fun _ h => h.elim))
      have hO := Lib.hid (ho.weak (Nat.le_refl _) (D' := fun f => w.heap.size ≤ f) fun f hf => by omega)
      clear ho hK
      go_wp2
      go_ret
      exact ⟨_, rfl, by rw [← hE.out]; exact hO.out, hB.out⟩

/-- The first k of a row turned. -/
def mapTo (f : Int × Int → Int × Int) (ys : List (Int × Int)) (k : Nat) : List (Int × Int) := (ys.take k).map f ++ ys.drop k
theorem mapTo_zero (f : Int × Int → Int × Int) (ys : List (Int × Int)) : mapTo f ys 0 = ys := by simp [mapTo]
theorem mapTo_all (f : Int × Int → Int × Int) (ys : List (Int × Int)) : mapTo f ys ys.length = ys.map f := by simp [mapTo]
theorem mapTo_len (f : Int × Int → Int × Int) (ys : List (Int × Int)) {k : Nat} (h : k ≤ ys.length) : (mapTo f ys k).length = ys.length := by simp [mapTo]; omega
theorem mapTo_nth {f : Int × Int → Int × Int} {ys : List (Int × Int)} {k : Nat} (h : k < ys.length) : nth (mapTo f ys k) k = nth ys k := by
  unfold nth mapTo
  rw [List.getD_eq_getElem?_getD, List.getD_eq_getElem?_getD, List.getElem?_append_right (by simp; omega)]
  simp [List.length_take, Nat.min_eq_left (Nat.le_of_lt h)]
theorem mapTo_set {f : Int × Int → Int × Int} {ys : List (Int × Int)} {k : Nat} (h : k < ys.length) : (mapTo f ys k).set k (f (nth ys k)) = mapTo f ys (k + 1) := by
  unfold mapTo
  rw [List.set_append_right _ _ (by simp; omega), take_nth h, List.map_append, List.append_assoc]
  congr 1
  rw [List.length_map, List.length_take, Nat.min_eq_left (Nat.le_of_lt h), Nat.sub_self, List.drop_eq_getElem_cons h]
  rfl
def minI (a b : Int) : Int := if b < a then b else a
theorem minI_min (a b : Int) : minI a b = min a b := by unfold minI; rw [Int.min_def]; split <;> split <;> omega
def mergeF (xs : List (Int × Int)) (b : Int) (p : Int × Int) : Int × Int := (p.1, minI (sumH (fun q => q.1 == p.1) xs) b)
def mergedL (xs : List (Int × Int)) (b : Int) : List (Int × Int) := (onceL xs).map (mergeF xs b)

set_option maxHeartbeats 4000000 in
theorem l04Merged_calls {v : Value} {xs : List (Int × Int)} {w : World} (bd : Int) (h : RdL w [v] xs) (hw : WOk xs) (hb0 : 0 ≤ bd) (hb1 : bd ≤ 1000000) :
    Calls Tryz.prog 52 #[v, .int .i64 bd] w fun e w' => ∃ v', e = .returned v' ∧ PRow w.heap.size (fun f => w.heap.size ≤ f) w' v' (mergedL xs bd) ∧ Below w.heap.size w w' := by
  have hl := hw.1
  have HW := Lib.hid hw
  clear hw
  have h0 := h
  obtain ⟨a, cap, rfl, _, hr⟩ := h.sl
  have hm := hr.1
  go_enter Tryz.func52, Tryz.ntmps52
  go_wp2_with fail
  refine (l04Once_calls h0 (by omega)).mono ?_
  rintro e w1 ⟨v1, rfl, o1, b1⟩
  obtain ⟨ys, hys⟩ : ∃ ys, ys = onceL xs := ⟨_, rfl⟩
  rw [← hys] at o1
  have HY := Lib.hid hys
  have hly : ys.length ≤ 24000 := by rw [hys]; exact Nat.le_trans (onceTo_len _ _) (Nat.le_trans (ordTo_len xs 12) (Nat.mul_le_mul_left _ (by omega : xs.length ≤ 1000)))
  have hlY : (ys.length : Int) ≤ 24000 := by omega
  clear hys h0
  rcases o1.form with ⟨rfl, rfl⟩ | ⟨g, c, rfl, _, _, _, hgB, hgl⟩
  · go_wp2
    refine wp_loop_rounds 1 ?_
    rw [rounds_succ]
    go_wp2
    go_ret
    exact ⟨_, rfl, by unfold mergedL; rw [← HY.out]; exact PRow.nil _ _ _, b1⟩
  have T0 : PRow w.heap.size (fun f => w.heap.size ≤ f) w1 (.slice (some ⟨g, 0, none⟩) ys.length c) (mapTo (mergeF xs bd) ys 0) := by rw [mapTo_zero]; exact o1
  clear o1
  go_wp2
  go_loopw [6] (fun i wr => ∃ k : Nat, k ≤ ys.length ∧ i = .int .i64 k ∧ PRow w.heap.size (fun f => w.heap.size ≤ f) wr (.slice (some ⟨g, 0, none⟩) ys.length c) (mapTo (mergeF xs bd) ys k) ∧ Below w.heap.size w wr) (fun i _ => ys.length - (intOf i).toNat)
  case atStart => exact ⟨0, Nat.zero_le _, rfl, T0, b1⟩
  case round =>
    obtain ⟨k, hk, rfl, ho, hb⟩ := hrel
    clear T0 b1
    by_cases hlt : k < ys.length
    · have hln := mapTo_len (mergeF xs bd) ys hk
      obtain ⟨c0, c1⟩ := ho.cell (i := k) (by omega)
      rw [mapTo_nth hlt] at c0 c1
      have hkn : (0 : Int) ≤ (k : Int) := by omega
      have hkl : (k : Int) < (ys.length : Int) := by omega
      obtain ⟨wo, rfl⟩ : ∃ wo : World, wo = wr := ⟨_, rfl⟩
      go_wp2
      go_loopw [7, 8] (fun s i wr => ∃ j : Nat, j ≤ xs.length ∧ i = .int .i64 j ∧ s = .int .i64 (sumH (fun q => q.1 == (nth ys k).1) (xs.take j)) ∧ Below wo.heap.size wo wr) (fun _ i _ => xs.length - (intOf i).toNat)
      case atStart => exact ⟨0, Nat.zero_le _, rfl, rfl, Below.refl _ _⟩
      case round =>
        obtain ⟨j, hj, rfl, rfl, hb2⟩ := hrel
        have hsb := sumH_take_bd (f := fun q => q.1 == (nth ys k).1) j HW.out.w hl
        have d0 := cell_kept hb2 c0
        have d1 := cell_kept hb2 c1
        clear c0 c1
        by_cases hjt : j < xs.length
        · obtain ⟨b, off, rfl, hc⟩ := hr.base (by omega)
          obtain ⟨ecs, hC, rfl, hf1, hf2⟩ := hc j hjt
          have hC := hC.later (hb.step hb2)
          have hpw := HW.out.w _ (nth_mem hjt)
          obtain ⟨hp0, hp1⟩ := hpw
          have u0 := hC.c0
          have u1 := hC.c1
          rw [show Rd.k (Int × Int) = 2 from rfl] at u0 u1
          have hjn : (0 : Int) ≤ (j : Int) := by omega
          have hjl : (j : Int) < (xs.length : Int) := by omega
          obtain ⟨sv, hsv⟩ : ∃ sv, sv = sumH (fun q => q.1 == (nth ys k).1) (xs.take j) := ⟨_, rfl⟩
          rw [← hsv] at hsb ⊢
          obtain ⟨hs0, hs1⟩ := hsb
          cases hd : ((nth xs j).1 == (nth ys k).1)
          · have hn := Lib.hid (hsv.trans (sumH_no (f := fun q => q.1 == (nth ys k).1) hjt hd).symm)
            clear hC hc hsv hr
            go_wp2
            go_quiet (fail)
            go_wp2
            go_roundw
            case rel => exact ⟨j + 1, by omega, by go_num, by rw [← hn.out], by first | exact hb2.drew | exact below_drewN hb2 _⟩
            case measure => simp [intOf]; omega
          · have hn0 : sv + (nth xs j).2 = sumH (fun q => q.1 == (nth ys k).1) (xs.take (j + 1)) := by rw [sumH_yes (f := fun q => q.1 == (nth ys k).1) hjt hd, hsv]
            have hn := Lib.hid hn0
            clear hC hc hsv hr hn0
            go_wp2
            go_quiet (fail)
            go_wp2
            go_roundw
            case rel => exact ⟨j + 1, by omega, by go_num, by rw [← hn.out], by first | exact hb2.drew | exact below_drewN hb2 _⟩
            case measure => simp [intOf]; omega
        · have he := sumH_end (f := fun q => q.1 == (nth ys k).1) (l := xs) (k := j) (by omega)
          obtain ⟨sv, hsv⟩ : ∃ sv, sv = sumH (fun q => q.1 == (nth ys k).1) (xs.take j) := ⟨_, rfl⟩
          rw [← hsv] at hsb ⊢
          obtain ⟨hs0, hs1⟩ := hsb
          have ho2 := ho.later hb2
          have hfz := fun j => ho2.frozen j
          have hmn := mapTo_nth (f := mergeF xs bd) hlt
          have hfm : Fits (min sv bd) := by unfold Fits; omega
          have hst := ho2.setW (i := k) (by omega) hfm
          rw [hmn] at hst
          have hsx : mergeF xs bd (nth ys k) = ((nth ys k).1, min sv bd) := by unfold mergeF; rw [minI_min, hsv, he]
          rw [← hsx, mapTo_set hlt] at hst
          have HST := Lib.hid hst
          have HB := Lib.hid (Below.setCell (hb.step hb2) (p := ⟨g, k * 2 + 1, none⟩) hgB (.int .i64 (min sv bd)))
          clear hst hsx hmn hfm ho2 hsv he ho hb hr
          go_wp2
          go_roundw
          case rel => exact ⟨k + 1, by omega, by go_num, HST.out, HB.out⟩
          case measure => simp [intOf]; omega
    · obtain rfl : k = ys.length := by omega
      have hE := Lib.hid (show mapTo (mergeF xs bd) ys ys.length = mergedL xs bd by rw [mapTo_all, HY.out]; rfl)
      go_wp2
      go_ret
      exact ⟨_, rfl, by rw [← hE.out]; exact ho, hb⟩

/-! ### TidyR -/
def anyL (os : List (Int × Int)) (l : Int) : Bool := os.any (fun p => p.1 == l)
theorem any_take {α : Type} [Inhabited α] {f : α → Bool} {xs : List α} {k : Nat} (hk : k < xs.length) : (xs.take (k + 1)).any f = ((xs.take k).any f || f (nth xs k)) := by
  rw [take_nth hk, List.any_append]; simp
/-- Two neighbours that are one atom's. -/
def oppTo (os : List (Int × Int)) : Nat → Bool
  | 0 => false
  | k + 1 => oppTo os k || decide ((nth os k).1 = -(nth os (k + 1)).1)
def oppB (os : List (Int × Int)) : Bool := oppTo os (os.length - 1)
theorem oppTo_yes {os : List (Int × Int)} {k : Nat} (h : decide ((nth os k).1 = -(nth os (k + 1)).1) = true) : ∀ {m : Nat}, k < m → oppTo os m = true
  | 0, hm => by omega
  | m + 1, hm => by
    unfold oppTo
    by_cases e : k = m
    · subst e; rw [h, Bool.or_true]
    · rw [oppTo_yes h (by omega), Bool.true_or]
theorem oppTo_no {os : List (Int × Int)} {k : Nat} (h0 : oppTo os k = false) (h : decide ((nth os k).1 = -(nth os (k + 1)).1) = false) : oppTo os (k + 1) = false := by unfold oppTo; rw [h0, h]; rfl
def restH (heads : List Int) (os : List (Int × Int)) : List Int := heads.filter (fun h => !anyL os h)
theorem restH_yes {heads : List Int} {os : List (Int × Int)} {k : Nat} (hk : k < heads.length) (h : anyL os (nth heads k) = false) : restH (heads.take (k + 1)) os = restH (heads.take k) os ++ [nth heads k] := by
  unfold restH; rw [take_nth hk, List.filter_append]; simp [h]
theorem restH_no {heads : List Int} {os : List (Int × Int)} {k : Nat} (hk : k < heads.length) (h : anyL os (nth heads k) = true) : restH (heads.take (k + 1)) os = restH (heads.take k) os := by
  unfold restH; rw [take_nth hk, List.filter_append]; simp [h]
theorem restH_len (heads : List Int) (os : List (Int × Int)) : (restH heads os).length ≤ heads.length := List.length_filter_le _ _

/-- Without Weight. -/
def goesU (heads : List Int) (os : List (Int × Int)) : Bool := oppB os || (decide ((restH heads os).length = 0) && decide (0 < heads.length))
def tidyU (ch : Bool) (heads : List Int) (body : List (Int × Int)) : Option RuleD :=
  if goesU heads (onceL body) then none else some ⟨ch, restH heads (onceL body), false, 0, onceL body⟩
/-- The sum of all W but those of one literal. -/
def sumBut (xs : List (Int × Int)) (l : Int) : Int := sumH (fun p => p.1 != l) xs
def needAll (r : RuleD) : Bool := r.body.all (fun p => decide (sumBut r.body p.1 < r.bound))
def tidyW (r : RuleD) : Option RuleD :=
  if r.bound ≤ 0 then tidyU r.choice r.heads [] else
  if sumBut r.body 0 < r.bound then none else
  if needAll r then tidyU r.choice r.heads r.body else
  if r.bound ≤ 1000 then some { r with body := mergedL r.body r.bound } else some { r with body := ordL r.body }
def tidyO (r : RuleD) : Option RuleD := if ruleOkB r 12 then (if r.weight then tidyW r else tidyU r.choice r.heads r.body) else none
def tidyB (r : RuleD) : Bool := (tidyO r).isSome
def tidyRR (r : RuleD) : RuleD := (tidyO r).getD default
theorem tidyO_no {r : RuleD} (h : ruleOkB r 12 = false) : tidyO r = none := by simp [tidyO, h]
theorem tidyO_U {r : RuleD} (h : ruleOkB r 12 = true) (hw : r.weight = false) : tidyO r = tidyU r.choice r.heads r.body := by simp [tidyO, h, hw]
theorem tidyO_W {r : RuleD} (h : ruleOkB r 12 = true) (hw : r.weight = true) : tidyO r = tidyW r := by simp [tidyO, h, hw]
theorem tidyW_1 {r : RuleD} (h : r.bound ≤ 0) : tidyW r = tidyU r.choice r.heads [] := if_pos h
theorem tidyW_2 {r : RuleD} (h : ¬ r.bound ≤ 0) (h2 : sumBut r.body 0 < r.bound) : tidyW r = none := by unfold tidyW; rw [if_neg h, if_pos h2]
theorem tidyW_3 {r : RuleD} (h : ¬ r.bound ≤ 0) (h2 : ¬ sumBut r.body 0 < r.bound) (h3 : needAll r = true) : tidyW r = tidyU r.choice r.heads r.body := by unfold tidyW; rw [if_neg h, if_neg h2, if_pos h3]
theorem tidyW_4 {r : RuleD} (h : ¬ r.bound ≤ 0) (h2 : ¬ sumBut r.body 0 < r.bound) (h3 : needAll r = false) (h4 : r.bound ≤ 1000) : tidyW r = some { r with body := mergedL r.body r.bound } := by unfold tidyW; rw [if_neg h, if_neg h2, if_neg (by rw [h3]; simp), if_pos h4]
theorem tidyW_5 {r : RuleD} (h : ¬ r.bound ≤ 0) (h2 : ¬ sumBut r.body 0 < r.bound) (h3 : needAll r = false) (h4 : ¬ r.bound ≤ 1000) : tidyW r = some { r with body := ordL r.body } := by unfold tidyW; rw [if_neg h, if_neg h2, if_neg (by rw [h3]; simp), if_neg h4]
theorem tidyU_no {ch : Bool} {heads : List Int} {body : List (Int × Int)} (h : goesU heads (onceL body) = true) : tidyU ch heads body = none := by simp [tidyU, h]
theorem tidyU_yes {ch : Bool} {heads : List Int} {body : List (Int × Int)} (h : goesU heads (onceL body) = false) : tidyU ch heads body = some ⟨ch, restH heads (onceL body), false, 0, onceL body⟩ := by simp [tidyU, h]

theorem ruleOk_body {r : RuleD} (h : ruleOkB r 12 = true) : WOk r.body := by
  simp only [ruleOkB, bodyB, Bool.and_eq_true, decide_eq_true_eq, List.all_eq_true, wlitB, litB, btwB, Bool.or_eq_true] at h
  obtain ⟨_, ⟨⟨h1, _⟩, _⟩, h2⟩ := h
  exact ⟨h1, fun p hp => by have := h2 p hp; omega⟩
theorem ruleOk_heads {r : RuleD} (h : ruleOkB r 12 = true) : r.heads.length ≤ 20 := by
  simp only [ruleOkB, headsB, Bool.and_eq_true] at h
  have h2 := h.1.2
  split at h2
  · simp only [btwB, decide_eq_true_eq] at h2; omega
  · simp only [decide_eq_true_eq] at h2; omega
theorem ruleOk_bound {r : RuleD} (h : ruleOkB r 12 = true) : -100000 ≤ r.bound ∧ r.bound ≤ 100000 := by
  simp only [ruleOkB, bodyB, Bool.and_eq_true, btwB, decide_eq_true_eq] at h
  exact h.2.1.2

theorem ordTo_mem {xs : List (Int × Int)} {p : Int × Int} : ∀ {k : Nat}, p ∈ ordTo xs k → p ∈ xs
  | 0, h => by simp [ordTo] at h
  | k + 1, h => by
    rcases List.mem_append.1 h with h | h
    · exact ordTo_mem h
    · rcases List.mem_append.1 h with h | h
      · exact (List.mem_filter.1 h).1
      · exact (List.mem_filter.1 h).1
theorem onceTo_mem {ys : List (Int × Int)} {p : Int × Int} : ∀ {k : Nat}, k ≤ ys.length → p ∈ onceTo ys k → ∃ q ∈ ys, q.1 = p.1
  | 0, _, h => by simp [onceTo] at h
  | k + 1, hk, h => by
    unfold onceTo at h
    split at h
    · rcases List.mem_append.1 h with h | h
      · exact onceTo_mem (by omega) h
      · rw [List.mem_singleton.1 h]
        exact ⟨nth ys k, nth_mem (by omega), rfl⟩
    · exact onceTo_mem (by omega) h
theorem onceL_mem {xs : List (Int × Int)} {p : Int × Int} (h : p ∈ onceL xs) : ∃ q ∈ xs, q.1 = p.1 := by
  obtain ⟨q, hq, e⟩ := onceTo_mem (Nat.le_refl _) h
  exact ⟨q, ordTo_mem hq, e⟩
theorem onceL_range {xs : List (Int × Int)} (h : WOk xs) : ∀ p ∈ onceL xs, -12 ≤ p.1 ∧ p.1 ≤ 12 := fun p hp => by
  obtain ⟨q, hq, e⟩ := onceL_mem hp
  have := (h.2 q hq).1
  omega
theorem own_zeroR (lo : Nat) (w : World) : Own (α := RuleD) lo w [.bool false, .slice none 0 0, .bool false, .int .i64 0, .slice none 0 0] default := by
  have hn : ∀ {β : Type} [Ow β], OwL (α := β) w [.slice none 0 0] [] [] := fun {β} _ => ⟨none, 0, rfl, Nat.le_refl _, by omega, .inl ⟨rfl, rfl⟩⟩
  exact ⟨[], ⟨_, _, [], [], rfl, by show Fits 0; unfold Fits; omega, hn, hn, rfl, List.nodup_nil⟩, by simp⟩
/-- A rule of two rows of the call's own, the second one's blocks behind the first one's, or ahead of them. -/
theorem own_rule2 {w : World} {a b c d lo : Nat} {c1 c4 : Value} {x : RuleD} (h1 : OwnIn a b w [c1] x.heads) (h4 : OwnIn c d w [c4] x.body) (hbc : b ≤ c ∨ d ≤ a) (hla : lo ≤ a) (hlc : lo ≤ c) (hf : Fits x.bound) :
    Own lo w [.bool x.choice, c1, .bool x.weight, .int .i64 x.bound, c4] x := by
  obtain ⟨f1, o1, l1⟩ := h1
  obtain ⟨f4, o4, l4⟩ := h4
  exact ⟨f1 ++ f4, ⟨c1, c4, f1, f4, rfl, hf, o1, o4, rfl, List.nodup_append.2 ⟨Ow.nodup o1, Ow.nodup o4, fun x hx y hy e => by have := l1 x hx; have := l4 y hy; omega⟩⟩,
    fun g hg => (List.mem_append.1 hg).elim (fun h => by have := l1 g h; omega) (fun h => by have := l4 g h; omega)⟩
theorem own_rule3 {w : World} {a b c d : Nat} {c1 c4 : Value} {x : RuleD} (h1 : OwnIn a b w [c1] x.heads) (h4 : OwnIn c d w [c4] x.body) (hbc : b ≤ c ∨ d ≤ a) (hf : Fits x.bound) :
    ∃ fp, Ow.O w [.bool x.choice, c1, .bool x.weight, .int .i64 x.bound, c4] x fp ∧ ∀ g ∈ fp, (a ≤ g ∧ g < b) ∨ (c ≤ g ∧ g < d) := by
  obtain ⟨f1, o1, l1⟩ := h1
  obtain ⟨f4, o4, l4⟩ := h4
  exact ⟨f1 ++ f4, ⟨c1, c4, f1, f4, rfl, hf, o1, o4, rfl, List.nodup_append.2 ⟨Ow.nodup o1, Ow.nodup o4, fun x hx y hy e => by have := l1 x hx; have := l4 y hy; omega⟩⟩,
    fun g hg => (List.mem_append.1 hg).elim (fun h => .inl (l1 g h)) (fun h => .inr (l4 g h))⟩
theorem PRow.ownIn {B : Nat} {D : Nat → Prop} {w : World} {v : Value} {xs : List Pr} (h : PRow B D w v xs) : OwnIn B w.heap.size w [v] xs := h.1.own.shut

/-! ### SortD -/
abbrev Pq := Int × Int
def inR (p : Pq) : Prop := (1 ≤ p.1 ∧ p.1 ≤ 12) ∨ (-12 ≤ p.1 ∧ p.1 ≤ -1)
instance (p : Pq) : Decidable (inR p) := by unfold inR; infer_instance
/-- An element as it lies in memory; one that is no rule's as a thing of its own. -/
def encR (p : Pq) : List Value := if inR p then [.int .i64 p.1, .int .i64 p.2] else [.int .i64 0, .int .i64 0]
def rkR (p : Pq) : Int := if inR p then rankI p.1 else 0
def cfR (a b : Pq) : Int := if rkR a < rkR b then -1 else if rkR b < rkR a then 1 else 0
def ltR (a b : Pq) : Bool := decide (cfR a b < 0)
theorem encR_len (p : Pq) : (encR p).length = 2 := by unfold encR; split <;> rfl
theorem encR_one (p : Pq) : ∀ v ∈ encR p, v.oneCell' = true := by
  unfold encR; split <;> · intro v hv; simp at hv; rcases hv with rfl | rfl <;> rfl
theorem ltR_eq {a b : Pq} (ha : inR a) (hb : inR b) : ltR a b = decide (rankI a.1 < rankI b.1) := by
  unfold ltR cfR rkR
  rw [if_pos ha, if_pos hb]
  by_cases h : rankI a.1 < rankI b.1
  · rw [if_pos h]; simp [h]
  · rw [if_neg h]; split <;> simp [h]

theorem swp_mid (L R : List Pq) (y x : Pq) : Sort.swp (L ++ [y] ++ [x] ++ R).toArray (L.length + 1) L.length = (L ++ [x] ++ ([y] ++ R)).toArray := by
  have h1 : (L ++ [y] ++ [x] ++ R).toArray[L.length]! = y := by
    simp [List.getElem!_eq_getElem?_getD, List.getElem?_append_right]
  have h2 : (L ++ [y] ++ [x] ++ R).toArray[L.length + 1]! = x := by
    simp [List.getElem!_eq_getElem?_getD, List.getElem?_append_right]
  unfold Sort.swp
  rw [h1, h2]
  simp [List.set_append_right]
theorem insInner_list : ∀ (n : Nat) (L R : List Pq) (x : Pq), L.length = n → Srt L → (∀ p ∈ L, inR p) → inR x →
    ∃ m ≤ L.length, Sort.insInner ltR 0 n (L ++ [x] ++ R).toArray = (L.take m ++ [x] ++ L.drop m ++ R).toArray ∧ (∀ p ∈ L.drop m, rankI x.1 < rankI p.1) ∧ (∀ p ∈ L.take m, rankI p.1 ≤ rankI x.1)
  | 0, L, R, x, hn, _, _, _ => by
    obtain rfl := List.eq_nil_of_length_eq_zero hn
    exact ⟨0, by simp, by simp [Sort.insInner], by simp, by simp⟩
  | n + 1, L, R, x, hn, hs, hL, hx => by
    rcases List.eq_nil_or_concat L with rfl | ⟨L', y, rfl⟩
    · simp at hn
    · rw [List.concat_eq_append] at *
      have hn' : L'.length = n := by simpa using hn
      have hy : inR y := hL y (by simp)
      have h1 : (L' ++ [y] ++ [x] ++ R).toArray[n]! = y := by
        subst hn'; simp [List.getElem!_eq_getElem?_getD, List.getElem?_append_right]
      have h2 : (L' ++ [y] ++ [x] ++ R).toArray[n + 1]! = x := by
        subst hn'; simp [List.getElem!_eq_getElem?_getD, List.getElem?_append_right]
      have hs' := List.pairwise_append.1 hs
      unfold Sort.insInner
      rw [h1, h2, ltR_eq hx hy]
      by_cases hlt : rankI x.1 < rankI y.1
      · rw [if_pos (by simp [hlt])]
        have e := swp_mid L' R y x
        rw [hn'] at e
        rw [e]
        obtain ⟨m, hm, h3, h4, h5⟩ := insInner_list n L' ([y] ++ R) x hn' hs'.1 (fun p hp => hL p (List.mem_append_left _ hp)) hx
        refine ⟨m, by simp; omega, ?_, ?_, ?_⟩
        · rw [h3, List.take_append_of_le_length hm, List.drop_append_of_le_length hm]
          simp
        · rw [List.drop_append_of_le_length hm]
          intro p hp
          rcases List.mem_append.1 hp with hp | hp
          · exact h4 p hp
          · rw [List.mem_singleton.1 hp]; exact hlt
        · rw [List.take_append_of_le_length hm]; exact h5
      · rw [if_neg (by simp [hlt])]
        refine ⟨(L' ++ [y]).length, Nat.le_refl _, by rw [List.take_length, List.drop_length]; simp, by rw [List.drop_length]; simp, ?_⟩
        rw [List.take_length]
        intro p hp
        rcases List.mem_append.1 hp with hp | hp
        · have := hs'.2.2 p hp y (by simp); omega
        · rw [List.mem_singleton.1 hp]; omega
theorem ordTo_mem' {xs : List Pq} {p : Pq} : ∀ {k : Nat}, p ∈ ordTo xs k → p ∈ xs
  | 0, h => by simp [ordTo] at h
  | k + 1, h => by
    rcases List.mem_append.1 h with h | h
    · exact ordTo_mem' h
    · rcases List.mem_append.1 h with h | h
      · exact (List.mem_filter.1 h).1
      · exact (List.mem_filter.1 h).1
theorem ordL_nil : ordL [] = [] := rfl
theorem insOuter_list {xs : List Pq} (hx : ∀ p ∈ xs, inR p) : ∀ (n i : Nat), i + n = xs.length → (ordL (xs.take i)).length = i →
    Sort.insOuter ltR 0 xs.length i (ordL (xs.take i) ++ xs.drop i).toArray = (ordL xs).toArray ∧ (ordL xs).length = xs.length
  | 0, i, hi, hl => by
    have : xs.take i = xs := List.take_of_length_le (by omega)
    rw [this] at hl ⊢
    rw [List.drop_of_length_le (by omega), List.append_nil, insOuter_stop _ _ _ _ _ (by omega)]
    exact ⟨rfl, by omega⟩
  | n + 1, i, hi, hl => by
    have hlt : i < xs.length := by omega
    have hd : xs.drop i = [nth xs i] ++ xs.drop (i + 1) := by
      rw [List.drop_eq_getElem_cons hlt]
      show _ :: _ = _ :: _
      rw [show nth xs i = xs[i] from by unfold nth; rw [List.getD_eq_getElem?_getD, List.getElem?_eq_getElem hlt]; rfl]
      rfl
    have hxi := hx _ (nth_mem hlt)
    obtain ⟨m, hm, h1, h2, h3⟩ := insInner_list i (ordL (xs.take i)) (xs.drop (i + 1)) (nth xs i) hl (ordL_srt _) (fun p hp => hx p (List.mem_of_mem_take (ordTo_mem' hp))) hxi
    have hp := ordL_put (xs := xs.take i) (x := nth xs i) hxi hm h2 h3
    rw [← take_nth hlt] at hp
    have hl2 : (ordL (xs.take (i + 1))).length = i + 1 := by
      rw [hp]; simp; omega
    rw [insOuter_go _ _ _ _ _ hlt, hd, ← List.append_assoc, h1, ← hp]
    exact insOuter_list hx n (i + 1) (by omega) hl2
theorem insSort_list {xs : List Pq} (hx : ∀ p ∈ xs, inR p) : Sort.insertionSort ltR xs.toArray 0 xs.length = (ordL xs).toArray ∧ (ordL xs).length = xs.length := by
  unfold Sort.insertionSort
  cases xs with
  | nil => rw [insOuter_stop _ _ _ _ _ (by simp)]; exact ⟨rfl, rfl⟩
  | cons x r =>
    have h0 := ordL_put (xs := []) (x := x) (j := 0) (hx x (by simp)) (by simp) (by simp [ordL_nil]) (by simp)
    rw [ordL_nil] at h0
    have h0 : ordL [x] = [x] := by simpa using h0
    have := insOuter_list hx r.length 1 (by simp; omega) (by simp [h0])
    simpa [h0] using this
theorem insSort_stop (d : Array Pq) (n : Nat) : Sort.insertionSort ltR d n n = d := by
  unfold Sort.insertionSort
  rw [insOuter_stop _ _ _ _ _ (by omega)]

/-! ### SortW -/
/-- The world behind a sort: the row's cells, draws, new blocks. -/
def sortW (w : World) (g m : Nat) (ys : List Pq) (os : Array Obj) : World := Sort.grow (Sort.putRowK encR 2 (Sort.ahead w m) g 0 ys.toArray) os
theorem encR_in {p : Pq} (h : inR p) : encR p = encP p := if_pos h
theorem nth_arr {ys : List Pq} {i : Nat} (h : i < ys.length) : ys.toArray[i]! = nth ys i := by
  simp [nth, List.getElem!_eq_getElem?_getD]
theorem flat_get {ys : List Pq} (hr : ∀ p ∈ ys, inR p) {j : Nat} (hj : j < ys.length * 2) : some (Sort.flatK encR 2 ys.toArray)[j]! = (ys.flatMap encP)[j]? := by
  rw [Sort.get_flatK _ _ _ _ (by simpa using hj)]
  have hi : j / 2 < ys.length := by omega
  rw [nth_arr hi, encR_in (hr _ (nth_mem hi))]
  rcases Nat.mod_two_eq_zero_or_one j with m | m
  · have e : j = j / 2 * 2 := by omega
    rw [m]
    conv => rhs; rw [e, encP_0 hi]
    rfl
  · have e : j = j / 2 * 2 + 1 := by omega
    rw [m]
    conv => rhs; rw [e, encP_1 hi]
    rfl
theorem PRow.holds {B : Nat} {D : Nat → Prop} {w : World} {g cap n : Nat} {xs : List Pr} (h : PRow B D w (.slice (some ⟨g, 0, none⟩) n cap) xs) (hr : ∀ p ∈ xs, inR p) : Sort.HoldsK encR 2 w g 0 xs.toArray := by
  intro j hj
  rw [Sort.size_flatK] at hj
  have hj : j < xs.length * 2 := by simpa using hj
  refine ⟨?_, h.frozen _⟩
  have e := flat_get hr hj
  have hi : j / 2 < xs.length := by omega
  obtain ⟨c0, c1⟩ := h.cell hi
  rw [Nat.zero_add]
  show _ = some _
  refine Eq.trans ?_ e.symm
  rcases Nat.mod_two_eq_zero_or_one j with m | m
  · have e : j = j / 2 * 2 := by omega
    rw [e, encP_0 hi]
    exact c0
  · have e : j = j / 2 * 2 + 1 := by omega
    rw [e, encP_1 hi]
    exact c1
theorem sortW_size (w : World) (g m : Nat) (ys : List Pq) (os : Array Obj) : (sortW w g m ys os).heap.size = w.heap.size + os.size := by
  unfold sortW
  rw [Sort.size_grow]
  congr 1
  exact Sort.size_putRow id (Sort.ahead w m) g 0 _
theorem sortW_block (w : World) (g m : Nat) (ys : List Pq) (os : Array Obj) {k : Nat} (hk : k < w.heap.size) (hne : k ≠ g) : (sortW w g m ys os).heap[k]? = w.heap[k]? := by
  unfold sortW
  rw [Sort.heap_grow_old _ _ (by show k < (Sort.putRow id _ _ _ _).heap.size; rw [Sort.size_putRow]; exact hk)]
  show (w.heap.modify g _)[k]? = _
  rw [Array.getElem?_modify, if_neg (fun h => hne h.symm)]
theorem sortW_below {w : World} {lo g m : Nat} {ys : List Pq} {os : Array Obj} (h : lo ≤ g) (hg : g < w.heap.size) : Below lo w (sortW w g m ys os) :=
  ⟨rfl, rfl, rfl, by rw [sortW_size]; omega, fun k hk => sortW_block w g m ys os (by omega) (by omega)⟩
theorem PRow.sorted {B : Nat} {D : Nat → Prop} {w : World} {g cap n : Nat} {xs ys : List Pr} (h : PRow B D w (.slice (some ⟨g, 0, none⟩) n cap) xs) (hl : ys.length = xs.length) (hr : ∀ p ∈ ys, inR p) (hf : ∀ p ∈ ys, Fits p.1 ∧ Fits p.2) (m : Nat) (os : Array Obj) :
    PRow B D (sortW w g m ys os) (.slice (some ⟨g, 0, none⟩) n cap) ys := by
  have hgl : g < w.heap.size := (h.lt (g := g) rfl).2
  obtain ⟨⟨⟨h1, h2⟩, h3⟩, h4⟩ := h
  refine ⟨⟨⟨encP_len ys, ?_⟩, hf⟩, h4⟩
  rcases h2 with ⟨h2, _⟩ | ⟨g', cap', cur, he, hg, hh, hnc, hcm, hcs, ht⟩
  · cases h2
  · cases he
    refine .inr ⟨g, cap, Sort.putCells id 0 (Sort.flatK encR 2 ys.toArray) cur, by rw [hl], hg, ?_, by rw [hl]; exact hnc, hcm, by simp [Sort.putCells]; exact hcs, ?_⟩
    · unfold sortW
      rw [Sort.heap_grow_old _ _ (by show g < (Sort.putRow id _ _ _ _).heap.size; rw [Sort.size_putRow]; exact hgl)]
      show (w.heap.modify g _)[g]? = _
      rw [Array.getElem?_modify, if_pos rfl, hh]
      rfl
    · have hcs : cur.size = cap * 2 := hcs
      show (Sort.putCells id 0 (Sort.flatK encR 2 ys.toArray) cur).toList.take (ys.length * 2) = ys.flatMap encP
      apply List.ext_getElem?
      intro j
      rw [List.getElem?_take]
      by_cases hj : j < ys.length * 2
      · rw [if_pos hj, ← flat_get hr hj]
        have hjc : j < cur.size := by rw [hcs]; omega
        rw [Array.getElem?_toList]
        unfold Sort.putCells
        rw [Array.getElem?_mapIdx, Array.getElem?_eq_getElem hjc, Option.map_some, if_pos ⟨Nat.zero_le _, by rw [Sort.size_flatK]; simpa using hj⟩]
        rfl
      · rw [if_neg hj, List.getElem?_eq_none (by rw [encP_len]; omega)]
theorem ordL_in {xs : List Pq} (h : ∀ p ∈ xs, inR p) : ∀ p ∈ ordL xs, inR p := fun p hp => h p (ordTo_mem' hp)
theorem ordL_fits {xs : List Pq} (h : ∀ p ∈ xs, Fits p.1 ∧ Fits p.2) : ∀ p ∈ ordL xs, Fits p.1 ∧ Fits p.2 := fun p hp => h p (ordTo_mem' hp)

/-! ### SortI -/
set_option maxHeartbeats 1000000 in
theorem litRank_calls (l : Int) (w : World) (h : -12 ≤ l ∧ l ≤ 12) :
    Calls Tryz.prog 112 #[.int .i64 l] w fun e w' => e = .returned (.int .i64 (rankI l)) ∧ w = w' := by
  obtain ⟨h1, h2⟩ := h
  have hf : Fits l := by unfold Fits; omega
  obtain ⟨t, ht⟩ : ∃ t, t = atomI l := ⟨_, rfl⟩
  have hr : 0 ≤ t ∧ t ≤ 12 := by rw [ht]; unfold atomI; rw [if_neg (by omega)]; split <;> omega
  have hA := atom_calls l w hf
  rw [← ht] at hA
  have hrk : rankI l = if l < 0 then 2 * t + 1 else 2 * t := by
    rw [ht]; unfold rankI atomI; rw [if_neg (show ¬ l = -9223372036854775808 by omega)]; split <;> rfl
  obtain ⟨r1, r2⟩ := hr
  have HR := Lib.hid hrk
  clear ht hrk hf
  by_cases hn : l < 0
  · have HR2 : Hid (rankI l = 2 * t + 1) := by show _ = _; rw [HR.out, if_pos hn]
    clear HR
    go_enter Tryz.func112, Tryz.ntmps112
    go_wp2_with (go_at_call 108; refine hA.mono ?_; rintro e w' ⟨rfl, rfl⟩)
    go_ret
    exact ⟨ret_int HR2.out.symm, rfl⟩
  · have HR2 : Hid (rankI l = 2 * t) := by show _ = _; rw [HR.out, if_neg hn]
    clear HR
    go_enter Tryz.func112, Tryz.ntmps112
    go_wp2_with (go_at_call 108; refine hA.mono ?_; rintro e w' ⟨rfl, rfl⟩)
    go_ret
    exact ⟨ret_int HR2.out.symm, rfl⟩
set_option maxHeartbeats 1000000 in
theorem wRank_calls (l c : Int) (w : World) (h : -12 ≤ l ∧ l ≤ 12) :
    Calls Tryz.prog 98 #[.agg #[.int .i64 l, .int .i64 c]] w fun e w' => e = .returned (.int .i64 (rankI l)) ∧ ∃ q os', w' = Sort.grow (w.drewN q) os' := by
  have HH := Lib.hid h
  clear h
  go_enter Tryz.func98, Tryz.ntmps98
  go_wp2_with (go_at_call 112; refine (litRank_calls _ _ HH.out).mono ?_; rintro e w' ⟨rfl, rfl⟩)
  go_ret
  exact ⟨rfl, 0, _, by rw [Sort.alloc_eq_grow]; rfl⟩
def cmpI (a b : Int) : Int := if a < b then -1 else if b < a then 1 else 0
set_option maxHeartbeats 1000000 in
theorem cmp_calls (a b : Int) (w : World) :
    Calls Tryz.prog 111 #[.int .i64 a, .int .i64 b] w fun e w' => e = .returned (.int .i64 (cmpI a b)) ∧ ∃ q os', w' = Sort.grow (w.drewN q) os' := by
  have hw : ∃ q os', w = Sort.grow (w.drewN q) os' := ⟨0, #[], by rw [Sort.grow_empty]; rfl⟩
  have HW := Lib.hid hw
  clear hw
  by_cases h1 : a < b
  · have hv := Lib.hid (show -1 = cmpI a b from by unfold cmpI; rw [if_pos h1])
    go_enter Tryz.func111, Tryz.ntmps111
    go_wp2
    go_ret
    exact ⟨ret_int hv.out, HW.out⟩
  · by_cases h2 : b < a
    · have hv := Lib.hid (show 1 = cmpI a b from by unfold cmpI; rw [if_neg h1, if_pos h2])
      go_enter Tryz.func111, Tryz.ntmps111
      go_wp2
      go_ret
      exact ⟨ret_int hv.out, HW.out⟩
    · have hv := Lib.hid (show 0 = cmpI a b from by unfold cmpI; rw [if_neg h1, if_neg h2])
      go_enter Tryz.func111, Tryz.ntmps111
      go_wp2
      go_ret
      exact ⟨ret_int hv.out, HW.out⟩
set_option maxHeartbeats 2000000 in
theorem byRank_calls {l c l' c' : Int} {b : Nat} {w : World} (hb : b < w.heap.size) (hc : w.cell? ⟨b, 0, none⟩ = some (.func (.func 98) #[] #[])) (h : -12 ≤ l ∧ l ≤ 12) (h' : -12 ≤ l' ∧ l' ≤ 12) :
    Calls Tryz.prog 110 #[.agg #[.int .i64 l, .int .i64 c], .agg #[.int .i64 l', .int .i64 c'], .pointer (some ⟨b, 0, none⟩)] w fun e w' => e = .returned (.int .i64 (cmpI (rankI l) (rankI l'))) ∧ ∃ q os', w' = Sort.grow (w.drewN q) os' := by
  have HH := Lib.hid h
  have HH' := Lib.hid h'
  clear h h'
  have CA := (Cells.new w [.int .i64 l, .int .i64 c] 84).alloc (.cells #[.int .i64 l', .int .i64 c'] 84)
  have CB := Cells.new (w.alloc (.cells #[.int .i64 l, .int .i64 c] 84)) [.int .i64 l', .int .i64 c'] 84
  have hbel : Below w.heap.size w ((w.alloc (.cells #[.int .i64 l, .int .i64 c] 84)).alloc (.cells #[.int .i64 l', .int .i64 c'] 84)) := ((Below.refl _ _).alloc (Nat.le_refl _) _).alloc (by simp) _
  have hf : ((w.alloc (.cells #[.int .i64 l, .int .i64 c] 84)).alloc (.cells #[.int .i64 l', .int .i64 c'] 84)).cell? ⟨b, 0, none⟩ = some (.func (.func 98) #[] #[]) := (World.cell?_of_block (a := ⟨b, 0, none⟩) (hbel.block b hb)).trans hc
  have hgrow : Hid (((w.alloc (.cells #[.int .i64 l, .int .i64 c] 84)).alloc (.cells #[.int .i64 l', .int .i64 c'] 84)) = Sort.grow w (#[.cells #[.int .i64 l, .int .i64 c] 84] ++ #[.cells #[.int .i64 l', .int .i64 c'] 84])) := by show _ = _; rw [Sort.alloc_eq_grow, Sort.alloc_eq_grow, Sort.grow_grow]
  have hsz : ((w.alloc (.cells #[.int .i64 l, .int .i64 c] 84)).alloc (.cells #[.int .i64 l', .int .i64 c'] 84)).heap.size = w.heap.size + 2 := by simp
  rw [World.size_alloc] at CB
  clear hc hbel
  go_enter Tryz.func110, Tryz.ntmps110
  go_upto_region 1 with fail
  generalize ((w.alloc (.cells #[.int .i64 l, .int .i64 c] 84)).alloc (.cells #[.int .i64 l', .int .i64 c'] 84)) = wa at CA CB hf hgrow hsz ⊢
  have k0 := fun n os => cell_grown (a := ⟨b, 0, none⟩) (by show b < wa.heap.size; omega) hf n os
  have k1 := fun n os => cell_grown (a := ⟨w.heap.size, 0, none⟩) (by show w.heap.size < wa.heap.size; omega) CA.c0 n os
  have k2 := fun n os => cell_grown (a := ⟨w.heap.size, 1, none⟩) (by show w.heap.size < wa.heap.size; omega) CA.c1 n os
  have k3 := fun n os => cell_grown (a := ⟨w.heap.size + 1, 0, none⟩) (by show w.heap.size + 1 < wa.heap.size; omega) CB.c0 n os
  have k4 := fun n os => cell_grown (a := ⟨w.heap.size + 1, 1, none⟩) (by show w.heap.size + 1 < wa.heap.size; omega) CB.c1 n os
  clear hf CA CB hsz
  have mixed : Tryz.prog.follows .mixedOrders = true := by kernel_rfl
  go_quiet_grown (first | (go_at_call 98; first | exact Calls.grown_of (wRank_calls _ _ _ HH.out) | exact Calls.grown_of (wRank_calls _ _ _ HH'.out)) | (go_at_call 111; exact Calls.grown_of (cmp_calls _ _ _)))
  go_wp2
  go_ret
  exact ⟨rfl, nq, _, by rw [hgrow.out]; show Sort.grow (Sort.grow (w.drewN nq) _) osq = _; rw [Sort.grow_grow]⟩

/-! ### SortL -/
shelf_lay_g SlLaysF0.n20 Slsf 20 at Tryz 119 as insL0

def rankF : Value := .func (.func 98) #[] #[]
def byRank (b : Nat) : Value := .func (.func 110) #[] #[.pointer (some ⟨b, 0, none⟩)]
theorem encR_get (p : Pq) : ∃ l c, encR p = [.int .i64 l, .int .i64 c] ∧ rkR p = rankI l ∧ -12 ≤ l ∧ l ≤ 12 := by
  unfold encR rkR
  by_cases h : inR p
  · rw [if_pos h, if_pos h]
    exact ⟨_, _, rfl, rfl, by unfold inR at h; omega, by unfold inR at h; omega⟩
  · rw [if_neg h, if_neg h]
    exact ⟨0, 0, rfl, rfl, by omega, by omega⟩
theorem cmpLays {b g n : Nat} {w : World} (hb : b < w.heap.size) (hg : b ≠ g) (hc : w.cell? ⟨b, 0, none⟩ = some rankF) :
    CmpLays Tryz.prog 110 #[.pointer (some ⟨b, 0, none⟩)] encR 2 cfR g 0 n w := by
  intro m os dk _ x y
  obtain ⟨l, c, e1, k1, h1⟩ := encR_get x
  obtain ⟨l', c', e2, k2, h2⟩ := encR_get y
  have hk : cfR x y = cmpI (rankI l) (rankI l') := by unfold cfR cmpI; rw [k1, k2]
  have hs : (sortWorldK encR 2 w g 0 m dk os).heap.size = w.heap.size + os.size := by
    unfold sortWorldK
    rw [Sort.size_grow]
    congr 1
    exact Sort.size_putRow id (Sort.ahead w m) g 0 _
  have hcell : (sortWorldK encR 2 w g 0 m dk os).cell? ⟨b, 0, none⟩ = some rankF := by
    unfold sortWorldK
    rw [Sort.cell?_grow _ _ _ (by show b < (Sort.putRow id _ _ _ _).heap.size; rw [Sort.size_putRow]; exact hb), Sort.cell?_putRowK_other encR 2 _ g 0 dk _ hg]
    exact hc
  rw [e1, e2, hk]
  exact byRank_calls (by rw [hs]; omega) hcell h1 h2
theorem ins_calls {B D b g cap} {w : World} {xs : List Pr} (h : PRow B D w (.slice (some ⟨g, 0, none⟩) xs.length cap) xs) (hr : ∀ p ∈ xs, inR p) (hl : xs.length ≤ 20) (hb : b < w.heap.size) (hg : b ≠ g) (hc : w.cell? ⟨b, 0, none⟩ = some rankF) (i j : Nat) (hij : i ≤ j) (hj : j ≤ xs.length) :
    Calls Tryz.prog 119 #[.slice (some ⟨g, 0, none⟩) xs.length cap, .int .i64 i, .int .i64 j, byRank b] w fun e w' =>
      e = .returned (.tuple #[]) ∧ ∃ m os, w' = sortWorldK encR 2 w g 0 m (Sort.insertionSort (ltOf cfR) xs.toArray i j) os :=
  AnyQ.insertionSortCmpFunc insL0 2 Tryz.isAgg84 Tryz.sizeOf84 encR encR_len encR_one cfR 110 #[.pointer (some ⟨b, 0, none⟩)] g 0 cap i j xs.toArray w (enters_of Tryz.func110 (by kernel_rfl) rfl) (cmpLays hb hg hc) (h.holds hr) (h.lt (g := g) rfl).2 hij (by simpa using hj) (by simp; omega)
/-- All of a row; none of it. -/
theorem insAll_calls {B D b g cap} {w : World} {xs : List Pr} (h : PRow B D w (.slice (some ⟨g, 0, none⟩) xs.length cap) xs) (hr : ∀ p ∈ xs, inR p) (hl : xs.length ≤ 20) (hb : b < w.heap.size) (hg : b ≠ g) (hc : w.cell? ⟨b, 0, none⟩ = some rankF) :
    Calls Tryz.prog 119 #[.slice (some ⟨g, 0, none⟩) xs.length cap, .int .i64 0, .int .i64 xs.length, byRank b] w fun e w' =>
      e = .returned (.tuple #[]) ∧ ∃ m os, w' = sortW w g m (ordL xs) os :=
  (ins_calls h hr hl hb hg hc 0 xs.length (Nat.zero_le _) (Nat.le_refl _)).mono fun e w' ⟨h1, m, os, h2⟩ => ⟨h1, m, os, by rw [h2, show ltOf cfR = ltR from rfl, (insSort_list hr).1]; rfl⟩
theorem insNone_calls {B D b g cap} {w : World} {xs : List Pr} (h : PRow B D w (.slice (some ⟨g, 0, none⟩) xs.length cap) xs) (hr : ∀ p ∈ xs, inR p) (hl : xs.length ≤ 20) (hb : b < w.heap.size) (hg : b ≠ g) (hc : w.cell? ⟨b, 0, none⟩ = some rankF) :
    Calls Tryz.prog 119 #[.slice (some ⟨g, 0, none⟩) xs.length cap, .int .i64 xs.length, .int .i64 xs.length, byRank b] w fun e w' =>
      e = .returned (.tuple #[]) ∧ ∃ m os, w' = sortW w g m xs os :=
  (ins_calls h hr hl hb hg hc xs.length xs.length (Nat.le_refl _) (Nat.le_refl _)).mono fun e w' ⟨h1, m, os, h2⟩ => ⟨h1, m, os, by rw [h2, show ltOf cfR = ltR from rfl, insSort_stop]; rfl⟩
set_option maxHeartbeats 1000000 in
theorem insNil_calls (fv : Value) (w : World) :
    Calls Tryz.prog 119 #[.slice none 0 0, .int .i64 0, .int .i64 0, fv] w fun e w' => e = .returned (.tuple #[]) ∧ w = w' := by
  go_enter Tryz.func119, Tryz.ntmps119
  go_wp2
  refine wp_loop_rounds 1 ?_
  rw [rounds_succ]
  go_wp2
  go_end0
  exact ⟨rfl, rfl⟩

/-! ### SortO -/
theorem kp_sortW (w : World) (g m : Nat) (ys : List Pq) (os : Array Obj) : Kp w.heap.size (fun _ => False) g w (sortW w g m ys os) :=
  ⟨rfl, rfl, rfl, by rw [sortW_size]; omega, fun _ h1 _ h3 => sortW_block w g m ys os h1 h3⟩
theorem Kp.tr {B : Nat} {D0 : Nat → Prop} {g : Nat} {w w' w'' : World} (h : Kp B D0 g w w') (k : Kp w'.heap.size D0 g w' w'') (hB : B ≤ w'.heap.size) : Kp B D0 g w w'' :=
  ⟨k.os.trans h.os, k.tape.trans h.tape, k.output.trans h.output, Nat.le_trans h.size k.size, fun j h1 h2 h3 => (k.block j (by omega) h2 h3).trans (h.block j h1 h2 h3)⟩

set_option maxHeartbeats 2000000 in
theorem stable_calls {B D b g cap} {w : World} {xs : List Pr} (h : PRow B D w (.slice (some ⟨g, 0, none⟩) xs.length cap) xs) (hr : ∀ p ∈ xs, inR p) (hl : xs.length ≤ 20) (hb : b < w.heap.size) (hg : b ≠ g) (hc : w.cell? ⟨b, 0, none⟩ = some rankF) :
    Calls Tryz.prog 116 #[.slice (some ⟨g, 0, none⟩) xs.length cap, .int .i64 xs.length, byRank b] w fun e w' =>
      e = .returned (.tuple #[]) ∧ PRow B D w' (.slice (some ⟨g, 0, none⟩) xs.length cap) (ordL xs) ∧ Kp w.heap.size (fun _ => False) g w w' := by
  have hA := insAll_calls h hr hl hb hg hc
  have hlo := (insSort_list hr).2
  have H1 := fun m os => h.sorted hlo (ordL_in hr) (ordL_fits h.fits) m os
  have hgl := (h.lt (g := g) rfl).2
  by_cases hn : xs.length = 20
  · have hN := fun m os => insNone_calls (b := b) (w := sortW w g m (ordL xs) os) (by rw [hlo]; exact H1 m os) (ordL_in hr) (by omega) (by rw [sortW_size]; omega) hg ((World.cell?_of_block (a := ⟨b, 0, none⟩) (sortW_block w g m (ordL xs) os hb hg)).trans hc)
    have H2 := fun m os m' os' => (H1 m os).sorted rfl (ordL_in hr) (ordL_fits h.fits) m' os'
    have K2 := fun m os m' os' => (kp_sortW w g m (ordL xs) os).tr (kp_sortW (sortW w g m (ordL xs) os) g m' (ordL xs) os') (by rw [sortW_size]; omega)
    rw [hlo] at hN
    rw [hn] at hA hN H2 ⊢
    have H2 := Lib.hid H2
    have K2 := Lib.hid K2
    clear h hr hl hc hb H1 hgl hn hlo
    obtain ⟨ys, hys⟩ : ∃ ys, ys = ordL xs := ⟨_, rfl⟩
    rw [← hys] at hA hN H2 K2 ⊢
    clear hys
    go_enter Tryz.func116, Tryz.ntmps116
    go_wp2
    refine wp_loop_rounds 2 ?_
    rw [rounds_succ]
    go_wp2_with (go_at_call 119; refine hA.mono ?_; rintro e w' ⟨rfl, m1, os1, rfl⟩)
    rw [rounds_succ]
    go_wp2_with (go_at_call 119; refine (hN m1 os1).mono ?_; rintro e w' ⟨rfl, m2, os2, rfl⟩)
    refine wp_loop_rounds 1 ?_
    rw [rounds_succ]
    go_wp2
    go_end0
    exact ⟨rfl, H2.out m1 os1 m2 os2, K2.out m1 os1 m2 os2⟩
  · have hlt : (xs.length : Int) < 20 := by omega
    have H1 := Lib.hid H1
    clear h hr hl hc hb hgl hn hlo
    go_enter Tryz.func116, Tryz.ntmps116
    go_wp2
    refine wp_loop_rounds 1 ?_
    rw [rounds_succ]
    go_wp2_with (go_at_call 119; refine hA.mono ?_; rintro e w' ⟨rfl, m1, os1, rfl⟩)
    refine wp_loop_rounds 1 ?_
    rw [rounds_succ]
    go_wp2
    go_end0
    exact ⟨rfl, H1.out m1 os1, kp_sortW w g m1 (ordL xs) os1⟩
set_option maxHeartbeats 1000000 in
theorem stableNil_calls (fv : Value) (w : World) :
    Calls Tryz.prog 116 #[.slice none 0 0, .int .i64 0, fv] w fun e w' => e = .returned (.tuple #[]) ∧ w = w' := by
  go_enter Tryz.func116, Tryz.ntmps116
  go_wp2
  refine wp_loop_rounds 1 ?_
  rw [rounds_succ]
  go_wp2_with (go_at_call 119; refine (insNil_calls _ _).mono ?_; rintro e w' ⟨rfl, rfl⟩)
  refine wp_loop_rounds 1 ?_
  rw [rounds_succ]
  go_wp2
  go_end0
  exact ⟨rfl, rfl⟩
set_option maxHeartbeats 1000000 in
theorem sortStable_calls {B D b g cap} {w : World} {xs : List Pr} (h : PRow B D w (.slice (some ⟨g, 0, none⟩) xs.length cap) xs) (hr : ∀ p ∈ xs, inR p) (hl : xs.length ≤ 20) (hb : b < w.heap.size) (hg : b ≠ g) (hc : w.cell? ⟨b, 0, none⟩ = some rankF) :
    Calls Tryz.prog 109 #[.slice (some ⟨g, 0, none⟩) xs.length cap, byRank b] w fun e w' =>
      e = .returned (.tuple #[]) ∧ PRow B D w' (.slice (some ⟨g, 0, none⟩) xs.length cap) (ordL xs) ∧ Kp w.heap.size (fun _ => False) g w w' := by
  have hS := stable_calls h hr hl hb hg hc
  clear h hr hc hb hg
  go_enter Tryz.func109, Tryz.ntmps109
  go_wp2_with (go_at_call 116; refine hS.mono ?_; rintro e w2 ⟨rfl, o2, k2⟩)
  go_end0
  exact ⟨rfl, o2, k2⟩
set_option maxHeartbeats 1000000 in
theorem sortStableNil_calls (fv : Value) (w : World) :
    Calls Tryz.prog 109 #[.slice none 0 0, fv] w fun e w' => e = .returned (.tuple #[]) ∧ w = w' := by
  go_enter Tryz.func109, Tryz.ntmps109
  go_wp2_with (go_at_call 116; refine (stableNil_calls _ _).mono ?_; rintro e w' ⟨rfl, rfl⟩)
  go_end0
  exact ⟨rfl, rfl⟩
/-- A row of literals of atoms, with sums of W. -/
def WBg (xs : List Pq) : Prop := xs.length ≤ 20 ∧ ∀ p ∈ xs, inR p ∧ 1 ≤ p.2 ∧ p.2 ≤ 20000
theorem WOk.big {xs : List Pq} (h : WOk xs) : WBg xs := ⟨h.1, fun p hp => ⟨(h.2 p hp).1, (h.2 p hp).2.1, by have := (h.2 p hp).2.2; omega⟩⟩
theorem WBg.inR {xs : List Pq} (h : WBg xs) : ∀ p ∈ xs, inR p := fun p hp => (h.2 p hp).1
set_option maxHeartbeats 1000000 in
theorem cloneP_calls {v : Value} {xs : List Pr} {w : World} (h : RdL w [v] xs) (hl : xs.length ≤ 1048576) :
    Calls Tryz.prog 90 #[v] w fun e w' => ∃ v', e = .returned v' ∧ PRow w.heap.size (fun f => w.heap.size ≤ f) w' v' xs ∧ Below w.heap.size w w' := by
  have g := h
  have en := eql_nil Tryz.underlying47
  have es := eql_some Tryz.underlying47
  obtain ⟨a, cap, rfl, _, hr⟩ := h.sl
  obtain ⟨i0, hi, hz0, hz1, hz2⟩ := info_parts info_cloneWLit
  cases a with
  | none =>
    have hn := row_none hr
    subst hn
    go_enter Tryz.func90, Tryz.ntmps90
    go_wp2
    go_ret
    exact ⟨_, rfl, PRow.nil _ _ _, Below.refl _ _⟩
  | some p =>
    have tA := (Below.refl w.heap.size w).alloc (Nat.le_refl _) (.cells #[] 84)
    have hoA : OwnF (α := Int × Int) w.heap.size 84 (w.alloc (.cells #[] 84)) (.slice (some ⟨w.heap.size, 0, none⟩) 0 0) [] := OwnF.new w (Nat.le_refl _)
    clear hr
    go_enter Tryz.func90, Tryz.ntmps90
    go_wp2_with (at_builtin; refine wpList_append_flat (α := Int × Int) rfl _ _ 47 rfl i0 (.agg #[.int .i64 0, .int .i64 0]) 16 Tryz.underlying47 hi hz0 hz1 hz2 rfl rfl hoA rfl (Rd.mono (α := List (Int × Int)) tA g) (by simp; omega) (by simp; omega) (by simp) ?_; intro v1 w1 ho1 hb1 _)
    rw [List.nil_append] at ho1
    go_ret
    have hO : PRow w.heap.size (fun _ => True) w1 v1 xs := ⟨ho1, fun _ _ => trivial⟩
    exact ⟨_, rfl, ⟨ho1, fun g hg => (hO.lt hg).1⟩, tA.trans hb1⟩
set_option maxHeartbeats 1000000 in
theorem inOrder_calls {v : Value} {xs : List Pr} {w : World} (h : RdL w [v] xs) (hw : WBg xs) :
    Calls Tryz.prog 97 #[v, rankF] w fun e w' => ∃ v', e = .returned v' ∧ PRow w.heap.size (fun f => w.heap.size ≤ f) w' v' (ordL xs) ∧ Below w.heap.size w w' := by
  have HR := Lib.hid hw.inR
  have hl := hw.1
  have tA := (Below.refl w.heap.size w).alloc (Nat.le_refl _) (.cells #[rankF] 122)
  have hA : (w.alloc (.cells #[rankF] 122)).cell? ⟨w.heap.size, 0, none⟩ = some rankF := (Cells.new w [rankF] 122).c0
  have hsA := World.size_alloc w (.cells #[rankF] 122)
  have hC := cloneP_calls (Rd.mono (α := List (Int × Int)) tA h) (by omega)
  clear hw
  obtain ⟨a, cap, rfl, _, _⟩ := h.sl
  clear h
  go_enter Tryz.func97, Tryz.ntmps97
  go_wp2_with fail
  refine hC.mono ?_
  rintro e w1 ⟨v1, rfl, o1, b1⟩
  rw [hsA] at o1 b1
  have z1 := b1.size
  rw [hsA] at z1
  have c1 := (World.cell?_of_block (a := ⟨w.heap.size, 0, none⟩) (b1.block w.heap.size (by omega))).trans hA
  have t1 := tA.trans (b1.mono (by omega))
  rcases o1.form with ⟨rfl, rfl⟩ | ⟨g, c, rfl, _, _, hgD, hgB, hgl⟩
  · have T1 := Lib.hid t1
    clear o1 t1 b1 tA c1 hA hC hsA
    go_wp2_with (go_at_call 109; refine (sortStableNil_calls _ _).mono ?_; rintro e w' ⟨rfl, rfl⟩)
    go_ret
    exact ⟨_, rfl, PRow.nil _ _ _, T1.out⟩
  · have hS := sortStable_calls o1 HR.out hl (by omega) (by omega) c1
    have T1 := Lib.hid t1
    clear o1 t1 b1 tA c1 hA hC hsA hgD
    go_wp2_with (go_at_call 109; refine hS.mono ?_; rintro e w2 ⟨rfl, o2, k2⟩)
    go_ret
    exact ⟨_, rfl, o2.weak (by omega) (fun f hf => by omega), T1.out.trans (k2.below (lo := w.heap.size) (by omega) (by omega) fun _ h => h.elim)⟩

end Go.Proofs.YtmndmhnhcoblnaaGreat
