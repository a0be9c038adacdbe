/-
  What is shown of a set is shown of its part of the atoms that conditions name: pure; two lists of texts that are the same. No condition of its own.
-/
import Derived.Test.YtjainjpcpnoikaaShown
import Derived.Test.YtjainjpcpnoikaaLeastD
import Derived.Test.YtjainjpcpnoikaaModel
import Derived.BigQuiet
import Derived.Deep.RegionHeld3
namespace Go.Proofs.Ytjainjpcpnoikaa
set_option linter.unusedVariables false
set_option linter.unusedSimpArgs false
open Go.RowKit
set_option maxRecDepth 100000

set_option maxHeartbeats 1000000 in
theorem sameTexts_calls {v v' : Value} {xs : List ByteArray} {w : World} (h : RdL w [v] xs) (h' : RdL w [v'] xs) :
    Calls Try.prog 27 #[v, v'] w fun e w' => e = .returned (.bool true) ∧ Below w.heap.size w w' := by
  obtain ⟨a, cap, rfl, _, h⟩ := h.sl
  obtain ⟨a', cap', rfl, _, h'⟩ := h'.sl
  have hm := h.1
  by_cases hne : 0 < xs.length
  · obtain ⟨b, off, rfl, hc⟩ := h.base hne
    obtain ⟨b', off', rfl, hc'⟩ := h'.base hne
    have HC := Lib.hid hc
    have HC' := Lib.hid hc'
    clear h hc h' hc'
    go_enter Try.func27, Try.ntmps27
    go_wp2
    go_loopw [5] (fun i wr => ∃ k : Nat, k ≤ xs.length ∧ i = .int .i64 k ∧ Below w.heap.size w wr) (fun i _ => xs.length - (intOf i).toNat)
    case atStart => exact ⟨0, Nat.zero_le _, rfl, Below.refl _ _⟩
    case round =>
      obtain ⟨k, hk, rfl, hb⟩ := hrel
      by_cases hlt : k < xs.length
      · obtain ⟨ecs, hC, hR⟩ := HC.out k hlt
        obtain ⟨ecs', hC', hR'⟩ := HC'.out k hlt
        have hC := hC.later hb
        have hC' := hC'.later hb
        obtain ⟨rfl, _⟩ := hR
        obtain ⟨rfl, _⟩ := hR'
        have u0 := hC.c0
        have v0 := hC'.c0
        rw [show Rd.k ByteArray = 1 from rfl, Nat.mul_one] at u0 v0
        clear hC hC'
        generalize nth xs k = s at *
        go_wp2
        go_quiet (fail)
        go_wp2
        go_roundw
        case rel => exact ⟨k + 1, by omega, by go_num, by first | exact hb.drew | exact below_drewN hb _⟩
        case measure => simp [intOf]; omega
      · go_wp2
        go_ret
        exact ⟨rfl, hb⟩
  · have : xs = [] := by cases xs <;> simp_all
    subst this
    clear h h' hne
    go_enter Try.func27, Try.ntmps27
    go_wp2
    refine wp_loop_rounds 1 ?_
    rw [rounds_succ]
    go_wp2
    go_ret
    exact ⟨rfl, Below.refl _ _⟩


/-- The atoms that literals name, as the law takes them. -/
def absI (l : Int) : Int := if l < 0 then -l else l
def absL (ls : List Int) : List Int := ls.map absI
def shAt (ss : List ShowD) : Nat → List Int
  | 0 => []
  | k + 1 => shAt ss k ++ absL (nth ss k).cond
theorem shAt_len {ss : List ShowD} (h : ∀ s ∈ ss, s.cond.length ≤ 20) : ∀ k, k ≤ ss.length → (shAt ss k).length ≤ 20 * k
  | 0, _ => by simp [shAt]
  | k + 1, hk => by
    have ih := shAt_len h k (by omega)
    have h1 := h _ (nth_mem (show k < ss.length by omega))
    show (shAt ss k ++ absL (nth ss k).cond).length ≤ _
    rw [List.length_append]
    unfold absL
    rw [List.length_map]
    omega
theorem shAt_mem {ss : List ShowD} {l : Int} : ∀ {k : Nat}, k ≤ ss.length → (∃ j, j < k ∧ l ∈ (nth ss j).cond) → absI l ∈ shAt ss k
  | 0, _, ⟨_, hj, _⟩ => absurd hj (by omega)
  | k + 1, hk, ⟨j, hj, hl⟩ => by
    show absI l ∈ shAt ss k ++ absL (nth ss k).cond
    rw [List.mem_append]
    by_cases e : j = k
    · subst e; exact .inr (List.mem_map_of_mem hl)
    · exact .inl (shAt_mem (by omega) ⟨j, by omega, hl⟩)
theorem holds_meet {xs zs : List Int} {l : Int} (hl : litB l 12 = true) (hm : absI l ∈ zs) : holdsB (pickTo (pickM xs zs) 12) l = holdsB xs l := by
  simp only [litB, btwB, Bool.or_eq_true, decide_eq_true_eq] at hl
  have hb : hasB zs (absI l) = true := by unfold hasB; exact decide_eq_true hm
  rcases hl with hl | hl
  · have e : absI l = l := if_neg (by omega)
    rw [e] at hb
    rw [holdsB_pos ⟨hl.1, hl.2⟩, holdsB_pos ⟨hl.1, hl.2⟩, hasB_meet ⟨hl.1, hl.2⟩, hb, Bool.and_true]
  · have e : absI l = -l := if_pos (by omega)
    rw [e] at hb
    rw [holdsB_neg ⟨by omega, by omega⟩, holdsB_neg ⟨by omega, by omega⟩, hasB_meet ⟨by omega, by omega⟩, hb, Bool.and_true]
theorem shown_same {ss : List ShowD} {xs ys : List Int} (h : ∀ s ∈ ss, shwB ys s = shwB xs s) : ∀ k, k ≤ ss.length → shownTo ss ys k = shownTo ss xs k
  | 0, _ => rfl
  | k + 1, hk => by
    unfold shownTo
    rw [shown_same h k (by omega), h _ (nth_mem (show k < ss.length by omega))]
theorem all_congrS {ls : List Int} {f g : Int → Bool} (h : ∀ l ∈ ls, f l = g l) : ls.all f = ls.all g := by
  rw [Bool.eq_iff_iff, List.all_eq_true, List.all_eq_true]
  exact ⟨fun k l hl => by rw [← h l hl]; exact k l hl, fun k l hl => by rw [h l hl]; exact k l hl⟩
theorem shows_ok {p : ProgD} (h : progOkB p = true) : ∀ s ∈ p.shows, s.cond.length ≤ 20 ∧ ∀ l ∈ s.cond, litB l 12 = true := by
  have ha := progOk_atoms h
  simp only [progOkB, Bool.and_eq_true, showsB, decide_eq_true_eq, List.all_eq_true] at h
  intro s hs
  have h1 := h.2.2.2.2.1.2 s hs
  simp only [showB, litsB, Bool.and_eq_true, decide_eq_true_eq, List.all_eq_true] at h1
  exact ⟨h1.2.1, fun l hl => litB_mono (h1.2.2 l hl) ha.2⟩
theorem shown_meet {p : ProgD} {xs : List Int} (h : progOkB p = true) : shownR p (pickTo (pickM xs (shAt p.shows p.shows.length)) 12) = shownR p xs := by
  rw [shownR_yes h, shownR_yes h]
  refine shown_same (fun s hs => all_congrS fun l hl => ?_) _ (Nat.le_refl _)
  refine holds_meet ((shows_ok h s hs).2 l hl) (shAt_mem (Nat.le_refl _) ?_)
  obtain ⟨j, hj, rfl⟩ := List.getElem_of_mem hs
  exact ⟨j, hj, by rw [nth_eq hj]; exact hl⟩
theorem absL_step {ls : List Int} {j : Nat} (hj : j < ls.length) : absL (ls.take (j + 1)) = absL (ls.take j) ++ [absI (el ls j)] := by
  unfold absL
  rw [take_el hj, List.map_append]
  rfl
theorem absL_all (ls : List Int) {j : Nat} (hj : ls.length ≤ j) : absL (ls.take j) = absL ls := by rw [List.take_of_length_le hj]

end Go.Proofs.Ytjainjpcpnoikaa
