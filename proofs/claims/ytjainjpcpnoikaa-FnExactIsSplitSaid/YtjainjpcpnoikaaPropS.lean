/-
  What must be: what spec answers. No condition of its own.
-/
import Derived.Test.YtjainjpcpnoikaaPropD
import Derived.Test.YtjainjpcpnoikaaLeastS
import Derived.BigQuiet
import Derived.Deep.RegionHeld3
import Derived.Deep.RegionWith
namespace Go.Proofs.Ytjainjpcpnoikaa
set_option linter.unusedVariables false
set_option linter.unusedSimpArgs false
open Go.RowKit
set_option maxRecDepth 100000
set_option linter.unusedVariables false
set_option linter.unusedSimpArgs false


theorem pow_le12 {n : Nat} (h : n ≤ 12) : 2 ^ n ≤ 4096 := by
  have : (2 : Nat) ^ n ≤ 2 ^ 12 := Nat.pow_le_pow_right (by omega) h
  omega
theorem shl_one' {n : Nat} (h1 : n ≤ 12) : wrap64 ((2 : Int) ^ ((n : Int)).toNat) = ((2 ^ n : Nat) : Int) := by
  have h2 := pow_le12 h1
  rw [Int.toNat_natCast, show (2 : Int) ^ n = ((2 ^ n : Nat) : Int) by simp]
  generalize 2 ^ n = P at *
  unfold wrap64
  omega
theorem l08All_calls (n : Nat) (w : World) (hn : n ≤ 12) :
    Calls Try.prog 61 #[.int .i64 (n : Int)] w fun e w' => ∃ v, e = .returned v ∧ OwnI w.heap.size w' v (setOfS ((2 ^ n : Nat) - 1 : Int)) ∧ Below w.heap.size w w' := by
  have hsh := shl_one' hn
  have hpw := pow_le12 hn
  rw [Int.toNat_natCast] at hsh
  obtain ⟨P, hP⟩ : ∃ P : Nat, P = 2 ^ n := ⟨_, rfl⟩
  rw [← hP] at hsh hpw ⊢
  clear hP
  go_enter Try.func61, Try.ntmps61
  go_wp2_with fail
  refine (specSetOf_calls _ _).mono ?_
  rintro e w1 ⟨v, rfl, ho, hb⟩
  go_wp2
  go_ret
  exact ⟨_, rfl, ho, hb⟩

theorem mapR_len (rs : List RuleD) (no : List Int) : (rs.map (comeR no)).length = rs.length := List.length_map ..
theorem reach_come {rs : List RuleD} {no : List Int} {k : Nat} (hk : k < rs.length) (g : Int × Int → Bool) : reachB (nth (rs.map (comeR no)) k) g = reachB (nth rs k) g := by
  rw [nth_map' hk]; rfl
theorem come_yes {rs : List RuleD} {no xs s : List Int} {k : Nat} (hk : k < rs.length) (h : reachB (nth rs k) (h2B s xs) = true) :
    stepTo (rs.map (comeR no)) xs false s (k + 1) = pickTo (pickJ (stepTo (rs.map (comeR no)) xs false s k) (pickTo (pickL (nth rs k).heads no) 12)) 12 := by
  rw [stepTo_yes (by rw [reach_come hk]; exact h), nth_map' hk, putL_F rfl]; rfl
theorem come_no {rs : List RuleD} {no xs s : List Int} {k : Nat} (hk : k < rs.length) (h : reachB (nth rs k) (h2B s xs) = false) :
    stepTo (rs.map (comeR no)) xs false s (k + 1) = stepTo (rs.map (comeR no)) xs false s k := stepTo_no (by rw [reach_come hk]; exact h)
theorem come_end {rs : List RuleD} {no xs : List Int} {n k : Nat} (h : rs.length = k) : stepTo (rs.map (comeR no)) xs false (iterL (rs.map (comeR no)) xs false n) k = iterL (rs.map (comeR no)) xs false (n + 1) := by
  rw [← h, ← mapR_len rs no]; rfl


/-! ### stores into a row of the call's own -/
theorem OwnI.blk {B : Nat} {w : World} {v : Value} {xs : List Int} (h : OwnI B w v xs) (hne : 0 < xs.length) : ∃ g cap cur, v = .slice (some ⟨g, 0, none⟩) xs.length cap ∧ B ≤ g ∧ w.heap[g]? = some (.cells cur 3 (0, 0)) := by
  obtain ⟨⟨h1, h2⟩, h3, h4⟩ := h
  rcases h2 with ⟨hv, hn⟩ | ⟨g, cap, cur, hv, hg, hh, _⟩
  · omega
  · exact ⟨g, cap, cur, hv, hg, hh⟩
theorem OwnI.setC {B : Nat} {w : World} {g n cap : Nat} {xs : List Int} (h : OwnI B w (.slice (some ⟨g, 0, none⟩) n cap) xs) {i : Nat} (hi : i < xs.length) {x : Int} (hx : Fits x) : OwnI B (w.setCell ⟨g, i, none⟩ (.int .i64 x)) (.slice (some ⟨g, 0, none⟩) n cap) (xs.set i x) := by
  obtain ⟨⟨h1, h2⟩, h3, h4⟩ := h
  rcases h2 with ⟨hv, hn⟩ | ⟨g', cap', cur, hv, hg, hh, hnc, hcm, hcs, ht⟩
  · cases hv
  · cases hv
    refine ⟨⟨by simp, .inr ⟨g, cap, cur.setIfInBounds i (.int .i64 x), by rw [List.length_set], hg, heap_setCell_same w g i _ _ _ hh, by rw [List.length_set]; exact hnc, hcm, by simpa using hcs, ?_⟩⟩, by rw [List.length_set]; exact h3, fun u hu => ?_⟩
    · rw [Array.toList_setIfInBounds, List.length_set, List.take_set, ht, List.map_set]
    · rcases List.mem_or_eq_of_mem_set hu with hu | rfl
      · exact h4 u hu
      · exact hx
theorem OwnI.setB {B : Nat} {w : World} {v : Value} {xs : List Int} (h : OwnI B w v xs) {a : Addr} (ha : a.block < B) (u : Value) : OwnI B (w.setCell a u) v xs := ⟨ownsRow_setCell_below h.1 ha u, h.2⟩
/-- What a slice of ints reads as. -/
def rdI (w : World) (a : Option Addr) (n : Nat) : List Int := (List.range n).map fun i => match a with
  | some p => (match w.cell? ⟨p.block, p.off + i, none⟩ with | some (.int _ x) => x | _ => 0)
  | none => 0
theorem rdI_eq {w : World} {a : Option Addr} {xs : List Int} (h : Ints w a xs) : rdI w a xs.length = xs := by
  refine list_ext_el (by simp [rdI]) fun i hi => ?_
  have hi' : i < xs.length := by simpa [rdI] using hi
  obtain ⟨b, off, rfl, hc⟩ := h.2.2 i hi'
  rw [el_eq hi]
  simp [rdI, hc]
def addrOf : Value → Option Addr
  | .slice a _ _ => a
  | _ => none



end Go.Proofs.Ytjainjpcpnoikaa
