/-
 AtomsOf: what spec.AtomsOf and impl.AtomsOf answer. No condition of its own.
-/
import Derived.Test.YthikhkeofcjdfaaGreatAppend
import Derived.Test.YthikhkeofcjdfaaGreatHolds
import Derived.Test.YthikhkeofcjdfaaGreatImplRule
import Derived.Test.YthikhkeofcjdfaaGreatLawsTo
namespace Go.Proofs.YthikhkeofcjdfaaGreat
set_option linter.unusedVariables false
set_option linter.unusedSimpArgs false
open Go.RowKit
set_option maxRecDepth 100000

/-- The atom that a literal names, as the model has it. -/
def atomS (l : Int) : Int := if -12 ≤ l ∧ l ≤ -1 then -l else l
/-- The set of the atoms of a list of numbers. -/
def setOfL (xs : List Int) : List Int := pickTo (hasB xs) 12
def atomsB (r : RuleD) : List Int := setOfL (r.heads ++ r.body.map fun p => atomS p.1)

theorem setOfL_pick (xs : List Int) : pickTo (pickJ xs []) 12 = setOfL xs :=
 pickTo_congr fun x h1 h2 => by unfold pickJ pickF; simp [hasB]
theorem setOfL_mask (xs : List Int) : pickTo (hasM (maskOf xs)) 12 = setOfL xs := pickTo_congr fun x h1 h2 => hasM_maskOf xs x ⟨h1, by omega⟩
theorem atomS_same {l x : Int} (hl : Fits l) (h : 1 ≤ x ∧ x ≤ 12) : (atomI l = x) ↔ (atomS l = x) := by
 unfold Fits at hl
 unfold atomI atomS
 split
 ·split <;> omega
 ·split <;> split <;> omega
theorem atoms_same {r : RuleD} (hf : FitsR r) : setOfL (r.heads ++ r.body.map fun p => atomI p.1) = atomsB r := by
 unfold atomsB setOfL
 refine pickTo_congr fun x h1 h2 => ?_
 unfold hasB
 rw [decide_eq_decide]
 simp only [List.mem_append, List.mem_map]
 constructor
 ·rintro (h | ⟨p, hp, e⟩)
  ·exact .inl h
  ·exact .inr ⟨p, hp, (atomS_same (hf.2 p hp).1 ⟨h1, by omega⟩).1 e⟩
 ·rintro (h | ⟨p, hp, e⟩)
  ·exact .inl h
  ·exact .inr ⟨p, hp, (atomS_same (hf.2 p hp).1 ⟨h1, by omega⟩).2 e⟩
theorem atomS_fits {l : Int} (h : Fits l) : Fits (atomS l) := by
 unfold Fits at *; unfold atomS; split <;> omega

/-- The heads, and what the first k literals give. -/
def headsTo (r : RuleD) (f : Int → Int) (k : Nat) : List Int := r.heads ++ (r.body.take k).map fun p => f p.1
theorem headsTo_zero (r : RuleD) (f : Int → Int) : headsTo r f 0 = r.heads := by simp [headsTo]
theorem headsTo_succ {r : RuleD} (f : Int → Int) {k : Nat} (hk : k < r.body.length) : headsTo r f (k + 1) = headsTo r f k ++ [f (nth r.body k).1] := by
 unfold headsTo; rw [take_nth hk, List.map_append, ← List.append_assoc]; rfl
theorem headsTo_end {r : RuleD} (f : Int → Int) {k : Nat} (hk : r.body.length ≤ k) : headsTo r f k = r.heads ++ r.body.map fun p => f p.1 := by unfold headsTo; rw [List.take_of_length_le hk]
theorem headsTo_len (r : RuleD) (f : Int → Int) (k : Nat) : (headsTo r f k).length ≤ r.heads.length + r.body.length := by
 unfold headsTo; rw [List.length_append, List.length_map, List.length_take]; omega
theorem map_take {α β : Type} [Inhabited α] (f : α → β) {xs : List α} {k : Nat} (hk : k < xs.length) : (xs.take (k + 1)).map f = (xs.take k).map f ++ [f (nth xs k)] := by
 rw [take_nth hk, List.map_append]; rfl

theorem Cells.below {B : Nat} {w w' : World} {b o : Nat} {cs : List Value} (h : Cells w b o cs) (hb : Below B w w') (hl : b < B) : Cells w' b o cs := h.kept (hb.block b hl)

set_option maxHeartbeats 2000000 in
theorem specAtomsOf_calls {cs : List Value} {r : RuleD} {w : World} (h : Rd.R w cs r) (hs : Sm.S r) :
  Calls Tryz.prog 106 #[.agg cs.toArray] w fun e w' => ∃ v, e = .returned v ∧ OwnI w.heap.size w' v (atomsB r) ∧ Below w.heap.size w w' := by
 obtain ⟨i0, hi, hz0, hz1, hz2⟩ := info_parts info_int
 have hfr := Lib.hid (rd_rule h).2
 obtain ⟨hs1, hs4⟩ := hs
 have hl1 : r.heads.length ≤ 1048576 := hs1.1
 have hl4 : r.body.length ≤ 1048576 := hs4.1
 obtain ⟨c1, c4, rfl, hf, g1, g4⟩ := h
 obtain ⟨ah, ch, rfl, _, h1⟩ := g1.sl
 obtain ⟨ab, cb, rfl, _, h4⟩ := g4.sl
 have hm4 := h4.1
 have hAt := Lib.hid (setOfL_pick (r.heads ++ r.body.map fun p => atomS p.1))
 have tA : Below w.heap.size w ((w.alloc (.cells #[.bool r.choice, .slice ah r.heads.length ch, .bool r.weight, .int .i64 r.bound, .slice ab r.body.length cb] 34)).alloc (.cells #[] 3)) := ((Below.refl _ _).alloc (by simp) _).alloc (by simp) _
 have hoA : OwnI (w.heap.size + 1) ((w.alloc (.cells #[.bool r.choice, .slice ah r.heads.length ch, .bool r.weight, .int .i64 r.bound, .slice ab r.body.length cb] 34)).alloc (.cells #[] 3)) (.slice (some ⟨w.heap.size + 1, 0, none⟩) 0 0) [] := by
  have := OwnI.new (w.alloc (.cells #[.bool r.choice, .slice ah r.heads.length ch, .bool r.weight, .int .i64 r.bound, .slice ab r.body.length cb] 34)) (w.heap.size + 1) (by simp)
  rwa [World.size_alloc] at this
 have CX := (Cells.new w [.bool r.choice, .slice ah r.heads.length ch, .bool r.weight, .int .i64 r.bound, .slice ab r.body.length cb] 34).alloc (.cells #[] 3)
 have HCX := Lib.hid CX
 clear g4 hf CX hs1 hs4
 go_enter Tryz.func106, Tryz.ntmps106
 go_wp2_with (at_builtin; refine wpList_append_flat (α := Int) rfl _ _ 26 rfl i0 (.int .i64 0) 8 Tryz.underlying26 hi hz0 hz1 hz2 rfl rfl hoA.flat rfl (Rd.mono (α := List Int) tA g1) (by simp; omega) (by simp; omega) (by simp) ?_; intro v1 w1 ho1 hb1 _)
 rw [List.nil_append] at ho1
 have ho1 := ho1.ints (by omega)
 have hX1 := Lib.hid (HCX.out.below hb1 (by omega))
 have t1 : Below w.heap.size w w1 := tA.trans (hb1.mono (by omega))
 have hz1 := hb1.size
 rw [World.size_alloc, World.size_alloc] at hz1
 obtain ⟨y0, y1, y2, y3, y4⟩ := cells5 hX1.out
 clear hoA tA HCX hb1
 clear y0 y1 y2 y3 y4
 by_cases hne : 0 < r.body.length
 ·obtain ⟨b, off, rfl, hcb⟩ := h4.base hne
  have HCB := Lib.hid hcb
  clear hcb h4
  go_loopw [3, 4, 5] (fun v i _ wr => ∃ k : Nat, k ≤ r.body.length ∧ i = .int .i64 k ∧ OwnI (w.heap.size + 1) wr v (headsTo r atomS k) ∧ Hid (Cells wr w.heap.size 0 [.bool r.choice, .slice ah r.heads.length ch, .bool r.weight, .int .i64 r.bound, .slice (some ⟨b, off, none⟩) r.body.length cb]) ∧ Below w.heap.size w wr) (fun _ i _ _ => r.body.length - (intOf i).toNat)
  case atStart => exact ⟨0, Nat.zero_le _, rfl, by rw [headsTo_zero]; exact ho1, hX1, t1⟩
  case round =>
   obtain ⟨k, hk, rfl, ho, hX, hb⟩ := hrel
   have hsz := hX.out.lt
   obtain ⟨y0, y1, y2, y3, y4⟩ := cells5 hX.out
   by_cases hlt : k < r.body.length
   ·obtain ⟨ecs, hC, hR⟩ := HCB.out k hlt
    have hC := hC.later hb
    obtain ⟨rfl, hF, hf1⟩ := hR
    have u0 := hC.c0
    rw [show Rd.k (Int × Int) = 2 from rfl] at u0
    have hmt := Lib.hid (headsTo_succ atomS hlt)
    have hF' := atomS_fits hF
    have hkk : (headsTo r atomS k).length ≤ 1000000000 := by have := headsTo_len r atomS k; omega
    have hF2 := hF
    unfold Fits at hF2
    obtain ⟨q0, q1⟩ := hF2
    clear hC
    by_cases hn : -12 ≤ (nth r.body k).1 ∧ (nth r.body k).1 ≤ -1
    ·have hbt := btwB_yes hn.1 hn.2
     have hat : atomS (nth r.body k).1 = -(nth r.body k).1 := if_pos hn
     rw [hat] at hF'
     have hmt : Hid (headsTo r atomS (k + 1) = headsTo r atomS k ++ [-(nth r.body k).1]) := by
      have := hmt.out; rw [hat] at this; exact this
     clear hat
     try obtain ⟨hn0, hn1⟩ := hn
     try clear hn
     go_wp2_with (first | (go_at_call 66; refine (between_calls _ _ _ _).mono ?_; rintro e w' ⟨rfl, rfl⟩) | (at_builtin; refine wpList_append_int rfl _ _ rfl rfl ho rfl hkk hF' (by omega) ?_; intro v' w' ho' hb' hg'))
     go_roundw
     case rel => exact ⟨k + 1, by omega, by go_num, by rw [hmt.out]; exact ho', hX.out.below hb' (by omega), hb.trans (hb'.mono (by omega))⟩
     case measure => simp [intOf]; omega
    ·have hbt := btwB_no hn
     have hat : atomS (nth r.body k).1 = (nth r.body k).1 := if_neg hn
     rw [hat] at hF'
     have hmt : Hid (headsTo r atomS (k + 1) = headsTo r atomS k ++ [(nth r.body k).1]) := by
      have := hmt.out; rw [hat] at this; exact this
     clear hat
     try obtain ⟨hn0, hn1⟩ := hn
     try clear hn
     go_wp2_with (first | (go_at_call 66; refine (between_calls _ _ _ _).mono ?_; rintro e w' ⟨rfl, rfl⟩) | (at_builtin; refine wpList_append_int rfl _ _ rfl rfl ho rfl hkk hF' (by omega) ?_; intro v' w' ho' hb' hg'))
     go_roundw
     case rel => exact ⟨k + 1, by omega, by go_num, by rw [hmt.out]; exact ho', hX.out.below hb' (by omega), hb.trans (hb'.mono (by omega))⟩
     case measure => simp [intOf]; omega
   ·have hAe : Hid (pickTo (pickJ (headsTo r atomS k) []) 12 = atomsB r) := by show _ = _; rw [headsTo_end atomS (show r.body.length ≤ k by omega)]; exact hAt.out
    obtain ⟨p, c, hv, _, _⟩ := ho.open
    subst hv
    go_wp2_with fail
    refine (specSetJoin_calls p (some ⟨wr.heap.size, 0, none⟩) (headsTo r atomS k) [] c 0 _ (ho.ints.later ((Below.refl _ _).alloc (Nat.le_refl _) _)) (OwnI.new _ _ (Nat.le_refl _)).ints).mono ?_
    rintro e w2 ⟨v2, rfl, ho2, hb2⟩
    rw [hAe.out] at ho2
    go_wp2
    go_ret
    exact ⟨_, rfl, ho2.mono (by have := hb.size; simp; omega), (hb.alloc hb.size _).step hb2⟩
 ·have hbn : r.body = [] := by cases hh : r.body <;> simp_all
  have hbl : (r.body.length : Int) = 0 := by rw [hbn]; rfl
  have hA2 : Hid (pickTo (pickJ r.heads []) 12 = atomsB r) := by show _ = _; rw [setOfL_pick]; unfold atomsB; rw [hbn]; simp
  have hX1' := hX1.out
  obtain ⟨y0, y1, y2, y3, y4⟩ := cells5 hX1'
  obtain ⟨p, c, hv, _, _⟩ := ho1.open
  subst hv
  clear h4 hne hbn hm4 hX1'
  refine wp_loop_rounds 1 ?_
  rw [rounds_succ]
  go_wp2_with fail
  refine (specSetJoin_calls p (some ⟨w1.heap.size, 0, none⟩) r.heads [] c 0 _ (ho1.ints.later ((Below.refl _ _).alloc (Nat.le_refl _) _)) (OwnI.new _ _ (Nat.le_refl _)).ints).mono ?_
  rintro e w2 ⟨v2, rfl, ho2, hb2⟩
  rw [hA2.out] at ho2
  go_wp2
  go_ret
  exact ⟨_, rfl, ho2.mono (by have := t1.size; simp; omega), (t1.alloc t1.size _).step hb2⟩

theorem join_calls (a b : Nat) (w : World) (ha : a < 4096) (hb : b < 4096) :
  Calls Tryz.prog 175 #[.int .u16 (a : Int), .int .u16 (b : Int)] w fun e w' => e = .returned (.int .u16 ((a ||| b : Nat) : Int)) ∧ w = w' := by
 have hor := or_u16 a b ha hb
 go_enter Tryz.func175, Tryz.ntmps175
 go_wp2
 go_ret
 exact ⟨rfl, rfl⟩

end Go.Proofs.YthikhkeofcjdfaaGreat
