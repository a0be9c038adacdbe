/-
 An external atom that is free, true, false; laws.folds, room, has; a row of external atoms copied. No condition of its own.
-/
import Derived.Test.YthikhkeofcjdfaaGreatAnsD
import Derived.Test.YthikhkeofcjdfaaGreatAnsU
import Derived.Test.YthikhkeofcjdfaaGreatLawsInts
import Derived.Test.YthikhkeofcjdfaaGreatCopyL
namespace Go.Proofs.YthikhkeofcjdfaaGreat
set_option linter.unusedVariables false
set_option linter.unusedSimpArgs false
open Go.RowKit
set_option maxRecDepth 100000

theorem hasB_memO {xs : List Int} {a : Int} : hasB xs a = true ↔ a ∈ xs := by unfold hasB; exact decide_eq_true_iff
theorem least_same {rs rs' : List RuleD} {xs : List Int} (hw : Wts rs) (hw' : Wts rs') (h : ∀ c, IsP c → (Closed rs xs false c ↔ Closed rs' xs false c)) : leastL rs xs false = leastL rs' xs false :=
 least_isP.eq least_isP (least_min hw ((h _ least_isP).2 least_closed)) (least_min hw' ((h _ least_isP).1 least_closed))
theorem closed_app {A B : List RuleD} {xs c : List Int} : Closed (A ++ B) xs false c ↔ Closed A xs false c ∧ Closed B xs false c := by
 unfold Closed
 constructor
 ·intro h; exact ⟨fun r hr => h r (List.mem_append_left _ hr), fun r hr => h r (List.mem_append_right _ hr)⟩
 ·rintro ⟨h1, h2⟩ r hr
  rcases List.mem_append.1 hr with hr | hr
  ·exact h1 r hr
  ·exact h2 r hr
def extD (p : ProgD) (v : Int) (e : Int × Int) (es : List (Int × Int)) : ProgD := { p with exts := (e.1, v) :: es }
theorem extTo_cons (rs : List RuleD) (e : Int × Int) (es : List (Int × Int)) : ∀ k, extTo rs (e :: es) (k + 1) = (if keepB rs e then [extRule e] else []) ++ extTo rs es k
 | 0 => by
  show (if keepB rs e then ([] : List RuleD) ++ [extRule e] else []) = _
  unfold extTo
  split <;> rfl
 | k + 1 => by
  have ih := extTo_cons rs e es k
  have e1 : nth (e :: es) (k + 1) = nth es k := rfl
  cases hk : keepB rs (nth es k)
  ·rw [extTo_no (es := e :: es) (by rw [e1]; exact hk), ih, extTo_no hk]
  ·rw [extTo_yes (es := e :: es) (by rw [e1]; exact hk), ih, extTo_yes hk, e1, List.append_assoc]
section
variable {p : ProgD} {e : Int × Int} {es : List (Int × Int)} {v : Int}
def restR (p : ProgD) (es : List (Int × Int)) : List RuleD := extTo p.rules es es.length ++ asmR p
def firstR (p : ProgD) (a v : Int) : List RuleD := if keepB p.rules (a, v) then [extRule (a, v)] else []
end
section
variable {p : ProgD} {e : Int × Int} {es : List (Int × Int)} {x : List Int}
theorem heads_no {rs : List RuleD} {a : Int} (ha : 1 ≤ a ∧ a ≤ 12) : ∀ {k : Nat}, hasB (headsL rs k) a = false → ∀ i, i < k → hasB (nth rs i).heads a = false
 | 0, _, _, hi => absurd hi (by omega)
 | k + 1, h, i, hi => by
  rw [has_heads, show headsM rs (k + 1) = headsM rs k ||| maskOf (nth rs k).heads from rfl, hasM_bit _ _ ha, Nat.testBit_or, Bool.or_eq_false_iff, ← hasM_bit _ _ ha, ← hasM_bit _ _ ha, hasM_maskOf _ _ ha, ← has_heads] at h
  rcases Nat.lt_or_ge i k with hik | hik
  ·exact heads_no ha h.1 i hik
  ·obtain rfl : i = k := by omega
   exact h.2
theorem exts_up {n : Int} (h : extsB (e :: es) n = true) : ∀ k, k < es.length → e.1 < (nth es k).1
 | 0, hk => by
  simp only [extsB, Bool.and_eq_true] at h
  have h8 := toB_at (k := 1) h.2 (by show 1 < es.length + 1; omega)
  simp only [extB, Bool.and_eq_true, btwB, decide_eq_true_eq] at h8
  have e1 : nth (e :: es) 1 = nth es 0 := rfl
  have e2 : nth (e :: es) (1 - 1) = e := rfl
  rw [e1, e2] at h8
  have := h8.1.2
  omega
 | k + 1, hk => by
  have ih := exts_up h k (by omega)
  simp only [extsB, Bool.and_eq_true] at h
  have h8 := toB_at (k := k + 2) h.2 (by show k + 2 < es.length + 1; omega)
  simp only [extB, Bool.and_eq_true, btwB, decide_eq_true_eq] at h8
  have e1 : nth (e :: es) (k + 2) = nth es (k + 1) := rfl
  have e2 : nth (e :: es) (k + 2 - 1) = nth es k := rfl
  rw [e1, e2] at h8
  have := h8.1.2
  omega
end

theorem folds_calls {cs : List Value} {p : ProgD} {w : World} (h : Rd.R w cs p) :
  Calls Tryz.prog 64 #[.agg cs.toArray] w fun e w' => e = .returned (.bool (foldB p)) ∧ Below w.heap.size w w' := by
 obtain ⟨p0, p1, p2, p3, p4, p5, p6, p7, rfl⟩ := list8 (Rd.len h)
 have t0 : Below w.heap.size w (w.alloc (.cells #[p0, p1, p2, p3, p4, p5, p6, p7] 30)) := (Below.refl _ _).alloc (by simp) _
 go_enter Tryz.func64, Tryz.ntmps64
 go_wp2_with fail
 refine (specFold_calls (Rd.mono t0 h)).mono ?_
 rintro e w1 ⟨cs1, rfl, o1, b1⟩
 have l1 := Rd.one o1.rd
 obtain ⟨x0, x1, x2, x3, x4, x5, x6, x7, rfl⟩ := list8 (Rd.len o1.rd)
 have st0 := sto Tryz.prog (l1 x0 (by simp))
 have st1 := sto Tryz.prog (l1 x1 (by simp))
 have st2 := sto Tryz.prog (l1 x2 (by simp))
 have st3 := sto Tryz.prog (l1 x3 (by simp))
 have st4 := sto Tryz.prog (l1 x4 (by simp))
 have st5 := sto Tryz.prog (l1 x5 (by simp))
 have st6 := sto Tryz.prog (l1 x6 (by simp))
 have st7 := sto Tryz.prog (l1 x7 (by simp))
 have t1 := t0.step b1
 go_wp2
 go_ret
 exact ⟨rfl, by first | exact t1 | exact t1.alloc t1.size _⟩


set_option maxHeartbeats 1000000 in
theorem room_calls {cs : List Value} {p : ProgD} {w : World} (h : Rd.R w cs p) (hF : foldB p = true) :
  Calls Tryz.prog 14 #[.agg cs.toArray, .int .i64 1] w fun e w' => e = .returned (.bool (decide (p.rules.length + p.exts.length + p.assume.length + 1 ≤ 60))) ∧ Below w.heap.size w w' := by
 have h0 := h
 obtain ⟨c1, c2, c4, c5, c6, c7, rfl, -, g1, g2, g4, g5, g6, g7⟩ := h0
 obtain ⟨a1, k1, rfl, _, _⟩ := g1.sl
 obtain ⟨a6, k6, rfl, _, _⟩ := g6.sl
 obtain ⟨a7, k7, rfl, _, _⟩ := g7.sl
 have hp : progOkB p = true := by simp only [foldB, Bool.and_eq_true] at hF; exact hF.1
 have b1 := (progOk_rules hp).1
 have b2 := progOk_exts_len hp
 have b3 := (progOk_asm hp).1
 have t0 : Below w.heap.size w (w.alloc (.cells #[.int .i64 p.atoms, .slice a1 p.rules.length k1, c2, .bool p.projOn, c4, c5, .slice a6 p.exts.length k6, .slice a7 p.assume.length k7] 30)) := (Below.refl _ _).alloc (by simp) _
 have CX := Cells.new w [.int .i64 p.atoms, .slice a1 p.rules.length k1, c2, .bool p.projOn, c4, c5, .slice a6 p.exts.length k6, .slice a7 p.assume.length k7] 30
 have w1 : IntKind.i64.wrap ((p.rules.length : Int) + p.exts.length) = (p.rules.length : Int) + p.exts.length := IntWalk.i64_in _ (by omega)
 have w2 : IntKind.i64.wrap ((p.rules.length : Int) + p.exts.length + p.assume.length) = (p.rules.length : Int) + p.exts.length + p.assume.length := IntWalk.i64_in _ (by omega)
 have w3 : IntKind.i64.wrap ((p.rules.length : Int) + p.exts.length + p.assume.length + 1) = (p.rules.length : Int) + p.exts.length + p.assume.length + 1 := IntWalk.i64_in _ (by omega)
 have hv : Hid ((decide ((p.rules.length : Int) + p.exts.length + p.assume.length + 1 ≤ 60)) = decide (p.rules.length + p.exts.length + p.assume.length + 1 ≤ 60)) := by show _ = _; rw [decide_eq_decide]; omega
 clear g1 g2 g4 g5 g6 g7 b1 b2 b3 hp
 go_enter Tryz.func14, Tryz.ntmps14
 go_wp2_with fail
 refine (folds_calls (Rd.mono t0 h)).mono ?_
 rintro e w4 ⟨he, b4⟩
 rw [hF] at he
 subst he
 obtain ⟨y0, y1, y2, y3, y4, y5, y6, y7⟩ := cells8 (CX.later b4)
 have t4 := t0.step b4
 clear CX hF
 go_wp2
 go_ret
 exact ⟨ret_bool hv.out, t4⟩


end Go.Proofs.YthikhkeofcjdfaaGreat
