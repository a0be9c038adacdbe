/-
  The number of the answers: what the program answers. No condition of its own.
-/
import Derived.Test.YtiddellnmfckfaaGreatIterA
import Derived.Test.YtiddellnmfckfaaGreatAnsT
namespace Go.Proofs.YtiddellnmfckfaaGreat
set_option linter.unusedVariables false
set_option linter.unusedSimpArgs false
open Go.RowKit Go.Shelf
set_option maxRecDepth 100000

attribute [local go_sem] Oper.semAt_some

theorem answersL_N (p : ProgD) : answersL p = (ansN p).map mset := by
  cases h : foldB p
  · rw [answersL_no h, ansN_no h]; rfl
  · rw [answersL_yes h, ansN_yes h]
    exact ansP_eq (foldR_ok h)
def zNo : World → Nat → Prop := fun _ _ => False
theorem zNo_ok (n0 : Nat) : ZOk n0 zNo := fun _ _ _ _ _ _ _ h => h
theorem zNo_b (W : World) : ZB zNo W := fun _ h => h.elim
theorem kpZ_set {m0 : Nat} {W : World} {b : Nat} (hb : b < m0) (v : Value) : KpZ zNo m0 W (W.setCell ⟨b, 0, none⟩ v) :=
  ⟨(grownBy_setCell' W b v).size, fun g o hg ho _ => ((grownBy_setCell' W b v).block g (Array.getElem?_eq_some_iff.1 ho).1 (fun e => by cases e; omega)).trans ho, fun _ h => h.elim, zNo_b _⟩

set_option maxHeartbeats 4000000 in
theorem implCount_calls {cs : List Value} {p : ProgD} {w : World} (h : Rd.R w cs p) :
    Calls Tryz.prog 23 #[.agg cs.toArray] w fun e w' => e = .returned (.int .i64 ((answersL p).length : Int)) ∧ Below w.heap.size w w' := by
  obtain ⟨p0, p1, p2, p3, p4, p5, p6, p7, rfl⟩ := list8 (Rd.len h)
  refine (callsIn_wide (n := 9)).1 ?_
  obtain ⟨F, hF⟩ : ∃ F, F = Fence.wide := ⟨_, rfl⟩
  rw [← hF]
  have hro := wideR hF
  have hAs := fun (k : Nat) (w : World) => Lib.hid (wideC (n := k) hF (answersSeq_calls p0 p1 p2 p3 p4 p5 p6 p7 w))
  have hf1 : F.fn 56 := wideF hF _
  have hf2 : F.fn 92 := wideF hF _
  have HF := Lib.hid hF
  refine callsIn_of_wp_marks Tryz.func23 rfl (wideF hF _) ?_ hro
  clear hF
  simp only [Tryz.ntmps23, List.size_toArray, List.length_cons, List.length_nil, Nat.reduceAdd, Nat.reduceSub, Array.replicate_succ, Array.replicate_zero, List.push_toArray, List.append_toArray, List.nil_append, List.cons_append]
  gi_wp2_with (gi_at_call 56; refine (hAs _ _).out.mono ?_; rintro e w4 ⟨rfl, e4⟩)
  have t4 : Below w.heap.size w w4 := by rw [e4]; exact (((Below.refl _ _).alloc (Nat.le_refl _) _).alloc (by simp) _).alloc (by simp; omega) _
  have z4 : w4.heap.size = w.heap.size + 3 := by rw [e4]; simp
  have bO : Boxed w4 (w.heap.size + 1) 3 (.int .i64 0) := by
    have h1 := Boxed.new (w.alloc (.cells #[p0, p1, p2, p3, p4, p5, p6, p7] 36)) 3 (.int .i64 0)
    rw [World.size_alloc] at h1
    rw [e4]; exact h1.alloc _
  have cP : Cells w4 (w.heap.size + 1 + 1) 0 [p0, p1, p2, p3, p4, p5, p6, p7] := by
    have h1 := Cells.new ((w.alloc (.cells #[p0, p1, p2, p3, p4, p5, p6, p7] 36)).alloc (.cells #[.int .i64 0] 3)) [p0, p1, p2, p3, p4, p5, p6, p7] 36
    rw [World.size_alloc, World.size_alloc] at h1
    rw [e4]; exact h1
  have hseq := answers_seq HF.out 8 (by omega) w4 (w.heap.size + 1 + 1) (Rd.mono t4 h) cP w4.heap.size
  rw [← e4]
  have hI0 : (0 : Nat) ≤ 4096 := by omega
  clear e4 hAs cP HF
  refine wpIn_rangeFunc_N hro (by omega) (gf := 92) (lb := #[.pointer (some ⟨w.heap.size + 1 + 1, 0, none⟩)]) rfl hf2 (enters_of Tryz.func92 (by kernel_rfl) rfl)
    hseq (Nat.le_refl _) (Below.refl _ _) (fun _ => rfl) zNo (zNo_ok _) (zNo_b _) (fun _ _ h => h)
    (fun pre X => Boxed X (w.heap.size + 1) 3 (.int .i64 (pre.length : Int)) ∧ Below w.heap.size w X)
    (OwnFrom.and (Own.from (boxed_own (w.heap.size + 1) 3 (fun pre : List MaskI => .int .i64 (pre.length : Int))) _) (ownFrom_below (Nat.le_refl _) (by omega))) ⟨bO, t4⟩
    (fun x => { tmps := #[.agg #[p0, p1, p2, p3, p4, p5, p6, p7], .pointer (some ⟨w.heap.size, 0, none⟩), .int .i64 0, .pointer (some ⟨w.heap.size + 1, 0, none⟩), .agg #[p0, p1, p2, p3, p4, p5, p6, p7], .func (.func 92) #[] #[.pointer (some ⟨w.heap.size + 1 + 1, 0, none⟩)], .int .u16 (x.1 : Int), undef, undef, undef], defers := [] }) ?assign ?body ?done
  case assign =>
    intro lc x X K hK
    gi_wp2
    refine Eq.mp (congrArg (fun t => K { tmps := t, defers := [] } X) ?_) hK
    first | rfl | simp
  case body =>
    rintro lc pre x X ⟨hv, hB⟩ hlen hzb hsX
    have hc := hv.cell
    have hfz := hv.frozen
    gi_wp2
    exact ⟨kpZ_set (by omega) _, hv.set _, hB.setCell (p := ⟨w.heap.size + 1, 0, none⟩) (by simp) _⟩
  case done =>
    rintro D xs X hD hS ⟨hv, hB⟩ hK2
    have hc := hv.cell
    have hl : (answersL p).length = xs.length := by rw [answersL_N, ← hS]; simp
    gi_wp2
    refine ⟨by simp, .inl ⟨_, _, rfl, run_takeDeferred hK2, ?_⟩⟩
    exact ⟨_, results_tmp rfl _ _ _, by rw [hl]; rfl, hB.trans (belowK_b (w := w) (Nat.le_refl _) X D _ _ (by omega) hK2 rfl rfl)⟩

end Go.Proofs.YtiddellnmfckfaaGreat
