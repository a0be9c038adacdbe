/-
  The answers, ranged over. No condition of its own.
-/
import Derived.Test.YtiddellnmfckfaaGreatIter
namespace Go.Proofs.YtiddellnmfckfaaGreat
set_option linter.unusedVariables false
set_option linter.unusedSimpArgs false
open Go.RowKit Go.Shelf
set_option maxRecDepth 100000

attribute [local go_sem] Oper.semAt_some

def ansN (p : ProgD) : List Nat := if foldB p then ansP (foldD p) else []
theorem ansN_no {p : ProgD} (h : foldB p = false) : ansN p = [] := by simp [ansN, h]
theorem ansN_yes {p : ProgD} (h : foldB p = true) : ansN p = ansP (foldD p) := by simp [ansN, h]
theorem wideD {F : Fence} (hF : F = Fence.wide) : F.depth = none := by subst hF; rfl
/-- Those of a list that are answers. -/
def flA (q : ProgD) (xs : List MaskI) : List MaskI := xs.filter fun x => ansQ q (mset x.1)
theorem flA_yes {q : ProgD} {xs : List MaskI} {x : MaskI} (h : ansQ q (mset x.1) = true) : flA q (xs ++ [x]) = flA q xs ++ [x] := by simp [flA, h]
theorem flA_no {q : ProgD} {xs : List MaskI} {x : MaskI} (h : ansQ q (mset x.1) = false) : flA q (xs ++ [x]) = flA q xs := by simp [flA, h]
theorem flA_len (q : ProgD) (xs : List MaskI) : (flA q xs).length ≤ xs.length := List.length_filter_le _ _
theorem flA_all {q : ProgD} {xs : List MaskI} (h : xs.map (·.1) = subsTo (headsM q.rules q.rules.length) (headsM q.rules q.rules.length + 1)) : (flA q xs).map (·.1) = ansP q := by
  unfold ansP flA
  rw [← h, List.filter_map]
  rfl
/-- What lay from n0 on when the loop began lies there still, and no caller may write it. -/
def Fr (Z : World → Nat → Prop) (n0 : Nat) (A X : World) : Prop := A.heap.size ≤ X.heap.size ∧ ∀ g, n0 ≤ g → g < A.heap.size → X.heap[g]? = A.heap[g]? ∧ ¬ Z X g
theorem Fr.turn {Z : World → Nat → Prop} {n0 : Nat} {A X Y : World} {row : Option Nat} (h : Fr Z n0 A X) (hZ : ZOk n0 Z) (hn : n0 ≤ A.heap.size) (hg : X.grownBy Y row) (hr : ∀ r, row = some r → A.heap.size ≤ r ∧ ∃ o : Obj, X.heap[r]? = some o ∧ o.isCells = false) : Fr Z n0 A Y :=
  ⟨Nat.le_trans h.1 hg.size, fun g h1 h2 => ⟨(hg.block g (by have := h.1; omega) fun e => by have := (hr g e.symm).1; omega).trans (h.2 g h1 h2).1,
    fun hz => (h.2 g h1 h2).2 (hZ X Y row (Nat.le_trans hn h.1) hg (fun r e => ⟨by have := (hr r e).1; omega, (hr r e).2⟩) g hz)⟩⟩
theorem Fr.kp {Z : World → Nat → Prop} {n0 : Nat} {A X Y : World} (h : Fr Z n0 A X) (k : KpZ Z n0 X Y) : Fr Z n0 A Y :=
  ⟨Nat.le_trans h.1 k.size, fun g h1 h2 => by
    obtain ⟨e1, e2⟩ := h.2 g h1 h2
    have hl := h.1
    have hx : X.heap[g]? = some X.heap[g] := Array.getElem?_eq_getElem (by omega)
    refine ⟨?_, fun hz => (k.z g hz).elim e2 fun h' => by omega⟩
    rw [k.same g _ h1 hx e2, ← e1, hx]⟩

set_option maxHeartbeats 4000000 in
theorem answers_seq {F : Fence} (hF : F = Fence.wide) (n : Nat) (hn : 6 ≤ n) {cs : List Value} {p : ProgD} (w : World) (Bp : Nat) (hR : Rd.R w cs p) (hb : Cells w Bp 0 cs) (m0 : Nat) :
    SeqN F n Tryz.prog 92 #[.pointer (some ⟨Bp, 0, none⟩)] (fun x : MaskI => #[Value.int .u16 (x.1 : Int)]) (fun ys => ys.map (·.1) = ansN p) 4096 m0 w := fun Z l J W hW hZ hZB hz0 hmW hJ hY h0 => by
  have hro := wideR hF
  have hd := wideD hF
  have hn1 : 1 ≤ n - 1 := by omega
  have hn0 : 1 ≤ n := by omega
  have hbW := hb.later hW
  have hRW := Rd.mono hW hR
  obtain ⟨p0, p1, p2, p3, p4, p5, p6, p7, rfl⟩ := list8 (Rd.len hR)
  obtain ⟨y0, y1, y2, y3, y4, y5, y6, y7⟩ := cells8 hbW
  have hbl := hbW.lt
  have bA : Below W.heap.size W (W.alloc (.cells #[.func (.yield l) #[] #[]] 62)) := (Below.refl _ _).alloc (Nat.le_refl _) _
  have hFo := fun (k : Nat) => Lib.hid (wideC (n := k) hF (implFold_calls (w := W.alloc (.cells #[.func (.yield l) #[] #[]] 62)) (Rd.mono bA hRW)))
  have hHe := fun (k : Nat) (cs : List Value) (w : World) (h : Rd.R w cs (foldD p)) => Lib.hid (wideC (n := k) hF (heads_calls h))
  have hPa := fun (k : Nat) (m : Nat) (w : World) => Lib.hid (wideC (n := k) hF (partsSeq_calls m w))
  have hf1 : F.fn 40 := wideF hF _
  have hf2 : F.fn 93 := wideF hF _
  have hf3 : F.fn 94 := wideF hF _
  have hf4 : F.fn 42 := wideF hF _
  have hf5 : F.fn 131 := wideF hF _
  have HF := Lib.hid hF
  refine callsIn_of_wp_marks Tryz.func92 rfl (wideF hF _) ?_ hro
  clear hF
  simp only [Tryz.ntmps92, List.size_toArray, List.length_cons, List.length_nil, Nat.reduceAdd, Nat.reduceSub, Array.replicate_succ, Array.replicate_zero, List.push_toArray, List.append_toArray, List.nil_append, List.cons_append]
  cases hB : foldB p
  · have hNo := Lib.hid (ansN_no hB)
    gi_wp2_with (gi_at_call 40; refine (hFo _).out.mono ?_; rintro e w1 ⟨cs1, he, o1, b1⟩; rw [hB] at he; subst he; have t1 := bA.step b1; have l1 := Rd.one o1.rd; obtain ⟨x0, x1, x2, x3, x4, x5, x6, x7, rfl⟩ := list8 (Rd.len o1.rd); have st0 := sto Tryz.prog (l1 x0 (by simp)); have st1 := sto Tryz.prog (l1 x1 (by simp)); have st2 := sto Tryz.prog (l1 x2 (by simp)); have st3 := sto Tryz.prog (l1 x3 (by simp)); have st4 := sto Tryz.prog (l1 x4 (by simp)); have st5 := sto Tryz.prog (l1 x5 (by simp)); have st6 := sto Tryz.prog (l1 x6 (by simp)); have st7 := sto Tryz.prog (l1 x7 (by simp)); clear l1)
    have t2 := t1.alloc t1.size (.cells #[x0, x1, x2, x3, x4, x5, x6, x7] 36)
    exact ⟨_, results_none rfl _ _ _, ⟨_, rfl⟩, [], by rw [hNo.out]; rfl, hJ [] W _ none h0 (below_grown t2) (fun r e => by cases e), t2.size⟩
  · have hYes := Lib.hid (ansN_yes hB)
    have hok : progOkB (foldD p) = true := foldR_ok hB
    have hfo : Hid (foldR p = foldD p) := foldR_yes hB
    have hH := headsM_lt (foldD p).rules (foldD p).rules.length
    gi_wp2_with (first | (gi_at_call 40; refine (hFo _).out.mono ?_; rintro e w1 ⟨cs1, he, o1, b1⟩; rw [hB] at he; rw [hfo.out] at o1; subst he; have t1 := bA.step b1; have l1 := Rd.one o1.rd; obtain ⟨x0, x1, x2, x3, x4, x5, x6, x7, rfl⟩ := list8 (Rd.len o1.rd); have st0 := sto Tryz.prog (l1 x0 (by simp)); have st1 := sto Tryz.prog (l1 x1 (by simp)); have st2 := sto Tryz.prog (l1 x2 (by simp)); have st3 := sto Tryz.prog (l1 x3 (by simp)); have st4 := sto Tryz.prog (l1 x4 (by simp)); have st5 := sto Tryz.prog (l1 x5 (by simp)); have st6 := sto Tryz.prog (l1 x6 (by simp)); have st7 := sto Tryz.prog (l1 x7 (by simp)); clear l1; have o2 := o1.alloc (.cells #[x0, x1, x2, x3, x4, x5, x6, x7] 36); have cq := Cells.new w1 [x0, x1, x2, x3, x4, x5, x6, x7] 36; have t2 := t1.alloc t1.size (.cells #[x0, x1, x2, x3, x4, x5, x6, x7] 36); obtain ⟨q0, q1, q2, q3, q4, q5, q6, q7⟩ := cells8 cq) |
      (gi_at_call 93; refine (hHe _ _ _ o2.rd).out.mono ?_; rintro e w3 ⟨rfl, b3⟩; have t3 := t2.step b3; have o3 := o2.later b3; have c3 := cq.later b3) |
      (gi_at_call 94; refine (hPa _ _ _).out.mono ?_; rintro e w4 ⟨rfl, e4⟩))
    have hZ4 : w3.heap.size < w4.heap.size := by rw [e4, World.size_alloc]; omega
    have b34 : Below w3.heap.size w3 w4 := by rw [e4]; exact (Below.refl _ _).alloc (Nat.le_refl _) _
    have hbx : Boxed w4 w3.heap.size 64 (.int .u16 (headsM (foldD p).rules (foldD p).rules.length : Int)) := by rw [e4]; exact Boxed.new _ _ _
    have t4 := t3.step b34
    have s4 := t4.size
    have s3 := t3.size
    have o4 := o3.later b34
    have c4 := c3.later b34
    have s1 := b1.size
    rw [World.size_alloc] at s1
    have hyb : Boxed w4 W.heap.size 62 (.func (.yield l) #[] #[]) := by
      have h1 := Boxed.new W 62 (.func (.yield l) #[] #[])
      have h2 : Boxed w1 W.heap.size 62 (.func (.yield l) #[] #[]) := (b1.block W.heap.size (by rw [World.size_alloc]; omega)).trans h1
      have h3 := h2.alloc (.cells #[x0, x1, x2, x3, x4, x5, x6, x7] 36)
      have h4 : Boxed w3 W.heap.size 62 (.func (.yield l) #[] #[]) := (b3.block W.heap.size h3.lt).trans h3
      exact (b34.block W.heap.size h4.lt).trans h4
    have g4 : W.grownBy w4 none := below_grown t4
    have nr : ∀ (r : Nat), (none : Option Nat) = some r → W.heap.size ≤ r ∧ ∃ o : Obj, W.heap[r]? = some o ∧ o.isCells = false := fun r e => by cases e
    have zb4 : ZB Z w4 := hZB.turn hZ (Nat.le_refl _) g4 nr
    have zn4 : ∀ g, W.heap.size ≤ g → ¬ Z w4 g := fun g hg hz => hz0 g (Nat.le_trans hmW hg) (hZ W w4 none (Nat.le_refl _) g4 nr g hz)
    have fr4 : Fr Z W.heap.size w4 w4 := ⟨Nat.le_refl _, fun g h1 _ => ⟨rfl, zn4 g h1⟩⟩
    have hJ4 : J [] w4 := hJ [] W w4 none h0 g4 nr
    have hK : Hid (∀ X, Fr Z W.heap.size w4 X → Rd.R X [x0, x1, x2, x3, x4, x5, x6, x7] (foldD p) ∧ Cells X w1.heap.size 0 [x0, x1, x2, x3, x4, x5, x6, x7] ∧ Boxed X W.heap.size 62 (.func (.yield l) #[] #[])) := by
      intro X hX
      obtain ⟨fp, k1, k2⟩ := o4
      exact ⟨Ow.rd (Ow.kept k1 fun g hg => (hX.2 g (by have := k2 g hg; rw [World.size_alloc] at this; omega) (Ow.lt k1 g hg)).1), c4.kept (hX.2 _ (by omega) c4.lt).1, (hX.2 _ (Nat.le_refl _) hyb.lt).1.trans hyb⟩
    have hAn := fun (k : Nat) (x : MaskI) (X : World) (h : Rd.R X [x0, x1, x2, x3, x4, x5, x6, x7] (foldD p)) => Lib.hid (wideC (n := k) HF.out (by
      have := answerP_calls (mset x.1) h hok (mset_isP _)
      rw [mask_mset x.2] at this
      exact this))
    have hps := parts_seq HF.out (n - 1) (by omega) _ hH w4 w3.heap.size hbx W.heap.size (by omega)
    rw [← e4]
    clear o1 o2 o3 o4 cq c3 b1 b3 b34 q0 q1 q2 q3 q4 q5 q6 q7 st0 st1 st2 st3 st4 st5 st6 st7 e4 y0 y1 y2 y3 y4 y5 y6 y7 t1 t2 t3 hFo hHe hPa HF
    refine wpIn_rangeFunc_N hro hn0 (gf := 131) (lb := #[.pointer (some ⟨w3.heap.size, 0, none⟩)]) rfl hf5 (enters_of Tryz.func131 (by kernel_rfl) rfl)
      hps s4 (Below.refl _ _) (fun _ => rfl) Z (zok_up hZ s4) zb4 zn4
      (fun pre X => J (flA (foldD p) pre) X ∧ Fr Z W.heap.size w4 X)
      ?own ⟨hJ4, fr4⟩
      (fun x => { tmps := #[.func (.yield l) #[] #[], .pointer (some ⟨Bp, 0, none⟩), .pointer (some ⟨W.heap.size, 0, none⟩), .pointer (some ⟨w1.heap.size, 0, none⟩), .bool true, .int .u16 (x.1 : Int), .tuple #[.agg #[x0, x1, x2, x3, x4, x5, x6, x7], .bool true], .agg #[p0, p1, p2, p3, p4, p5, p6, p7], .tuple #[.agg #[x0, x1, x2, x3, x4, x5, x6, x7], .bool true], .agg #[x0, x1, x2, x3, x4, x5, x6, x7], .bool true, .bool true, .bool false, .agg #[x0, x1, x2, x3, x4, x5, x6, x7], .int .u16 (headsM (foldD p).rules (foldD p).rules.length : Int), .func (.func 131) #[] #[.pointer (some ⟨w3.heap.size, 0, none⟩)], .int .u16 (x.1 : Int), undef, undef, undef, undef, undef, undef, undef, undef, undef], defers := [] }) ?assign ?body ?done
    case own =>
      rintro s A B row ⟨h1, h2⟩ hg hr
      exact ⟨hJ _ A B row h1 hg fun r e => ⟨by have := (hr r e).1; omega, (hr r e).2⟩, h2.turn hZ s4 hg hr⟩
    case assign =>
      intro lc x X K hK
      gi_wp2
      exact hK
    case body =>
      rintro lc pre x X ⟨hj, hfr⟩ hlen hzb hsX
      obtain ⟨hRX, hcX, hyX⟩ := hK.out X hfr
      obtain ⟨q0, q1, q2, q3, q4, q5, q6, q7⟩ := cells8 hcX
      have hsW : W.heap.size ≤ X.heap.size := Nat.le_trans s4 hsX
      have hm1 : 1 ≤ n - 1 - 1 := by omega
      have nrX : ∀ (r : Nat), (none : Option Nat) = some r → W.heap.size ≤ r ∧ ∃ o : Obj, X.heap[r]? = some o ∧ o.isCells = false := fun r e => by cases e
      cases hA : ansQ (foldD p) (mset x.1)
      · have hfl := Lib.hid (flA_no (xs := pre) hA)
        gi_wp2_with (gi_at_call 42; refine (CallsIn.inRound lc (hAn _ x X hRX).out).mono ?_; rintro e X2 ⟨he, b2⟩; rw [hA] at he; subst he)
        refine ⟨fun _ h => (by cases h), ?_⟩
        gi_wp2
        have kb := kpZ_below (m0 := W.heap.size) hZ hsW hzb b2
        exact ⟨kb, by rw [hfl.out]; exact hJ _ X X2 none hj (below_grown b2) nrX, hfr.kp kb⟩
      · have hfl := Lib.hid (flA_yes (xs := pre) hA)
        have hlA := flA_len (foldD p) pre
        gi_wp2_with (gi_at_call 42; refine (CallsIn.inRound lc (hAn _ x X hRX).out).mono ?_; rintro e X2 ⟨he, b2⟩; rw [hA] at he; subst he; have kb := kpZ_below (m0 := W.heap.size) hZ hsW hzb b2; have fr2 := hfr.kp kb; have hc2 := (hK.out X2 fr2).2.2.cell; obtain ⟨fn, tmps, assign, body, hy, hR2⟩ := hY (flA (foldD p) pre) x X2 (hJ _ X X2 none hj (below_grown b2) nrX) kb.zb (Nat.le_trans hsW kb.size) (by omega))
        refine (roundIn_any hd lc hR2).mono ?_
        rintro e X3 ⟨rfl, hj3, k3⟩
        have k3' := k3.up hmW
        gi_wp2
        exact ⟨kb.trans k3', by rw [hfl.out]; exact hj3, fr2.kp k3'⟩
    case done =>
      rintro D xs X hD hS ⟨hj, hfr⟩ hK2
      gi_wp2
      have hfa := flA_all hS
      refine ⟨by simp, .inl ⟨_, _, rfl, run_takeDeferred hK2, ?_⟩⟩
      have gD := grownBy_putObj' X D (.deferred none)
      exact ⟨_, results_none rfl _ _ _, ⟨_, rfl⟩, flA (foldD p) xs, by rw [hYes.out]; exact hfa, hJ _ X _ (some D) hj gD (fun r e => by cases e; exact ⟨Nat.le_trans s4 hD, _, hK2, rfl⟩), Nat.le_trans (Nat.le_trans s4 hfr.1) gD.size⟩

end Go.Proofs.YtiddellnmfckfaaGreat
