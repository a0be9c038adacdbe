/-
  A range over a function that ranges over another one itself: whose rounds go on till the end. No condition of its own.
-/
import Derived.Test.YtiddellnmfckfaaGreatSeq
namespace Go.Proofs.YtiddellnmfckfaaGreat
set_option linter.unusedVariables false
set_option linter.unusedSimpArgs false
open Go.RowKit Go.Shelf
set_option maxRecDepth 100000

theorem below_grown {A B : World} (h : Below A.heap.size A B) : A.grownBy B none := ⟨h.os, h.tape, h.output, h.size, fun k hk _ => h.block k hk⟩

/-- Z: the blocks that a caller's rounds may write, told by the world: the iterator's own work changes nothing about that. -/
def ZOk (n0 : Nat) (Z : World → Nat → Prop) : Prop :=
  ∀ (A B : World) (row : Option Nat), n0 ≤ A.heap.size → A.grownBy B row → (∀ r, row = some r → n0 ≤ r ∧ ∃ o : Obj, A.heap[r]? = some o ∧ o.isCells = false) → ∀ g, Z B g → Z A g
/-- They are cells. -/
def ZB (Z : World → Nat → Prop) (W : World) : Prop := ∀ g, Z W g → ∃ o : Obj, W.heap[g]? = some o ∧ o.isCells = true
/-- What a round keeps of all that lies from n0 on. -/
structure KpZ (Z : World → Nat → Prop) (n0 : Nat) (A B : World) : Prop where
  size : A.heap.size ≤ B.heap.size
  same : ∀ g o, n0 ≤ g → A.heap[g]? = some o → ¬ Z A g → B.heap[g]? = some o
  z : ∀ g, Z B g → Z A g ∨ A.heap.size ≤ g
  zb : ZB Z B

theorem ZB.turn {n0 : Nat} {Z : World → Nat → Prop} (hZ : ZOk n0 Z) {A B : World} {row : Option Nat} (h : ZB Z A) (hn : n0 ≤ A.heap.size) (hg : A.grownBy B row) (hr : ∀ r, row = some r → n0 ≤ r ∧ ∃ o : Obj, A.heap[r]? = some o ∧ o.isCells = false) : ZB Z B := fun g hz => by
  obtain ⟨o, h1, h2⟩ := h g (hZ A B row hn hg hr g hz)
  refine ⟨o, (hg.block g (Array.getElem?_eq_some_iff.1 h1).1 fun e => ?_).trans h1, h2⟩
  obtain ⟨_, o', h3, h4⟩ := hr g e.symm
  rw [h1] at h3
  rw [← Option.some.inj h3, h2] at h4
  cases h4
theorem ZB.not {Z : World → Nat → Prop} {W : World} (h : ZB Z W) {g : Nat} {o : Obj} (hg : W.heap[g]? = some o) (ho : o.isCells = false) : ¬ Z W g := fun hz => by
  obtain ⟨o', h1, h2⟩ := h g hz
  rw [hg] at h1
  rw [Option.some.inj h1, h2] at ho
  cases ho
theorem ZB.lt {Z : World → Nat → Prop} {W : World} (h : ZB Z W) {g : Nat} (hg : Z W g) : g < W.heap.size := by
  obtain ⟨o', h1, _⟩ := h g hg
  exact (Array.getElem?_eq_some_iff.1 h1).1

def SeqN {α : Type} (F : Fence) (n : Nat) (P : Program) (g : Nat) (lb : Array Value) (encs : α → Array Value) (S : List α → Prop) (N m0 : Nat) (w : World) : Prop :=
  ∀ (Z : World → Nat → Prop) (l : Nat) (J : List α → World → Prop) (W : World), Below w.heap.size w W → ZOk W.heap.size Z → ZB Z W → (∀ g, m0 ≤ g → ¬ Z W g) → m0 ≤ W.heap.size → OwnFrom W.heap.size J →
    (∀ pre x W1, J pre W1 → ZB Z W1 → W.heap.size ≤ W1.heap.size → pre.length < N → YieldAt F (n - 1) P l (encs x) W1 fun e W' => e = .returned (.bool true) ∧ J (pre ++ [x]) W' ∧ KpZ Z m0 W1 W') →
    J [] W →
    CallsIn F n P g (#[.func (.yield l) #[] #[]] ++ lb) W fun e W' => (∃ v, e = .returned v) ∧ ∃ xs, S xs ∧ J xs W' ∧ W.heap.size ≤ W'.heap.size

/-- The record of such a loop. -/
def recN (fn : FuncId) (tmps : Array Value) (ps : Array Tmp) (assign body : Code) (B : Nat) (st : LoopState) : Loop :=
  { state := st, pending := none, fn := fn, tmps := tmps, params := ps, assign := assign, body := body, defers := B }

section
variable {F : Fence} {n : Nat} {P : Program}
theorem wpIn_rangeFunc_N {α : Type} {g : Operand} {ps : Array Tmp} {assign body : Code} {Q : Exit → Act → World → Prop} {a : Act} {w : World}
    (hro : F.round = none) (h1 : 1 ≤ n) {gf : Nat} {lb : Array Value} (hg : a.eval g = .func (.func gf) #[] lb) (hFg : F.fn gf) (eg : ∀ args w, (callFunc gf args).run P w = .ok (.enter gf args) w)
    {encs : α → Array Value} {S : List α → Prop} {N m0 : Nat} {w0 : World} (hseq : SeqN F (n - 1) P gf lb encs S N m0 w0) (hm0 : m0 ≤ w.heap.size) (hb0 : Below w0.heap.size w0 w) (hps : ∀ x, (encs x).size = ps.size)
    (Z : World → Nat → Prop) (hZ : ZOk w.heap.size Z) (hZB : ZB Z w) (hz0 : ∀ g, m0 ≤ g → ¬ Z w g) (I : List α → World → Prop) (hI : OwnFrom w.heap.size I) (h0 : I [] w) (a₁ : α → Act)
    (hassign : ∀ (l : Nat) (x : α) (W : World) (K : Act → World → Prop), K (a₁ x) W →
      assign.wpIn (F.inRound l) (n - 1 - 1) P (Exit.then K (fun _ _ _ => False)) { tmps := (ps.zip (encs x)).foldl (fun t (p, v) => t.setIfInBounds p v) a.tmps, defers := [] } W)
    (hbody : ∀ (l : Nat) (pre : List α) (x : α) (W : World), I pre W → pre.length < N → ZB Z W → w.heap.size ≤ W.heap.size →
      body.wpIn (F.inRound l) (n - 1 - 1) P (fun e _ W' => e = .normal ∧ KpZ Z m0 W W' ∧ I (pre ++ [x]) W') (a₁ x) W)
    (hdone : ∀ (D : Nat) (xs : List α) (W : World), w.heap.size ≤ D → S xs → I xs W → W.heap[D]? = some (.deferred (some [])) → Q .normal { a with defers := { target := .collected D, args := #[] } :: a.defers } W) :
    (Code.rangeFunc g ps assign body).wpIn F n P Q a w := by
  refine wpIn_rangeFunc fun fn hfn => ?_
  rw [hro]
  obtain ⟨R, hR⟩ : ∃ R, R = recN fn a.tmps ps assign body w.heap.size := ⟨_, rfl⟩
  obtain ⟨V, hV⟩ : ∃ V, V = (w.alloc (.deferred (some []))).alloc (.loop (R .ready)) := ⟨_, rfl⟩
  have gV : w.grownBy (w.alloc (.deferred (some []))) none := World.grownBy_alloc _ _ _
  have gV2 : (w.alloc (.deferred (some []))).grownBy V none := by rw [hV]; exact World.grownBy_alloc _ _ _
  have nr : ∀ {A : World} (r : Nat), (none : Option Nat) = some r → w.heap.size ≤ r ∧ ∃ o : Obj, A.heap[r]? = some o ∧ o.isCells = false := fun r e => by cases e
  have zV : V.heap.size = w.heap.size + 2 := by rw [hV, World.size_alloc, World.size_alloc]
  have dV : V.heap[w.heap.size]? = some (.deferred (some [])) := (gV2.block w.heap.size (by rw [World.size_alloc]; omega) (by simp)).trans (World.alloc_heap_new w _)
  have lV : V.heap[w.heap.size + 1]? = some (.loop (R .ready)) := by
    have := World.alloc_heap_new (w.alloc (.deferred (some []))) (.loop (R .ready))
    rw [World.size_alloc] at this
    rw [hV]; exact this
  have bV : ZB Z V := (hZB.turn hZ (Nat.le_refl _) gV nr).turn hZ (by rw [World.size_alloc]; omega) gV2 nr
  have iV : I [] V := by rw [hV]; exact hI.alloc _ (hI.alloc _ h0)
  have belV : Below w.heap.size w V := by rw [hV]; exact ((Below.refl _ _).alloc (Nat.le_refl _) _).alloc (by simp) _
  refine ⟨w.heap.size + 1, [{ target := .collected w.heap.size, args := #[] }], V, { target := .fn (.func gf) lb, args := #[.func (.yield (w.heap.size + 1)) #[] #[]] }, V, gf,
    #[.func (.yield (w.heap.size + 1)) #[] #[]] ++ lb, V, by rw [hV, hR]; exact run_enterLoop_outer _ _ _ _ _, by simp only [resolve, hg]; simp [go_sem],
    fun f' hf' => by simp [Target.leads] at hf'; subst hf'; exact hFg, by simp [invoke, go_sem, eg], fun _ => h1, ?_⟩
  refine (hseq Z (w.heap.size + 1) (fun pre W => I pre W ∧ W.heap[w.heap.size + 1]? = some (.loop (R .ready)) ∧ W.heap[w.heap.size]? = some (.deferred (some [])))
    V (hb0.trans (belV.mono hb0.size)) (fun A B row hn hg' hr => hZ A B row (by omega) hg' fun r e => ⟨by have := (hr r e).1; omega, (hr r e).2⟩) bV (fun g hg h => hz0 g hg (hZ w _ _ (Nat.le_refl _) gV nr g (hZ _ V _ (by rw [World.size_alloc]; omega) gV2 nr g h))) (by omega) ?own ?round ⟨iV, lV, dV⟩).mono ?fin
  case own =>
    intro s A B row hs hg' hr
    have hne : ∀ k, k < w.heap.size + 2 → some k ≠ row := fun k hk e => by have := (hr k e.symm).1; omega
    exact ⟨hI s A B row hs.1 hg' fun r e => ⟨by have := (hr r e).1; omega, (hr r e).2⟩, (hg'.block _ (Array.getElem?_eq_some_iff.1 hs.2.1).1 (hne _ (by omega))).trans hs.2.1, (hg'.block _ (Array.getElem?_eq_some_iff.1 hs.2.2).1 (hne _ (by omega))).trans hs.2.2⟩
  case round =>
    rintro pre x W ⟨hi, hl, hk⟩ hz hsz hlen
    have hlt := (Array.getElem?_eq_some_iff.1 hl).1
    have hy := run_yield (P := P) (args := encs x) hl (by rw [hR]; exact hps x)
    rw [hR] at hy
    refine ⟨fn, _, assign, body, hy, roundIn_of_wpIn hfn (hassign _ x W _ ⟨_, run_beginRound hl (by rw [hR]; rfl), ?_⟩)⟩
    have eB : ({ R .ready with state := .busy } : Loop) = R .busy := by rw [hR]; rfl
    rw [eB]
    have gB := grownBy_putObj' W (w.heap.size + 1) (.loop (R .busy))
    have rB : ∀ r, some (w.heap.size + 1) = some r → w.heap.size ≤ r ∧ ∃ o : Obj, W.heap[r]? = some o ∧ o.isCells = false := fun r e => by cases e; exact ⟨by omega, _, hl, rfl⟩
    have zB := hz.turn hZ (by omega) gB rB
    have lB : (W.putObj (w.heap.size + 1) (.loop (R .busy))).heap[w.heap.size + 1]? = some (.loop (R .busy)) := World.putObj_heap_same hlt
    have dB : (W.putObj (w.heap.size + 1) (.loop (R .busy))).heap[w.heap.size]? = some (.deferred (some [])) := (World.putObj_heap_other (by omega)).trans hk
    refine wpIn_mono (hbody _ pre x _ (hI.putObj _ hi (by omega) hl rfl) hlen zB (Nat.le_trans (by omega) gB.size)) ?_
    rintro e a3 X ⟨rfl, kp, iX⟩
    have lX := kp.same _ _ (by omega) lB (zB.not lB rfl)
    have dX := kp.same _ _ hm0 dB (zB.not dB rfl)
    have eX : ({ R .busy with state := if (none : Option Code).isNone then .ready else .done, pending := none } : Loop) = R .ready := by rw [hR]; rfl
    have hend := run_endRound (P := P) none lX
    rw [eX] at hend
    have gX := grownBy_putObj' X (w.heap.size + 1) (.loop (R .ready))
    have rX : ∀ r, some (w.heap.size + 1) = some r → w.heap.size ≤ r ∧ ∃ o : Obj, X.heap[r]? = some o ∧ o.isCells = false := fun r e => by cases e; exact ⟨by omega, _, lX, rfl⟩
    have sX := kp.size
    have sB := gB.size
    have zX := kp.zb.turn hZ (by omega) gX rX
    refine ⟨_, _, hend, rfl, ⟨hI.putObj _ iX (by omega) lX rfl, World.putObj_heap_same (Array.getElem?_eq_some_iff.1 lX).1, (World.putObj_heap_other (by omega)).trans dX⟩, ⟨Nat.le_trans sB (Nat.le_trans sX gX.size), fun g o hg ho hnz => ?_, fun g hgz => ?_, zX⟩⟩
    · by_cases hgl : g = w.heap.size + 1
      · subst hgl
        rw [hl] at ho
        rw [← ho]
        exact World.putObj_heap_same (Array.getElem?_eq_some_iff.1 lX).1
      have g1 : (W.putObj (w.heap.size + 1) (.loop (R .busy))).heap[g]? = some o := (World.putObj_heap_other (by omega)).trans ho
      have g2 := kp.same g o (by omega) g1 fun hzz => hnz (hZ W _ _ (by omega) gB rB g hzz)
      exact (World.putObj_heap_other (by omega)).trans g2
    · rcases kp.z g (hZ X _ _ (by omega) gX rX g hgz) with h | h
      · exact .inl (hZ W _ _ (by omega) gB rB g h)
      · exact .inr (Nat.le_trans sB h)
  case fin =>
    rintro e X ⟨⟨v, rfl⟩, xs, hS, ⟨hi, hl, hk⟩, _⟩
    have hend := run_endLoop (P := P) hl (by rw [hR]; simp [recN])
    have hp : (R .ready).pending = none := by rw [hR]; rfl
    rw [hp] at hend
    refine ⟨none, _, hend, hdone _ xs _ (Nat.le_refl _) hS (hI.putObj _ hi (by omega) hl rfl) ((World.putObj_heap_other (by omega)).trans hk)⟩
end

end Go.Proofs.YtiddellnmfckfaaGreat
