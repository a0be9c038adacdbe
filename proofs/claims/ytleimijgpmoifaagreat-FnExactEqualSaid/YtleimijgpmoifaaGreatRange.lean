/-
  Ranges over a function: the loop, the parts of a set, the answers, their number and their list. No condition of its own.
-/
import Derived.Test.YtleimijgpmoifaaGreatSeq
import Derived.Test.YtleimijgpmoifaaGreatSubsP
import Derived.Test.YtleimijgpmoifaaGreatAnsT
namespace Go.Proofs.YtleimijgpmoifaaGreat
set_option linter.unusedVariables false
set_option linter.unusedSimpArgs false
open Go.RowKit Go.Shelf
set_option maxRecDepth 100000

/-! ### LoopN -/
theorem below_grown {A B : World} (h : Below A.heap.size A B) : A.grownBy B none := ⟨h.os, h.tape, h.output, h.size, fun k hk _ => h.block k hk⟩

/-- Z: the blocks that a caller's rounds may write, told by the world: the iterator's own work changes nothing about that. -/
def ZOk (n0 : Nat) (Z : World → Nat → Prop) : Prop :=
  ∀ (A B : World) (row : Option Nat), n0 ≤ A.heap.size → A.grownBy B row → (∀ r, row = some r → n0 ≤ r ∧ ∃ o : Obj, A.heap[r]? = some o ∧ o.isCells = false) → ∀ g, Z B g → Z A g
/-- They are cells. -/
def ZB (Z : World → Nat → Prop) (W : World) : Prop := ∀ g, Z W g → ∃ o : Obj, W.heap[g]? = some o ∧ o.isCells = true
/-- What a round keeps of all that lies from n0 on. -/
structure KpZ (Z : World → Nat → Prop) (n0 : Nat) (A B : World) : Prop where
  size : A.heap.size ≤ B.heap.size
  same : ∀ g o, n0 ≤ g → A.heap[g]? = some o → ¬ Z A g → B.heap[g]? = some o
  z : ∀ g, Z B g → Z A g ∨ A.heap.size ≤ g
  zb : ZB Z B

theorem ZB.turn {n0 : Nat} {Z : World → Nat → Prop} (hZ : ZOk n0 Z) {A B : World} {row : Option Nat} (h : ZB Z A) (hn : n0 ≤ A.heap.size) (hg : A.grownBy B row) (hr : ∀ r, row = some r → n0 ≤ r ∧ ∃ o : Obj, A.heap[r]? = some o ∧ o.isCells = false) : ZB Z B := fun g hz => by
  obtain ⟨o, h1, h2⟩ := h g (hZ A B row hn hg hr g hz)
  refine ⟨o, (hg.block g (Array.getElem?_eq_some_iff.1 h1).1 fun e => ?_).trans h1, h2⟩
  obtain ⟨_, o', h3, h4⟩ := hr g e.symm
  rw [h1] at h3
  rw [← Option.some.inj h3, h2] at h4
  cases h4
theorem ZB.not {Z : World → Nat → Prop} {W : World} (h : ZB Z W) {g : Nat} {o : Obj} (hg : W.heap[g]? = some o) (ho : o.isCells = false) : ¬ Z W g := fun hz => by
  obtain ⟨o', h1, h2⟩ := h g hz
  rw [hg] at h1
  rw [Option.some.inj h1, h2] at ho
  cases ho
theorem ZB.lt {Z : World → Nat → Prop} {W : World} (h : ZB Z W) {g : Nat} (hg : Z W g) : g < W.heap.size := by
  obtain ⟨o', h1, _⟩ := h g hg
  exact (Array.getElem?_eq_some_iff.1 h1).1

def SeqN {α : Type} (F : Fence) (n : Nat) (P : Program) (g : Nat) (lb : Array Value) (encs : α → Array Value) (S : List α → Prop) (N m0 : Nat) (w : World) : Prop :=
  ∀ (Z : World → Nat → Prop) (l : Nat) (J : List α → World → Prop) (W : World), Below w.heap.size w W → ZOk W.heap.size Z → ZB Z W → (∀ g, m0 ≤ g → ¬ Z W g) → m0 ≤ W.heap.size → OwnFrom W.heap.size J →
    (∀ pre x W1, J pre W1 → ZB Z W1 → W.heap.size ≤ W1.heap.size → pre.length < N → YieldAt F (n - 1) P l (encs x) W1 fun e W' => e = .returned (.bool true) ∧ J (pre ++ [x]) W' ∧ KpZ Z m0 W1 W') →
    J [] W →
    CallsIn F n P g (#[.func (.yield l) #[] #[]] ++ lb) W fun e W' => (∃ v, e = .returned v) ∧ ∃ xs, S xs ∧ J xs W' ∧ W.heap.size ≤ W'.heap.size

/-- The record of such a loop. -/
def recN (fn : FuncId) (tmps : Array Value) (ps : Array Tmp) (assign body : Code) (B : Nat) (st : LoopState) : Loop :=
  { state := st, pending := none, fn := fn, tmps := tmps, params := ps, assign := assign, body := body, defers := B }

section
variable {F : Fence} {n : Nat} {P : Program}
theorem wpIn_rangeFunc_N {α : Type} {g : Operand} {ps : Array Tmp} {assign body : Code} {Q : Exit → Act → World → Prop} {a : Act} {w : World}
    (hro : F.round = none) (h1 : 1 ≤ n) {gf : Nat} {lb : Array Value} (hg : a.eval g = .func (.func gf) #[] lb) (hFg : F.fn gf) (eg : ∀ args w, (callFunc gf args).run P w = .ok (.enter gf args) w)
    {encs : α → Array Value} {S : List α → Prop} {N m0 : Nat} {w0 : World} (hseq : SeqN F (n - 1) P gf lb encs S N m0 w0) (hm0 : m0 ≤ w.heap.size) (hb0 : Below w0.heap.size w0 w) (hps : ∀ x, (encs x).size = ps.size)
    (Z : World → Nat → Prop) (hZ : ZOk w.heap.size Z) (hZB : ZB Z w) (hz0 : ∀ g, m0 ≤ g → ¬ Z w g) (I : List α → World → Prop) (hI : OwnFrom w.heap.size I) (h0 : I [] w) (a₁ : α → Act)
    (hassign : ∀ (l : Nat) (x : α) (W : World) (K : Act → World → Prop), K (a₁ x) W →
      assign.wpIn (F.inRound l) (n - 1 - 1) P (Exit.then K (fun _ _ _ => False)) { tmps := (ps.zip (encs x)).foldl (fun t (p, v) => t.setIfInBounds p v) a.tmps, defers := [] } W)
    (hbody : ∀ (l : Nat) (pre : List α) (x : α) (W : World), I pre W → pre.length < N → ZB Z W → w.heap.size ≤ W.heap.size →
      body.wpIn (F.inRound l) (n - 1 - 1) P (fun e _ W' => e = .normal ∧ KpZ Z m0 W W' ∧ I (pre ++ [x]) W') (a₁ x) W)
    (hdone : ∀ (D : Nat) (xs : List α) (W : World), w.heap.size ≤ D → S xs → I xs W → W.heap[D]? = some (.deferred (some [])) → Q .normal { a with defers := { target := .collected D, args := #[] } :: a.defers } W) :
    (Code.rangeFunc g ps assign body).wpIn F n P Q a w := by
  refine wpIn_rangeFunc fun fn hfn => ?_
  rw [hro]
  obtain ⟨R, hR⟩ : ∃ R, R = recN fn a.tmps ps assign body w.heap.size := ⟨_, rfl⟩
  obtain ⟨V, hV⟩ : ∃ V, V = (w.alloc (.deferred (some []))).alloc (.loop (R .ready)) := ⟨_, rfl⟩
  have gV : w.grownBy (w.alloc (.deferred (some []))) none := World.grownBy_alloc _ _ _
  have gV2 : (w.alloc (.deferred (some []))).grownBy V none := by rw [hV]; exact World.grownBy_alloc _ _ _
  have nr : ∀ {A : World} (r : Nat), (none : Option Nat) = some r → w.heap.size ≤ r ∧ ∃ o : Obj, A.heap[r]? = some o ∧ o.isCells = false := fun r e => by cases e
  have zV : V.heap.size = w.heap.size + 2 := by rw [hV, World.size_alloc, World.size_alloc]
  have dV : V.heap[w.heap.size]? = some (.deferred (some [])) := (gV2.block w.heap.size (by rw [World.size_alloc]; omega) (by simp)).trans (World.alloc_heap_new w _)
  have lV : V.heap[w.heap.size + 1]? = some (.loop (R .ready)) := by
    have := World.alloc_heap_new (w.alloc (.deferred (some []))) (.loop (R .ready))
    rw [World.size_alloc] at this
    rw [hV]; exact this
  have bV : ZB Z V := (hZB.turn hZ (Nat.le_refl _) gV nr).turn hZ (by rw [World.size_alloc]; omega) gV2 nr
  have iV : I [] V := by rw [hV]; exact hI.alloc _ (hI.alloc _ h0)
  have belV : Below w.heap.size w V := by rw [hV]; exact ((Below.refl _ _).alloc (Nat.le_refl _) _).alloc (by simp) _
  refine ⟨w.heap.size + 1, [{ target := .collected w.heap.size, args := #[] }], V, { target := .fn (.func gf) lb, args := #[.func (.yield (w.heap.size + 1)) #[] #[]] }, V, gf,
    #[.func (.yield (w.heap.size + 1)) #[] #[]] ++ lb, V, by rw [hV, hR]; exact run_enterLoop_outer _ _ _ _ _, by simp only [resolve, hg]; simp [go_sem],
    fun f' hf' => by simp [Target.leads] at hf'; subst hf'; exact hFg, by simp [invoke, go_sem, eg], fun _ => h1, ?_⟩
  refine (hseq Z (w.heap.size + 1) (fun pre W => I pre W ∧ W.heap[w.heap.size + 1]? = some (.loop (R .ready)) ∧ W.heap[w.heap.size]? = some (.deferred (some [])))
    V (hb0.trans (belV.mono hb0.size)) (fun A B row hn hg' hr => hZ A B row (by omega) hg' fun r e => ⟨by have := (hr r e).1; omega, (hr r e).2⟩) bV (fun g hg h => hz0 g hg (hZ w _ _ (Nat.le_refl _) gV nr g (hZ _ V _ (by rw [World.size_alloc]; omega) gV2 nr g h))) (by omega) ?own ?round ⟨iV, lV, dV⟩).mono ?fin
  case own =>
    intro s A B row hs hg' hr
    have hne : ∀ k, k < w.heap.size + 2 → some k ≠ row := fun k hk e => by have := (hr k e.symm).1; omega
    exact ⟨hI s A B row hs.1 hg' fun r e => ⟨by have := (hr r e).1; omega, (hr r e).2⟩, (hg'.block _ (Array.getElem?_eq_some_iff.1 hs.2.1).1 (hne _ (by omega))).trans hs.2.1, (hg'.block _ (Array.getElem?_eq_some_iff.1 hs.2.2).1 (hne _ (by omega))).trans hs.2.2⟩
  case round =>
    rintro pre x W ⟨hi, hl, hk⟩ hz hsz hlen
    have hlt := (Array.getElem?_eq_some_iff.1 hl).1
    have hy := run_yield (P := P) (args := encs x) hl (by rw [hR]; exact hps x)
    rw [hR] at hy
    refine ⟨fn, _, assign, body, hy, roundIn_of_wpIn hfn (hassign _ x W _ ⟨_, run_beginRound hl (by rw [hR]; rfl), ?_⟩)⟩
    have eB : ({ R .ready with state := .busy } : Loop) = R .busy := by rw [hR]; rfl
    rw [eB]
    have gB := grownBy_putObj' W (w.heap.size + 1) (.loop (R .busy))
    have rB : ∀ r, some (w.heap.size + 1) = some r → w.heap.size ≤ r ∧ ∃ o : Obj, W.heap[r]? = some o ∧ o.isCells = false := fun r e => by cases e; exact ⟨by omega, _, hl, rfl⟩
    have zB := hz.turn hZ (by omega) gB rB
    have lB : (W.putObj (w.heap.size + 1) (.loop (R .busy))).heap[w.heap.size + 1]? = some (.loop (R .busy)) := World.putObj_heap_same hlt
    have dB : (W.putObj (w.heap.size + 1) (.loop (R .busy))).heap[w.heap.size]? = some (.deferred (some [])) := (World.putObj_heap_other (by omega)).trans hk
    refine wpIn_mono (hbody _ pre x _ (hI.putObj _ hi (by omega) hl rfl) hlen zB (Nat.le_trans (by omega) gB.size)) ?_
    rintro e a3 X ⟨rfl, kp, iX⟩
    have lX := kp.same _ _ (by omega) lB (zB.not lB rfl)
    have dX := kp.same _ _ hm0 dB (zB.not dB rfl)
    have eX : ({ R .busy with state := if (none : Option Code).isNone then .ready else .done, pending := none } : Loop) = R .ready := by rw [hR]; rfl
    have hend := run_endRound (P := P) none lX
    rw [eX] at hend
    have gX := grownBy_putObj' X (w.heap.size + 1) (.loop (R .ready))
    have rX : ∀ r, some (w.heap.size + 1) = some r → w.heap.size ≤ r ∧ ∃ o : Obj, X.heap[r]? = some o ∧ o.isCells = false := fun r e => by cases e; exact ⟨by omega, _, lX, rfl⟩
    have sX := kp.size
    have sB := gB.size
    have zX := kp.zb.turn hZ (by omega) gX rX
    refine ⟨_, _, hend, rfl, ⟨hI.putObj _ iX (by omega) lX rfl, World.putObj_heap_same (Array.getElem?_eq_some_iff.1 lX).1, (World.putObj_heap_other (by omega)).trans dX⟩, ⟨Nat.le_trans sB (Nat.le_trans sX gX.size), fun g o hg ho hnz => ?_, fun g hgz => ?_, zX⟩⟩
    · by_cases hgl : g = w.heap.size + 1
      · subst hgl
        rw [hl] at ho
        rw [← ho]
        exact World.putObj_heap_same (Array.getElem?_eq_some_iff.1 lX).1
      have g1 : (W.putObj (w.heap.size + 1) (.loop (R .busy))).heap[g]? = some o := (World.putObj_heap_other (by omega)).trans ho
      have g2 := kp.same g o (by omega) g1 fun hzz => hnz (hZ W _ _ (by omega) gB rB g hzz)
      exact (World.putObj_heap_other (by omega)).trans g2
    · rcases kp.z g (hZ X _ _ (by omega) gX rX g hgz) with h | h
      · exact .inl (hZ W _ _ (by omega) gB rB g h)
      · exact .inr (Nat.le_trans sB h)
  case fin =>
    rintro e X ⟨⟨v, rfl⟩, xs, hS, ⟨hi, hl, hk⟩, _⟩
    have hend := run_endLoop (P := P) hl (by rw [hR]; simp [recN])
    have hp : (R .ready).pending = none := by rw [hR]; rfl
    rw [hp] at hend
    refine ⟨none, _, hend, hdone _ xs _ (Nat.le_refl _) hS (hI.putObj _ hi (by omega) hl rfl) ((World.putObj_heap_other (by omega)).trans hk)⟩
end

/-! ### Iter -/
attribute [local go_sem] Oper.semAt_some

/-- The number of a set. -/
abbrev MaskI := { m : Nat // m < 4096 }

theorem all_xor {s : Nat} (hs : s < 65536) : 65535 ^^^ s = 2 ^ 16 - 1 - s := by
  apply Nat.eq_of_testBit_eq
  intro i
  rw [Nat.testBit_xor, show (65535 : Nat) = 2 ^ 16 - 1 from rfl, Nat.testBit_two_pow_sub_one, show 2 ^ 16 - 1 - s = 2 ^ 16 - (s + 1) by omega, Nat.testBit_two_pow_sub_succ (by omega)]
  by_cases h : i < 16
  · rw [decide_eq_true h]; cases s.testBit i <;> rfl
  · rw [decide_eq_false h, Nat.testBit_lt_two_pow (Nat.lt_of_lt_of_le hs (Nat.pow_le_pow_right (n := 2) (by omega) (show 16 ≤ i by omega)))]; rfl
theorem nxt_word {s p : Nat} (hs : s < 4096) (hp : p ≤ 4096) (hx : nxtX 16 s p < 2 ^ 16) :
    bits .and .u16 (IntKind.u16.wrap (bits .or .u16 (p : Int) (bits .xor .u16 (if IntKind.u16.signed = true then -1 else IntKind.u16.max) (s : Int)) + 1)) (s : Int) = ((nxtM 16 s p : Nat) : Int) := by
  rw [show (if IntKind.u16.signed = true then -1 else IntKind.u16.max : Int) = ((65535 : Nat) : Int) from rfl, u16_xor_nat 65535 s (by omega) (by omega), all_xor (by omega), u16_or_nat p _ (by omega) (by omega)]
  have e : ((p ||| (2 ^ 16 - 1 - s) : Nat) : Int) + 1 = ((nxtX 16 s p : Nat) : Int) := by unfold nxtX; omega
  rw [e, IntKind.wrap_u16, Int.emod_eq_of_lt (by omega) (by omega), u16_and_nat _ s (by omega) (by omega)]
  rfl

set_option maxHeartbeats 2000000 in
theorem parts_stops {F : Fence} (hF : F = Fence.wide) (n : Nat) (hn : 2 ≤ n) (s : Nat) (hs : s < 4096) (w : World) (Bn : Nat) (hb : Boxed w Bn 73 (.int .u16 (s : Int))) :
    SeqStopsK F n Tryz.prog 112 #[.pointer (some ⟨Bn, 0, none⟩)] (fun x : MaskI => #[Value.int .u16 (x.1 : Int)]) (KpB Bn 73 (.int .u16 (s : Int))) (fun ys => ys.map (·.1) = subsTo s (s + 1)) (fun _ => True) 4096 w := fun l J Jx W hW hJ hJx hY h0 => by
  have hbW : Boxed W Bn 73 (.int .u16 (s : Int)) := (hW.block Bn hb.lt).trans hb
  have hro := wideR hF
  have hn1 : 1 ≤ n - 1 := by omega
  have hn0 : 1 ≤ n := by omega
  refine callsIn_of_wp Tryz.func112 rfl (wideF hF _) ?_ hro
  clear hF
  simp only [Tryz.ntmps112, List.size_toArray, List.length_cons, List.length_nil, Nat.reduceAdd, Nat.reduceSub, Array.replicate_succ, Array.replicate_zero, List.push_toArray, List.append_toArray, List.nil_append, List.cons_append]
  gi_wp2
  gi_loopw [3] (fun i wr => ∃ (p : Nat) (pre : List MaskI), p ≤ s ∧ i = .int .u16 (p : Int) ∧ SubM p s ∧ pre.map (·.1) = subsTo s p ∧ J pre wr ∧ Boxed wr Bn 73 (.int .u16 (s : Int))) (fun i _ => 4097 - natOf i)
  case atStart => exact ⟨0, [], Nat.zero_le _, rfl, subM_zero s, rfl, h0, hbW⟩
  case round =>
    obtain ⟨p, pre, hps, rfl, hsub, hp, hJs, hB⟩ := hrel
    have hlen : pre.length < 4096 := by
      have h1 := congrArg List.length hp
      rw [List.length_map] at h1
      have h2 := subsTo_len s p
      omega
    obtain ⟨fn, tmps, assign, body, hy, hR⟩ := hY pre ⟨p, by omega⟩ wr hJs hlen
    have hp' := Lib.hid (show (pre ++ [(⟨p, by omega⟩ : MaskI)]).map (·.1) = subsTo s (p + 1) by rw [subsTo_succ hsub, List.map_append, hp]; rfl)
    dsimp only at hy
    gi_wp2
    refine hR.mono ?_
    rintro e W3 (⟨rfl, hJ3, hk3⟩ | ⟨rfl, hJx3⟩)
    · have hB3 := hk3 hB
      have hc3 := hB3.cell
      by_cases he : p = s
      · subst he
        gi_wp2
        go_end0
        exact ⟨⟨_, rfl⟩, .inl ⟨_, hp'.out, hJ3⟩⟩
      · have hne : ((p : Int) != (s : Int)) = true := by simp; omega
        obtain ⟨q1, q2, q3, q4⟩ := nxt_spec 16 s p (by omega) (by omega) hsub he
        gi_wp2
        have hE := nxt_word hs (Nat.le_trans hps (Nat.le_of_lt hs)) q1
        have hsk := subsTo_skip (s := s) (n := p + 1) (m := nxtM 16 s p) (by omega) fun t h1 h2 => q4 t (by omega) h2
        have hps' := subM_le q3
        go_roundw
        case rel => exact ⟨nxtM 16 s p, _, hps', by rw [hE], q3, by rw [hsk]; exact hp'.out, hJ3, hB3⟩
        case measure => rw [hE]; simp only [natOf, Int.toNat_natCast]; omega
    · gi_wp2
      go_end0
      exact ⟨⟨_, rfl⟩, .inr ⟨_, trivial, hJx3⟩⟩

theorem ownFrom_up {β : Type} {B B' : Nat} {I : β → World → Prop} (h : OwnFrom B I) (hb : B ≤ B') : OwnFrom B' I := fun s W W' row hs hg hr => h s W W' row hs hg fun r e => ⟨Nat.le_trans hb (hr r e).1, (hr r e).2⟩
theorem zok_up {n0 n1 : Nat} {Z : World → Nat → Prop} (h : ZOk n0 Z) (hn : n0 ≤ n1) : ZOk n1 Z := fun A B row h1 hg hr => h A B row (by omega) hg fun r e => ⟨by have := (hr r e).1; omega, (hr r e).2⟩
theorem roundIn_any {F : Fence} (hd : F.depth = none) (lc : Nat) {m m' : Nat} {P : Program} {l : Nat} {f : FuncId} {tmps : Array Value} {assign body : Code} {w : World} {R : Ending → World → Prop}
    (h : RoundIn F m P l f tmps assign body w R) : RoundIn (F.inRound lc) m' P l f tmps assign body w R := ⟨h.1, fun c cs _ => h.2 c cs (fun d hh => by rw [hd] at hh; cases hh)⟩
theorem kpZ_below {n0 m0 : Nat} {Z : World → Nat → Prop} {A B : World} (hZ : ZOk n0 Z) (hn : n0 ≤ A.heap.size) (hz : ZB Z A) (h : Below A.heap.size A B) : KpZ Z m0 A B :=
  ⟨h.size, fun g o _ ho _ => (h.block g (Array.getElem?_eq_some_iff.1 ho).1).trans ho, fun g hg => .inl (hZ A B none hn (below_grown h) (fun r e => by cases e) g hg), hz.turn hZ hn (below_grown h) fun r e => by cases e⟩
theorem KpZ.trans {m0 : Nat} {Z : World → Nat → Prop} {A B C : World} (h : KpZ Z m0 A B) (k : KpZ Z m0 B C) : KpZ Z m0 A C :=
  ⟨Nat.le_trans h.size k.size, fun g o hg ho hn => k.same g o hg (h.same g o hg ho hn) fun hz => (h.z g hz).elim hn fun h' => by have := (Array.getElem?_eq_some_iff.1 ho).1; omega,
    fun g hg => (k.z g hg).elim (fun h' => h.z g h') fun h' => .inr (Nat.le_trans h.size h'), k.zb⟩
theorem KpZ.up {m0 m1 : Nat} {Z : World → Nat → Prop} {A B : World} (h : KpZ Z m0 A B) (hm : m0 ≤ m1) : KpZ Z m1 A B := ⟨h.size, fun g o hg => h.same g o (Nat.le_trans hm hg), h.z, h.zb⟩

theorem parts_seq {F : Fence} (hF : F = Fence.wide) (n : Nat) (hn : 2 ≤ n) (s : Nat) (hs : s < 4096) (w : World) (Bn : Nat) (hb : Boxed w Bn 73 (.int .u16 (s : Int))) (m0 : Nat) (hm : m0 ≤ Bn) :
    SeqN F n Tryz.prog 112 #[.pointer (some ⟨Bn, 0, none⟩)] (fun x : MaskI => #[Value.int .u16 (x.1 : Int)]) (fun ys => ys.map (·.1) = subsTo s (s + 1)) 4096 m0 w := fun Z l J W hW hZ hZB hz0 hmW hJ hY h0 => by
  have hbl := hb.lt
  have hwl := hW.size
  refine (parts_stops hF n hn s hs w Bn hb l (fun pre X => J pre X ∧ ZB Z X ∧ ¬ Z X Bn ∧ W.heap.size ≤ X.heap.size) (fun _ _ => False) W hW ?_ (fun _ _ _ _ h _ _ => h) ?_ ⟨h0, hZB, hz0 Bn hm, Nat.le_refl _⟩).mono ?_
  · rintro s A B row ⟨h1, h2, h3, h4⟩ hg hr
    have hr' : ∀ r, row = some r → W.heap.size ≤ r ∧ ∃ o : Obj, A.heap[r]? = some o ∧ o.isCells = false := fun r e => by obtain ⟨k1, o, k2, k3⟩ := hr r e; exact ⟨k1, o, k2, Obj.not_cells_of_walk k3⟩
    exact ⟨hJ s A B row h1 hg hr', h2.turn hZ h4 hg hr', fun h => h3 (hZ A B row h4 hg hr' Bn h), Nat.le_trans h4 hg.size⟩
  · rintro pre x X ⟨h1, h2, h3, h4⟩ hlen
    refine (hY pre x X h1 h2 h4 hlen).mono ?_
    rintro e X' ⟨rfl, k1, k2⟩
    refine .inl ⟨rfl, ⟨k1, k2.zb, fun h => ?_, Nat.le_trans h4 k2.size⟩, fun hbx => k2.same Bn _ hm hbx h3⟩
    rcases k2.z Bn h with h | h
    · exact h3 h
    · omega
  · rintro e X ⟨hv, ⟨xs, hS, h1, _, _, h4⟩ | ⟨_, _, h⟩⟩
    · exact ⟨hv, xs, hS, h1, h4⟩
    · exact h.elim

theorem partsSeq_calls (m : Nat) (w : World) :
    Calls Tryz.prog 60 #[.int .u16 (m : Int)] w fun e w' => e = .returned (.func (.func 112) #[] #[.pointer (some ⟨w.heap.size, 0, none⟩)]) ∧ w' = w.alloc (.cells #[.int .u16 (m : Int)] 73) := by
  have hmf : ∀ (fn : Fn) (first cap : Array Value) (w : World), (Instr.makeFunc fn first cap).run Tryz.prog w = .ok (.func fn first cap) w := fun _ _ _ _ => rfl
  go_enter Tryz.func60, Tryz.ntmps60
  go_wp2
  go_ret
  exact ⟨rfl, rfl⟩
theorem answersSeq_calls (p0 p1 p2 p3 p4 p5 p6 p7 : Value) (w : World) :
    Calls Tryz.prog 74 #[.agg #[p0, p1, p2, p3, p4, p5, p6, p7]] w fun e w' => e = .returned (.func (.func 120) #[] #[.pointer (some ⟨w.heap.size, 0, none⟩)]) ∧ w' = w.alloc (.cells #[p0, p1, p2, p3, p4, p5, p6, p7] 36) := by
  have hmf : ∀ (fn : Fn) (first cap : Array Value) (w : World), (Instr.makeFunc fn first cap).run Tryz.prog w = .ok (.func fn first cap) w := fun _ _ _ _ => rfl
  go_enter Tryz.func74, Tryz.ntmps74
  go_wp2
  go_ret
  exact ⟨rfl, rfl⟩

/-! ### IterA -/
attribute [local go_sem] Oper.semAt_some

def ansN (p : ProgD) : List Nat := if foldB p then ansP (foldD p) else []
theorem ansN_no {p : ProgD} (h : foldB p = false) : ansN p = [] := by simp [ansN, h]
theorem ansN_yes {p : ProgD} (h : foldB p = true) : ansN p = ansP (foldD p) := by simp [ansN, h]
theorem wideD {F : Fence} (hF : F = Fence.wide) : F.depth = none := by subst hF; rfl
/-- Those of a list that are answers. -/
def flA (q : ProgD) (xs : List MaskI) : List MaskI := xs.filter fun x => ansQ q (mset x.1)
theorem flA_yes {q : ProgD} {xs : List MaskI} {x : MaskI} (h : ansQ q (mset x.1) = true) : flA q (xs ++ [x]) = flA q xs ++ [x] := by simp [flA, h]
theorem flA_no {q : ProgD} {xs : List MaskI} {x : MaskI} (h : ansQ q (mset x.1) = false) : flA q (xs ++ [x]) = flA q xs := by simp [flA, h]
theorem flA_len (q : ProgD) (xs : List MaskI) : (flA q xs).length ≤ xs.length := List.length_filter_le _ _
theorem flA_all {q : ProgD} {xs : List MaskI} (h : xs.map (·.1) = subsTo (headsM q.rules q.rules.length) (headsM q.rules q.rules.length + 1)) : (flA q xs).map (·.1) = ansP q := by
  unfold ansP flA
  rw [← h, List.filter_map]
  rfl
/-- What lay from n0 on when the loop began lies there still, and no caller may write it. -/
def Fr (Z : World → Nat → Prop) (n0 : Nat) (A X : World) : Prop := A.heap.size ≤ X.heap.size ∧ ∀ g, n0 ≤ g → g < A.heap.size → X.heap[g]? = A.heap[g]? ∧ ¬ Z X g
theorem Fr.turn {Z : World → Nat → Prop} {n0 : Nat} {A X Y : World} {row : Option Nat} (h : Fr Z n0 A X) (hZ : ZOk n0 Z) (hn : n0 ≤ A.heap.size) (hg : X.grownBy Y row) (hr : ∀ r, row = some r → A.heap.size ≤ r ∧ ∃ o : Obj, X.heap[r]? = some o ∧ o.isCells = false) : Fr Z n0 A Y :=
  ⟨Nat.le_trans h.1 hg.size, fun g h1 h2 => ⟨(hg.block g (by have := h.1; omega) fun e => by have := (hr g e.symm).1; omega).trans (h.2 g h1 h2).1,
    fun hz => (h.2 g h1 h2).2 (hZ X Y row (Nat.le_trans hn h.1) hg (fun r e => ⟨by have := (hr r e).1; omega, (hr r e).2⟩) g hz)⟩⟩
theorem Fr.kp {Z : World → Nat → Prop} {n0 : Nat} {A X Y : World} (h : Fr Z n0 A X) (k : KpZ Z n0 X Y) : Fr Z n0 A Y :=
  ⟨Nat.le_trans h.1 k.size, fun g h1 h2 => by
    obtain ⟨e1, e2⟩ := h.2 g h1 h2
    have hl := h.1
    have hx : X.heap[g]? = some X.heap[g] := Array.getElem?_eq_getElem (by omega)
    refine ⟨?_, fun hz => (k.z g hz).elim e2 fun h' => by omega⟩
    rw [k.same g _ h1 hx e2, ← e1, hx]⟩

set_option maxHeartbeats 4000000 in
theorem answers_seq {F : Fence} (hF : F = Fence.wide) (n : Nat) (hn : 6 ≤ n) {cs : List Value} {p : ProgD} (w : World) (Bp : Nat) (hR : Rd.R w cs p) (hb : Cells w Bp 0 cs) (m0 : Nat) :
    SeqN F n Tryz.prog 120 #[.pointer (some ⟨Bp, 0, none⟩)] (fun x : MaskI => #[Value.int .u16 (x.1 : Int)]) (fun ys => ys.map (·.1) = ansN p) 4096 m0 w := fun Z l J W hW hZ hZB hz0 hmW hJ hY h0 => by
  have hro := wideR hF
  have hd := wideD hF
  have hn1 : 1 ≤ n - 1 := by omega
  have hn0 : 1 ≤ n := by omega
  have hbW := hb.later hW
  have hRW := Rd.mono hW hR
  obtain ⟨p0, p1, p2, p3, p4, p5, p6, p7, rfl⟩ := list8 (Rd.len hR)
  obtain ⟨y0, y1, y2, y3, y4, y5, y6, y7⟩ := cells8 hbW
  have hbl := hbW.lt
  have bA : Below W.heap.size W (W.alloc (.cells #[.func (.yield l) #[] #[]] 151)) := (Below.refl _ _).alloc (Nat.le_refl _) _
  have hFo := fun (k : Nat) => Lib.hid (wideC (n := k) hF (implFold_calls (w := W.alloc (.cells #[.func (.yield l) #[] #[]] 151)) (Rd.mono bA hRW)))
  have hHe := fun (k : Nat) (cs : List Value) (w : World) (h : Rd.R w cs (foldD p)) => Lib.hid (wideC (n := k) hF (heads_calls h))
  have hPa := fun (k : Nat) (m : Nat) (w : World) => Lib.hid (wideC (n := k) hF (partsSeq_calls m w))
  have hf1 : F.fn 49 := wideF hF _
  have hf2 : F.fn 121 := wideF hF _
  have hf3 : F.fn 60 := wideF hF _
  have hf4 : F.fn 122 := wideF hF _
  have hf5 : F.fn 112 := wideF hF _
  have HF := Lib.hid hF
  refine callsIn_of_wp_marks Tryz.func120 rfl (wideF hF _) ?_ hro
  clear hF
  simp only [Tryz.ntmps120, List.size_toArray, List.length_cons, List.length_nil, Nat.reduceAdd, Nat.reduceSub, Array.replicate_succ, Array.replicate_zero, List.push_toArray, List.append_toArray, List.nil_append, List.cons_append]
  cases hB : foldB p
  · have hNo := Lib.hid (ansN_no hB)
    gi_wp2_with (gi_at_call 49; refine (hFo _).out.mono ?_; rintro e w1 ⟨cs1, he, o1, b1⟩; rw [hB] at he; subst he; have t1 := bA.step b1; have l1 := Rd.one o1.rd; obtain ⟨x0, x1, x2, x3, x4, x5, x6, x7, rfl⟩ := list8 (Rd.len o1.rd); have st0 := sto Tryz.prog (l1 x0 (by simp)); have st1 := sto Tryz.prog (l1 x1 (by simp)); have st2 := sto Tryz.prog (l1 x2 (by simp)); have st3 := sto Tryz.prog (l1 x3 (by simp)); have st4 := sto Tryz.prog (l1 x4 (by simp)); have st5 := sto Tryz.prog (l1 x5 (by simp)); have st6 := sto Tryz.prog (l1 x6 (by simp)); have st7 := sto Tryz.prog (l1 x7 (by simp)); clear l1)
    have t2 := t1.alloc t1.size (.cells #[x0, x1, x2, x3, x4, x5, x6, x7] 36)
    exact ⟨_, results_none rfl _ _ _, ⟨_, rfl⟩, [], by rw [hNo.out]; rfl, hJ [] W _ none h0 (below_grown t2) (fun r e => by cases e), t2.size⟩
  · have hYes := Lib.hid (ansN_yes hB)
    have hok : progOkB (foldD p) = true := foldR_ok hB
    have hfo : Hid (foldR p = foldD p) := foldR_yes hB
    have hH := headsM_lt (foldD p).rules (foldD p).rules.length
    gi_wp2_with (first | (gi_at_call 49; refine (hFo _).out.mono ?_; rintro e w1 ⟨cs1, he, o1, b1⟩; rw [hB] at he; rw [hfo.out] at o1; subst he; have t1 := bA.step b1; have l1 := Rd.one o1.rd; obtain ⟨x0, x1, x2, x3, x4, x5, x6, x7, rfl⟩ := list8 (Rd.len o1.rd); have st0 := sto Tryz.prog (l1 x0 (by simp)); have st1 := sto Tryz.prog (l1 x1 (by simp)); have st2 := sto Tryz.prog (l1 x2 (by simp)); have st3 := sto Tryz.prog (l1 x3 (by simp)); have st4 := sto Tryz.prog (l1 x4 (by simp)); have st5 := sto Tryz.prog (l1 x5 (by simp)); have st6 := sto Tryz.prog (l1 x6 (by simp)); have st7 := sto Tryz.prog (l1 x7 (by simp)); clear l1; have o2 := o1.alloc (.cells #[x0, x1, x2, x3, x4, x5, x6, x7] 36); have cq := Cells.new w1 [x0, x1, x2, x3, x4, x5, x6, x7] 36; have t2 := t1.alloc t1.size (.cells #[x0, x1, x2, x3, x4, x5, x6, x7] 36); obtain ⟨q0, q1, q2, q3, q4, q5, q6, q7⟩ := cells8 cq) |
      (gi_at_call 121; refine (hHe _ _ _ o2.rd).out.mono ?_; rintro e w3 ⟨rfl, b3⟩; have t3 := t2.step b3; have o3 := o2.later b3; have c3 := cq.later b3) |
      (gi_at_call 60; refine (hPa _ _ _).out.mono ?_; rintro e w4 ⟨rfl, e4⟩))
    have hZ4 : w3.heap.size < w4.heap.size := by rw [e4, World.size_alloc]; omega
    have b34 : Below w3.heap.size w3 w4 := by rw [e4]; exact (Below.refl _ _).alloc (Nat.le_refl _) _
    have hbx : Boxed w4 w3.heap.size 73 (.int .u16 (headsM (foldD p).rules (foldD p).rules.length : Int)) := by rw [e4]; exact Boxed.new _ _ _
    have t4 := t3.step b34
    have s4 := t4.size
    have s3 := t3.size
    have o4 := o3.later b34
    have c4 := c3.later b34
    have s1 := b1.size
    rw [World.size_alloc] at s1
    have hyb : Boxed w4 W.heap.size 151 (.func (.yield l) #[] #[]) := by
      have h1 := Boxed.new W 151 (.func (.yield l) #[] #[])
      have h2 : Boxed w1 W.heap.size 151 (.func (.yield l) #[] #[]) := (b1.block W.heap.size (by rw [World.size_alloc]; omega)).trans h1
      have h3 := h2.alloc (.cells #[x0, x1, x2, x3, x4, x5, x6, x7] 36)
      have h4 : Boxed w3 W.heap.size 151 (.func (.yield l) #[] #[]) := (b3.block W.heap.size h3.lt).trans h3
      exact (b34.block W.heap.size h4.lt).trans h4
    have g4 : W.grownBy w4 none := below_grown t4
    have nr : ∀ (r : Nat), (none : Option Nat) = some r → W.heap.size ≤ r ∧ ∃ o : Obj, W.heap[r]? = some o ∧ o.isCells = false := fun r e => by cases e
    have zb4 : ZB Z w4 := hZB.turn hZ (Nat.le_refl _) g4 nr
    have zn4 : ∀ g, W.heap.size ≤ g → ¬ Z w4 g := fun g hg hz => hz0 g (Nat.le_trans hmW hg) (hZ W w4 none (Nat.le_refl _) g4 nr g hz)
    have fr4 : Fr Z W.heap.size w4 w4 := ⟨Nat.le_refl _, fun g h1 _ => ⟨rfl, zn4 g h1⟩⟩
    have hJ4 : J [] w4 := hJ [] W w4 none h0 g4 nr
    have hK : Hid (∀ X, Fr Z W.heap.size w4 X → Rd.R X [x0, x1, x2, x3, x4, x5, x6, x7] (foldD p) ∧ Cells X w1.heap.size 0 [x0, x1, x2, x3, x4, x5, x6, x7] ∧ Boxed X W.heap.size 151 (.func (.yield l) #[] #[])) := by
      intro X hX
      obtain ⟨fp, k1, k2⟩ := o4
      exact ⟨Ow.rd (Ow.kept k1 fun g hg => (hX.2 g (by have := k2 g hg; rw [World.size_alloc] at this; omega) (Ow.lt k1 g hg)).1), c4.kept (hX.2 _ (by omega) c4.lt).1, (hX.2 _ (Nat.le_refl _) hyb.lt).1.trans hyb⟩
    have hAn := fun (k : Nat) (x : MaskI) (X : World) (h : Rd.R X [x0, x1, x2, x3, x4, x5, x6, x7] (foldD p)) => Lib.hid (wideC (n := k) HF.out (by
      have := answerP_calls (mset x.1) h hok (mset_isP _)
      rw [mask_mset x.2] at this
      exact this))
    have hps := parts_seq HF.out (n - 1) (by omega) _ hH w4 w3.heap.size hbx W.heap.size (by omega)
    rw [← e4]
    clear o1 o2 o3 o4 cq c3 b1 b3 b34 q0 q1 q2 q3 q4 q5 q6 q7 st0 st1 st2 st3 st4 st5 st6 st7 e4 y0 y1 y2 y3 y4 y5 y6 y7 t1 t2 t3 hFo hHe hPa HF
    refine wpIn_rangeFunc_N hro hn0 (gf := 112) (lb := #[.pointer (some ⟨w3.heap.size, 0, none⟩)]) rfl hf5 (enters_of Tryz.func112 (by kernel_rfl) rfl)
      hps s4 (Below.refl _ _) (fun _ => rfl) Z (zok_up hZ s4) zb4 zn4
      (fun pre X => J (flA (foldD p) pre) X ∧ Fr Z W.heap.size w4 X)
      ?own ⟨hJ4, fr4⟩
      (fun x => { tmps := #[.func (.yield l) #[] #[], .pointer (some ⟨Bp, 0, none⟩), .pointer (some ⟨W.heap.size, 0, none⟩), .pointer (some ⟨w1.heap.size, 0, none⟩), .bool true, .int .u16 (x.1 : Int), .tuple #[.agg #[x0, x1, x2, x3, x4, x5, x6, x7], .bool true], .agg #[p0, p1, p2, p3, p4, p5, p6, p7], .tuple #[.agg #[x0, x1, x2, x3, x4, x5, x6, x7], .bool true], .agg #[x0, x1, x2, x3, x4, x5, x6, x7], .bool true, .bool true, .bool false, .agg #[x0, x1, x2, x3, x4, x5, x6, x7], .int .u16 (headsM (foldD p).rules (foldD p).rules.length : Int), .func (.func 112) #[] #[.pointer (some ⟨w3.heap.size, 0, none⟩)], .int .u16 (x.1 : Int), undef, undef, undef, undef, undef, undef, undef, undef, undef], defers := [] }) ?assign ?body ?done
    case own =>
      rintro s A B row ⟨h1, h2⟩ hg hr
      exact ⟨hJ _ A B row h1 hg fun r e => ⟨by have := (hr r e).1; omega, (hr r e).2⟩, h2.turn hZ s4 hg hr⟩
    case assign =>
      intro lc x X K hK
      gi_wp2
      exact hK
    case body =>
      rintro lc pre x X ⟨hj, hfr⟩ hlen hzb hsX
      obtain ⟨hRX, hcX, hyX⟩ := hK.out X hfr
      obtain ⟨q0, q1, q2, q3, q4, q5, q6, q7⟩ := cells8 hcX
      have hsW : W.heap.size ≤ X.heap.size := Nat.le_trans s4 hsX
      have hm1 : 1 ≤ n - 1 - 1 := by omega
      have nrX : ∀ (r : Nat), (none : Option Nat) = some r → W.heap.size ≤ r ∧ ∃ o : Obj, X.heap[r]? = some o ∧ o.isCells = false := fun r e => by cases e
      cases hA : ansQ (foldD p) (mset x.1)
      · have hfl := Lib.hid (flA_no (xs := pre) hA)
        gi_wp2_with (gi_at_call 122; refine (CallsIn.inRound lc (hAn _ x X hRX).out).mono ?_; rintro e X2 ⟨he, b2⟩; rw [hA] at he; subst he)
        refine ⟨fun _ h => (by cases h), ?_⟩
        gi_wp2
        have kb := kpZ_below (m0 := W.heap.size) hZ hsW hzb b2
        exact ⟨kb, by rw [hfl.out]; exact hJ _ X X2 none hj (below_grown b2) nrX, hfr.kp kb⟩
      · have hfl := Lib.hid (flA_yes (xs := pre) hA)
        have hlA := flA_len (foldD p) pre
        gi_wp2_with (gi_at_call 122; refine (CallsIn.inRound lc (hAn _ x X hRX).out).mono ?_; rintro e X2 ⟨he, b2⟩; rw [hA] at he; subst he; have kb := kpZ_below (m0 := W.heap.size) hZ hsW hzb b2; have fr2 := hfr.kp kb; have hc2 := (hK.out X2 fr2).2.2.cell; obtain ⟨fn, tmps, assign, body, hy, hR2⟩ := hY (flA (foldD p) pre) x X2 (hJ _ X X2 none hj (below_grown b2) nrX) kb.zb (Nat.le_trans hsW kb.size) (by omega))
        refine (roundIn_any hd lc hR2).mono ?_
        rintro e X3 ⟨rfl, hj3, k3⟩
        have k3' := k3.up hmW
        gi_wp2
        exact ⟨kb.trans k3', by rw [hfl.out]; exact hj3, fr2.kp k3'⟩
    case done =>
      rintro D xs X hD hS ⟨hj, hfr⟩ hK2
      gi_wp2
      have hfa := flA_all hS
      refine ⟨by simp, .inl ⟨_, _, rfl, run_takeDeferred hK2, ?_⟩⟩
      have gD := grownBy_putObj' X D (.deferred none)
      exact ⟨_, results_none rfl _ _ _, ⟨_, rfl⟩, flA (foldD p) xs, by rw [hYes.out]; exact hfa, hJ _ X _ (some D) hj gD (fun r e => by cases e; exact ⟨Nat.le_trans s4 hD, _, hK2, rfl⟩), Nat.le_trans (Nat.le_trans s4 hfr.1) gD.size⟩

/-! ### Count -/
attribute [local go_sem] Oper.semAt_some

theorem answersL_N (p : ProgD) : answersL p = (ansN p).map mset := by
  cases h : foldB p
  · rw [answersL_no h, ansN_no h]; rfl
  · rw [answersL_yes h, ansN_yes h]
    exact ansP_eq (foldR_ok h)
def zNo : World → Nat → Prop := fun _ _ => False
theorem zNo_ok (n0 : Nat) : ZOk n0 zNo := fun _ _ _ _ _ _ _ h => h
theorem zNo_b (W : World) : ZB zNo W := fun _ h => h.elim
theorem kpZ_set {m0 : Nat} {W : World} {b : Nat} (hb : b < m0) (v : Value) : KpZ zNo m0 W (W.setCell ⟨b, 0, none⟩ v) :=
  ⟨(grownBy_setCell' W b v).size, fun g o hg ho _ => ((grownBy_setCell' W b v).block g (Array.getElem?_eq_some_iff.1 ho).1 (fun e => by cases e; omega)).trans ho, fun _ h => h.elim, zNo_b _⟩

/-! ### AnsW -/
attribute [local go_sem] Oper.semAt_some

/-- One element that has just been made is appended: where the row lies then. -/
theorem run_append_oneW {α : Type} [Ow α] {P : Program} {w0 w : World} {B : Nat} {t ty e : TypeId} {v : Value} {xs : List α} {y : α} {ecs : List Value} {g c : Nat}
    (i : TypeInfo) (z : Value) (bytes : Nat) (ht : P.underlying t = some (.slice e)) (hi : P.info? e = some i) (hz : i.zero = some z) (hsize : i.size = Rd.k α) (hby : i.bytes = bytes) (hzs : z.cells.size = Rd.k α) (hK : 0 < Rd.k α)
    (hown : OwnR B e w0 v xs) (hb : Below w0.heap.size w0 w) (hc : Cells w g 0 ecs) (ho : Own w0.heap.size w ecs y)
    (hl : (xs.length + 1) * bytes ≤ 140737488355328) (hl2 : xs.length + 1 ≤ 140737488355328) (hB : B ≤ w0.heap.size) :
    ∃ v' w', (Builtin.append_ #[t, t] ty #[v, .slice (some ⟨g, 0, none⟩) 1 c]).run P w = .ok v' w' ∧ OwnR B e w' v' (xs ++ [y]) ∧ Below B w w' ∧ w.grownBy w' v.ownBlock ∧ (v'.ownBlock = v.ownBlock ∨ v'.ownBlock = some w.heap.size) := by
  obtain ⟨fp, ho, hfp⟩ := ho
  have hsz := hb.size
  obtain ⟨ys, fps, q1, q2, q3⟩ := hown
  have hvl := q1.lt
  have hr : w.ownsRow B e (Rd.k α) v xs.length ys := ⟨q1.1, q1.2.imp id fun ⟨g, cap, cur, e1, e2, e3, r⟩ => ⟨g, cap, cur, e1, e2, by rw [hb.block g (block_lt e3)]; exact e3, r⟩⟩
  have hE := q2.kept fun g hg => hb.block g (q2.lt g hg)
  have hs : Src w ⟨g, 0, none⟩ [y] [fp] := ⟨g, 0, rfl, rfl, by simpa using Ow.nodup ho, fun j hj => by
    have : j = 0 := by simp at hj; omega
    subst this
    exact ⟨ecs, by rw [Nat.zero_mul]; exact hc, ho⟩⟩
  obtain ⟨news, n1, n2, n3, n4⟩ := hs.els hK
  obtain ⟨v', w', r1, r2, r3, _, r5⟩ := run_append_own_at (P := P) w B t ty e i z (Rd.k α) bytes ht hi hz hsize hby hzs hK v xs.length ys hr ⟨g, 0, none⟩ 1 c news n1 n2 n3 (by unfold maxLen; omega) hl (Nat.le_trans hB hsz)
  have hfv : ∀ f ∈ fp, v.ownBlock ≠ some f := fun f hf e => by have := (hvl f e).2; have := hfp f hf; omega
  refine ⟨v', w', r1, ⟨ys ++ news, fps ++ [fp], by rw [List.length_append]; exact r2, ?_, fun f hf => ?_⟩, (Below.refl _ _).grown r3 (Nat.le_trans hB hsz) fun k hk => (hr.lt k hk).1, r3, r5⟩
  · exact Els.app (hE.kept fun g hg => r3.block g (hE.lt g hg) fun e => (q3 g hg).2 e.symm) (n4.kept fun g hg => r3.block g (n4.lt g hg) fun e => hfv g (by simpa using hg) e.symm) hr.1 fun g h1 h2 => by have := q2.lt g h1; have := hfp g (by simpa using h2); omega
  · rw [List.flatten_append, List.mem_append] at hf
    have hlt : f < w.heap.size ∧ B ≤ f ∧ v.ownBlock ≠ some f := hf.elim (fun h => ⟨hE.lt f h, q3 f h⟩) (fun h => ⟨n4.lt f h, by have := hfp f (by simpa using h); omega, hfv f (by simpa using h)⟩)
    refine ⟨hlt.2.1, fun e => ?_⟩
    rcases r5 with r5 | r5
    · exact hlt.2.2 (r5 ▸ e)
    · rw [r5] at e; have := Option.some.inj e; omega

/-- A row of sets lies in cells alone. -/
theorem ownR_cells {B : Nat} {e : TypeId} {w : World} {v : Value} {xs : List (List Int)} (h : OwnR B e w v xs) : ∃ ys fps, w.ownsRow B e (Rd.k (List Int)) v xs.length ys ∧ Els w ys xs fps ∧ (∀ f ∈ fps.flatten, B ≤ f ∧ v.ownBlock ≠ some f) ∧ ∀ f ∈ fps.flatten, ∃ o : Obj, w.heap[f]? = some o ∧ o.isCells = true := by
  obtain ⟨ys, fps, h1, h2, h3⟩ := h
  refine ⟨ys, fps, h1, h2, h3, fun f hf => ?_⟩
  obtain ⟨i, hi, hm⟩ := flat_mem hf
  obtain ⟨ecs, _, hO⟩ := h2.2.2 i (by have := h2.1; omega)
  have hO' : OwL w ecs (nth xs i) (fps.getD i []) := hO
  obtain ⟨a, cap, _, _, _, h4⟩ := hO'
  rcases h4 with ⟨_, h5, _⟩ | ⟨g, e', cur, fps', _, h5, _, h6, h7, _, h8⟩
  · rw [h5] at hm; cases hm
  · rw [h7] at hm
    rcases List.mem_cons.1 hm with rfl | hm
    · exact ⟨_, h5, rfl⟩
    · obtain ⟨j, hj, hmj⟩ := flat_mem hm
      obtain ⟨ecs', _, hO2⟩ := h8 j (by omega)
      have : fps'.getD j [] = [] := hO2.2
      rw [this] at hmj; cases hmj
theorem ownR_row {B : Nat} {e : TypeId} {w : World} {v : Value} {xs : List (List Int)} (h : OwnR B e w v xs) : ∀ g, v.ownBlock = some g → B ≤ g ∧ ∃ o : Obj, w.heap[g]? = some o ∧ o.isCells = true := by
  obtain ⟨ys, fps, h1, _⟩ := h
  intro g hg
  rcases h1.2 with ⟨rfl, _⟩ | ⟨g', cap, cur, rfl, h2, h3, _⟩
  · cases hg
  · obtain rfl : g' = g := by simpa [Value.ownBlock] using hg
    exact ⟨h2, _, h3, rfl⟩
theorem ownR_kept {B : Nat} {e : TypeId} {A C : World} {v : Value} {xs : List (List Int)} (h : OwnR B e A v xs) (hk : ∀ g o, A.heap[g]? = some o → o.isCells = true → B ≤ g → C.heap[g]? = A.heap[g]?) : OwnR B e C v xs := by
  obtain ⟨ys, fps, h1, h2, h3, h4⟩ := ownR_cells h
  refine ⟨ys, fps, ⟨h1.1, h1.2.imp id fun ⟨g, cap, cur, e1, e2, e3, r⟩ => ⟨g, cap, cur, e1, e2, by rw [hk g _ e3 rfl e2]; exact e3, r⟩⟩, h2.kept fun g hg => ?_, h3⟩
  obtain ⟨o, o1, o2⟩ := h4 g hg
  exact hk g o o1 o2 (h3 g hg).1
theorem ownR_turn {B : Nat} {e : TypeId} {A C : World} {v : Value} {xs : List (List Int)} {row : Option Nat} (h : OwnR B e A v xs) (hg : A.grownBy C row) (hr : ∀ r, row = some r → ∃ o : Obj, A.heap[r]? = some o ∧ o.isCells = false) : OwnR B e C v xs :=
  ownR_kept h fun g o h1 h2 _ => hg.block g (Array.getElem?_eq_some_iff.1 h1).1 fun e => by
    obtain ⟨o', h3, h4⟩ := hr g e.symm
    rw [h1] at h3
    rw [← Option.some.inj h3, h2] at h4
    cases h4

/-- What the rounds of Answers may write: the row that the box holds. -/
def zBox (Bs : Nat) (t : TypeId) : World → Nat → Prop := fun W g => ∃ v, Boxed W Bs t v ∧ v.ownBlock = some g
theorem zBox_ok {Bs n0 : Nat} {t : TypeId} (h : Bs < n0) : ZOk n0 (zBox Bs t) := fun A B row hn hg hr g ⟨v, h1, h2⟩ =>
  ⟨v, (hg.block Bs (by omega) fun e => by have := (hr Bs e.symm).1; omega).symm.trans h1, h2⟩

/-! ### AnsX -/
attribute [local go_sem] Oper.semAt_some

theorem step_append_in {F : Fence} {n : Nat} {P : Program} {ops : Array Oper} {o : Oper} {a : Act} {K : Act → World → Prop} {Q : Exit → Act → World → Prop} {E : Prop} {w w' : World} {t : TypeId} {v x v' : Value} (hgd : o.guard = none) (s y : Operand)
    (hop : o.op = .call { callee := .builtin .append, args := #[s, y], argTypes := #[t, t] }) (hs : a.eval s = v) (hx : a.eval y = x)
    (hr : (Builtin.append_ #[t, t] o.type #[v, x]).run P w = .ok v' w') (h : K (a.put o.dst v') w') : if Region.wanted o (yielded ops a.tmps) = true then Oper.wpIn F n P o a w K Q else E := by
  have hw : Region.wanted o (yielded ops a.tmps) = true := by unfold Region.wanted; rw [hgd]
  rw [if_pos hw]
  refine ⟨?_, ?_⟩
  · simp [Oper.about, hop, resolve, Target.leads, Sem.run_pure]
  · rw [Oper.semAt_plain F _ _ (by rw [hop]; intro c hc'; cases hc')]
    unfold execOp
    simp only [hop, resolve, invoke, builtin, Sem.run_bind, Sem.run_pure, Result.andThen_ok, List.map_toArray, List.map_cons, List.map_nil, hs, hx, hr]
    exact h

end Go.Proofs.YtleimijgpmoifaaGreat
