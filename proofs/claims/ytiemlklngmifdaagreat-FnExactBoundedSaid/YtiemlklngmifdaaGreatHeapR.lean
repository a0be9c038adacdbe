/-
  A heap of levels: what is left of it, ranged over; the levels by rank. No condition of its own.
-/
import Derived.Test.YtiemlklngmifdaaGreatHeapP
import Derived.Test.YtiemlklngmifdaaGreatHeapS
import Derived.RangeFuncNested
import Derived.RangeFuncBound
import Derived.RangeFuncCalls
import Derived.RangeFuncLeaves
import Derived.RangeFuncBox
import Derived.Shelf.Abstract
import Derived.OwnWalkIn
import Derived.TacticsInMore
import Derived.LoopNIn
import Derived.LoopIn
namespace Go.Proofs.YtiemlklngmifdaaGreat
set_option linter.unusedVariables false
set_option linter.unusedSimpArgs false
open Go.RowKit Go.Shelf
set_option maxRecDepth 100000

attribute [local go_sem] Oper.semAt_some

/-! ### an iterator that writes blocks of its own -/
theorem Ch.put {D : Nat → Prop} (W : World) (l : Nat) (o : Obj) (h : D l) : Ch D W (W.putObj l o) := Ch.grown (grownBy_putObj' W l o) (fun k e => by cases e; exact h)

def SeqS {α : Type} (F : Fence) (n : Nat) (P : Program) (g : Nat) (lb : Array Value) (encs : α → Array Value) (S : List α → Prop) (Ok : α → Prop) (D : Nat → Prop) (base N : Nat) (w : World) : Prop :=
  ∀ (l : Nat) (J : List α → World → Prop) (W : World), (∀ k, k < base → W.heap[k]? = w.heap[k]?) → base ≤ W.heap.size →
    (∀ pre A B, J pre A → Ch D A B → J pre B) →
    (∀ pre x W1, J pre W1 → pre.length < N → Ok x → YieldAt F (n - 1) P l (encs x) W1 fun e W' => e = .returned (.bool true) ∧ J (pre ++ [x]) W' ∧ Ch (fun k => base ≤ k) W1 W') →
    J [] W →
    CallsIn F n P g (#[.func (.yield l) #[] #[]] ++ lb) W fun e W' => (∃ v, e = .returned v) ∧ ∃ xs, S xs ∧ J xs W'

/-- The record of such a loop. -/
def recS (fn : FuncId) (tmps : Array Value) (ps : Array Tmp) (assign body : Code) (B : Nat) (st : LoopState) : Loop :=
  { state := st, pending := none, fn := fn, tmps := tmps, params := ps, assign := assign, body := body, defers := B }

section
variable {F : Fence} {n : Nat} {P : Program}
theorem wpIn_rangeFunc_S {α : Type} {g : Operand} {ps : Array Tmp} {assign body : Code} {Q : Exit → Act → World → Prop} {a : Act} {w : World}
    (hro : F.round = none) (h1 : 1 ≤ n) {gf : Nat} {lb : Array Value} (hg : a.eval g = .func (.func gf) #[] lb) (hFg : F.fn gf) (eg : ∀ args w, (callFunc gf args).run P w = .ok (.enter gf args) w)
    {encs : α → Array Value} {S : List α → Prop} {Ok : α → Prop} {D : Nat → Prop} {base N : Nat} {w0 : World} (hseq : SeqS F (n - 1) P gf lb encs S Ok D base N w0) (hw0 : ∀ k, k < base → w.heap[k]? = w0.heap[k]?) (hbase : base ≤ w.heap.size) (hD : ∀ k, D k → k < base) (hps : ∀ x, (encs x).size = ps.size)
    (I : List α → World → Prop) (hI : ∀ pre A B, I pre A → Ch (fun k => D k ∨ k = w.heap.size ∨ k = w.heap.size + 1) A B → I pre B) (h0 : I [] w)
    (Ax : List α → α → Act → World → Prop) (hAx : ∀ pre x a' A B, Ax pre x a' A → Ch (fun k => k = w.heap.size + 1) A B → Ax pre x a' B)
    (hassign : ∀ (l : Nat) (pre : List α) (x : α) (W : World) (K : Act → World → Prop), I pre W → Ok x → w.heap.size + 2 ≤ W.heap.size → (∀ a' W', Ch (fun k => w.heap.size + 2 ≤ k) W W' → Ax pre x a' W' → K a' W') →
      assign.wpIn (F.inRound l) (n - 1 - 1) P (Exit.then K (fun _ _ _ => False)) { tmps := (ps.zip (encs x)).foldl (fun t (p, v) => t.setIfInBounds p v) a.tmps, defers := [] } W)
    (hbody : ∀ (l : Nat) (pre : List α) (x : α) (a' : Act) (W : World), pre.length < N → Ax pre x a' W →
      body.wpIn (F.inRound l) (n - 1 - 1) P (fun e _ W' => e = .normal ∧ Ch (fun k => base ≤ k ∧ k ≠ w.heap.size ∧ k ≠ w.heap.size + 1) W W' ∧ I (pre ++ [x]) W') a' W)
    (hdone : ∀ (xs : List α) (W : World), S xs → I xs W → W.heap[w.heap.size]? = some (.deferred (some [])) → Q .normal { a with defers := { target := .collected w.heap.size, args := #[] } :: a.defers } W) :
    (Code.rangeFunc g ps assign body).wpIn F n P Q a w := by
  refine wpIn_rangeFunc fun fn hfn => ?_
  rw [hro]
  obtain ⟨R, hR⟩ : ∃ R, R = recS fn a.tmps ps assign body w.heap.size := ⟨_, rfl⟩
  obtain ⟨V, hV⟩ : ∃ V, V = (w.alloc (.deferred (some []))).alloc (.loop (R .ready)) := ⟨_, rfl⟩
  have gV2 : (w.alloc (.deferred (some []))).grownBy V none := by rw [hV]; exact World.grownBy_alloc _ _ _
  have zV : V.heap.size = w.heap.size + 2 := by rw [hV, World.size_alloc, World.size_alloc]
  have dV : V.heap[w.heap.size]? = some (.deferred (some [])) := (gV2.block w.heap.size (by rw [World.size_alloc]; omega) (by simp)).trans (World.alloc_heap_new w _)
  have lV : V.heap[w.heap.size + 1]? = some (.loop (R .ready)) := by
    have := World.alloc_heap_new (w.alloc (.deferred (some []))) (.loop (R .ready))
    rw [World.size_alloc] at this
    rw [hV]; exact this
  have cV : ∀ {E : Nat → Prop}, Ch E w V := fun {E} => by rw [hV]; exact ((Ch.refl E w).alloc _).alloc _
  have iV : I [] V := hI _ _ _ h0 cV
  refine ⟨w.heap.size + 1, [{ target := .collected w.heap.size, args := #[] }], V, { target := .fn (.func gf) lb, args := #[.func (.yield (w.heap.size + 1)) #[] #[]] }, V, gf,
    #[.func (.yield (w.heap.size + 1)) #[] #[]] ++ lb, V, by rw [hV, hR]; exact run_enterLoop_outer _ _ _ _ _, by simp only [resolve, hg]; simp [go_sem],
    fun f' hf' => by simp [Target.leads] at hf'; subst hf'; exact hFg, by simp [invoke, go_sem, eg], fun _ => h1, ?_⟩
  refine (hseq (w.heap.size + 1) (fun pre W => I pre W ∧ W.heap[w.heap.size + 1]? = some (.loop (R .ready)) ∧ W.heap[w.heap.size]? = some (.deferred (some [])))
    V (fun k hk => ((cV (E := fun _ => False)).block k (by omega) id).trans (hw0 k hk)) (by omega) ?own ?round ⟨iV, lV, dV⟩).mono ?fin
  case own =>
    rintro pre A B ⟨hi, hl, hd⟩ hc
    exact ⟨hI _ _ _ hi (hc.more fun k hk => .inl hk), hc.at hl (fun h => by have := hD _ h; omega), hc.at hd (fun h => by have := hD _ h; omega)⟩
  case round =>
    rintro pre x W ⟨hi, hl, hk⟩ hlen hok
    have hlt := block_lt hl
    have hy := run_yield (P := P) (args := encs x) hl (by rw [hR]; exact hps x)
    rw [hR] at hy
    refine ⟨fn, _, assign, body, hy, roundIn_of_wpIn hfn (hassign _ pre x W _ hi hok (by omega) fun a' Wa hca hax => ?_)⟩
    have hl2 := hca.at hl (by omega)
    have hk2 := hca.at hk (by omega)
    refine ⟨_, run_beginRound hl2 (by rw [hR]; rfl), ?_⟩
    have eB : ({ R .ready with state := .busy } : Loop) = R .busy := by rw [hR]; rfl
    rw [eB]
    have cB : Ch (fun k => k = w.heap.size + 1) Wa (Wa.putObj (w.heap.size + 1) (.loop (R .busy))) := Ch.put _ _ _ rfl
    have lB : (Wa.putObj (w.heap.size + 1) (.loop (R .busy))).heap[w.heap.size + 1]? = some (.loop (R .busy)) := World.putObj_heap_same (block_lt hl2)
    have dB := cB.at hk2 (by omega)
    refine wpIn_mono (hbody _ pre x a' _ hlen (hAx _ _ _ _ _ hax cB)) ?_
    rintro e a3 X ⟨rfl, kp, iX⟩
    have lX := kp.at lB (by omega)
    have dX := kp.at dB (by omega)
    have eX : ({ R .busy with state := if (none : Option Code).isNone then .ready else .done, pending := none } : Loop) = R .ready := by rw [hR]; rfl
    have hend := run_endRound (P := P) none lX
    rw [eX] at hend
    have cX : Ch (fun k => k = w.heap.size + 1) X (X.putObj (w.heap.size + 1) (.loop (R .ready))) := Ch.put _ _ _ rfl
    refine ⟨_, _, hend, rfl, ⟨hI _ _ _ iX (cX.more fun k hk => .inr (.inr hk)), World.putObj_heap_same (block_lt lX), cX.at dX (by omega)⟩, ?_⟩
    exact (((hca.more fun k hk => by omega).trans (cB.more fun k hk => by omega)).trans (kp.more fun k hk => hk.1)).trans (cX.more fun k hk => by omega)
  case fin =>
    rintro e X ⟨⟨v, rfl⟩, xs, hS, hi, hl, hk⟩
    have hend := run_endLoop (P := P) hl (by rw [hR]; simp [recS])
    have hp : (R .ready).pending = none := by rw [hR]; rfl
    rw [hp] at hend
    have cX : ∀ o, Ch (fun k => k = w.heap.size + 1) X (X.putObj (w.heap.size + 1) o) := fun o => Ch.put _ _ _ rfl
    exact ⟨none, _, hend, hdone xs _ hS (hI _ _ _ hi ((cX _).more fun k hk => .inr (.inr hk))) ((cX _).at hk (by omega))⟩
end

theorem wideC {F : Fence} (hF : F = Fence.wide) {n : Nat} {P : Program} {f : FuncId} {args : Array Value} {w : World} {R : Ending → World → Prop} (h : Calls P f args w R) : CallsIn F n P f args w R := by subst hF; exact callsIn_wide.2 h
theorem wideF {F : Fence} (hF : F = Fence.wide) (k : Nat) : F.fn k := by subst hF; trivial
theorem wideR {F : Fence} (hF : F = Fence.wide) : F.round = none := by subst hF; rfl
/-- The length of the slice that lies at the head of a block. -/
def lenAt (w : World) (b : Nat) : Nat := match w.cell? ⟨b, 0, none⟩ with
  | some (.slice _ n _) => n
  | _ => 0
theorem lenAt_eq {w : World} {b n c : Nat} {a : Option Addr} (h : w.cell? ⟨b, 0, none⟩ = some (.slice a n c)) : lenAt w b = n := by unfold lenAt; rw [h]
/-- What a level is as a value. -/
def encL (x : LvC) : Value := .agg #[.int .i64 x.p, .slice x.a x.n x.c]

set_option maxHeartbeats 4000000 in
theorem popped_seq {F : Fence} (hF : F = Fence.wide) (n : Nat) (hn : 2 ≤ n) {lo Bh Bb m cap base : Nat} {a0 : Option Addr} {cl zs : List LvC} {w : World} (h : HM lo w Bh (.slice a0 m cap) zs) (hp : Popped cl [] zs)
    (hb : w.heap[Bb]? = some (.cells #[.pointer (some ⟨Bh, 0, none⟩)] 195 (0, 0))) (h1 : Bh < base) (h2 : Bb < base) (h3 : ∀ k, (Value.slice a0 m cap).ownBlock = some k → k < base) (h4 : Bh ≠ Bb) (h5 : ∀ k, (Value.slice a0 m cap).ownBlock = some k → Bb ≠ k) :
    SeqS F n Tryz.prog 160 #[.pointer (some ⟨Bb, 0, none⟩)] (fun x : LvC => #[encL x]) (fun xs => Popped cl xs []) (fun x => Fits x.p) (fun k => k = Bh ∨ (Value.slice a0 m cap).ownBlock = some k) base cl.length w := fun l J W hW hWs hJ hY h0 => by
  have hro := wideR hF
  have hMW : HM lo W Bh (.slice a0 m cap) zs := ⟨(hW _ h1).trans h.box, ⟨⟨h.row.1.1, by
    rcases h.row.1.2 with h9 | ⟨g, c, cur, e, hB, hh, hr⟩
    · exact .inl h9
    · exact .inr ⟨g, c, cur, e, hB, (hW _ (h3 g (by rw [e]; rfl))).trans hh, hr⟩⟩, h.row.2⟩, h.lt, h.small⟩
  have hbW : W.heap[Bb]? = _ := (hW _ h2).trans hb
  have hn1 : 1 ≤ n - 1 := by omega
  have hn0 : 1 ≤ n := by omega
  have hpopF : F.fn 161 := wideF hF _
  have hPop := fun (k : Nat) (g' m' : Nat) (ys : List LvC) (W' : World) (h' : HM lo W' Bh (.slice (some ⟨g', 0, none⟩) (m' + 1) cap) ys) (hp' : Hp ys) => Lib.hid (wideC (n := k) hF (pop_calls h' hp'))
  refine callsIn_of_wp Tryz.func160 rfl (wideF hF _) ?_ hro
  clear hF h hb
  simp only [Tryz.ntmps160, List.size_toArray, List.length_cons, List.length_nil, Nat.reduceAdd, Nat.reduceSub, Array.replicate_succ, Array.replicate_zero, List.push_toArray, List.append_toArray, List.nil_append, List.cons_append]
  gi_wp2
  gi_loopw [3] (fun _ wr => ∃ (m' : Nat) (pre ys : List LvC), HM lo wr Bh (.slice a0 m' cap) ys ∧ Popped cl pre ys ∧ J pre wr ∧ wr.heap[Bb]? = some (.cells #[.pointer (some ⟨Bh, 0, none⟩)] 195 (0, 0))) (fun _ wr => lenAt wr Bh)
  case atStart => exact ⟨m, [], zs, hMW, hp, h0, hbW⟩
  case round =>
    obtain ⟨m', pre, ys, hM, hpp, hJs, hB⟩ := hrel
    have HL : Hid (m' = ys.length) := by
      obtain ⟨a', c', e⟩ := hM.sl
      exact (Value.slice.inj e).2.1
    obtain ⟨c0, _, _⟩ := hM.c
    have cb : wr.cell? ⟨Bb, 0, none⟩ = some (.pointer (some ⟨Bh, 0, none⟩)) := by rw [cell_of_row wr Bb 0 _ _ _ hB]; rfl
    have hms : m' ≤ 1048576 := by rw [HL.out]; exact hM.small
    cases m' with
    | zero =>
      have hy0 : Hid (Popped cl pre []) := by have e : ys = [] := List.eq_nil_of_length_eq_zero HL.out.symm; rw [e] at hpp; exact hpp
      gi_wp2
      go_end0
      exact ⟨⟨_, rfl⟩, pre, hy0.out, hJs⟩
    | succ k =>
      obtain ⟨g, cap2, hv2, hg2, _⟩ := hM.op (by rw [← HL.out]; omega)
      obtain ⟨ev1, ev2, ev3⟩ := Value.slice.inj hv2
      subst ev1
      have hm0 : (0 : Int) < (k : Int) + 1 := by omega
      have h0l : 0 < ys.length := by rw [← HL.out]; omega
      have HP := Lib.hid hpp
      clear hv2 ev2 ev3 hpp
      gi_wp2_with fail
      refine (hPop _ g k ys _ hM HP.out.hp).out.mono ?_
      rintro e w2 ⟨rfl, ys2, hM2, hpm2, hHp2, hch2⟩
      have hJ2 := hJ _ _ _ hJs (hch2.more fun k hk => hk.imp id fun e => by rw [e]; rfl)
      have h5g := h5 g rfl
      have hB2 := hch2.at hB (by omega)
      have cb2 : w2.cell? ⟨Bb, 0, none⟩ = some (.pointer (some ⟨Bh, 0, none⟩)) := by rw [cell_of_row w2 Bb 0 _ _ _ hB2]; rfl
      have hgb : g < base := h3 g rfl
      obtain ⟨fn, tmps, assign, body, hy, hR⟩ := hY pre (nth ys 0) w2 hJ2 (by have := HP.out.perm.length_eq; rw [List.length_append] at this; omega) (hM.row.2 _ (nth_mem h0l))
      have hpp2 := Lib.hid (HP.out.next h0l hHp2 hpm2)
      have hl1 := Lib.hid (lenAt_eq c0)
      dsimp only [encL] at hy
      gi_wp2_with fail
      refine hR.mono ?_
      rintro e W3 ⟨rfl, hJ3, hch3⟩
      have hD3 : ∀ j, lo ≤ j → (Value.slice (some ⟨g, 0, none⟩) k cap).ownBlock = some j → ¬ base ≤ j := fun j _ hk => by
        have e : g = j := by simpa [Value.ownBlock] using hk
        omega
      have hM3 := hM2.ch hch3 (by omega) hD3
      have hB3 := hch3.at hB2 (by omega)
      have hl3 := Lib.hid (lenAt_eq hM3.c.1)
      clear hy hR
      gi_wp2
      go_roundw
      case rel => exact ⟨k, _, ys2, hM3, hpp2.out, hJ3, hB3⟩
      case measure => rw [hl1.out, hl3.out]; omega

/-- What the appending loop holds: its box and its row. -/
structure AI (Bs : Nat) (D : Nat → Prop) (w : World) (pre : List LvC) (W : World) : Prop where
  row : ∃ v, W.heap[Bs]? = some (.cells #[v] 36 (0, 0)) ∧ OwnF (Bs + 3) 102 W v pre
  ch : Ch (fun k => D k ∨ Bs ≤ k) w W
theorem AI.go {Bs : Nat} {D : Nat → Prop} {w A B : World} {pre : List LvC} (h : AI Bs D w pre A) {E : Nat → Prop} (hc : Ch E A B) (h1 : ∀ k, E k → k ≠ Bs ∧ k < Bs + 3) (h2 : ∀ k, E k → D k ∨ Bs ≤ k) : AI Bs D w pre B := by
  obtain ⟨⟨v, hb, hr⟩, hch⟩ := h
  refine ⟨⟨v, hc.at hb (fun h => (h1 _ h).1 rfl), hr.ch hc fun g e hg => ?_⟩, hch.trans (hc.more h2)⟩
  have := (h1 g hg).2
  rcases hr.1.2 with ⟨hv, _⟩ | ⟨g', _, _, hv, hg', _⟩
  · rw [hv] at e; cases e
  · rw [hv] at e
    have e' : g' = g := by simpa [Value.ownBlock] using e
    omega

theorem wpListIn_append_of {F : Fence} {n : Nat} {P : Program} {ops : Array Oper} {rest : List Oper} {o : Oper} {a : Act} {Q : Exit → Act → World → Prop} {w w' : World} {t : TypeId} {v x v' : Value} (hg : o.guard = none) (s y : Operand)
    (hop : o.op = .call { callee := .builtin .append, args := #[s, y], argTypes := #[t, t] }) (hs : a.eval s = v) (hx : a.eval y = x)
    (hrun : (Builtin.append_ #[t, t] o.type #[v, x]).run P w = .ok v' w') (hK : wpListIn F n P ops Q rest (a.put o.dst v') w') : wpListIn F n P ops Q (o :: rest) a w := by
  refine wpListIn_plain hg fun K hK' => ?_
  unfold Oper.wpIn
  refine ⟨?_, ?_⟩
  · simp [Oper.about, hop, resolve, Target.leads, Sem.run_pure]
  · rw [Oper.semAt_plain F _ _ (by rw [hop]; intro c hc'; cases hc')]
    simp [execOp, hop, resolve, invoke, builtin, hs, hx, hrun, Result.andThen]
    exact hK' _ _ hK

set_option maxHeartbeats 4000000 in
theorem appendSeqL_calls {lo Bh Bb m cap : Nat} {a0 : Option Addr} {cl zs : List LvC} {w : World} (h : HM lo w Bh (.slice a0 m cap) zs) (hp : Popped cl [] zs)
    (hb : w.heap[Bb]? = some (.cells #[.pointer (some ⟨Bh, 0, none⟩)] 195 (0, 0))) (h3 : ∀ k, (Value.slice a0 m cap).ownBlock = some k → k < w.heap.size) (h4 : Bh ≠ Bb) (h5 : ∀ k, (Value.slice a0 m cap).ownBlock = some k → Bb ≠ k) (hcl : cl.length ≤ 1048576) :
    Calls Tryz.prog 159 #[.slice none 0 0, .func (.func 160) #[] #[.pointer (some ⟨Bb, 0, none⟩)]] w fun e w' =>
      ∃ v xs, e = .returned v ∧ Popped cl xs [] ∧ OwnF w.heap.size 102 w' v xs ∧ Ch (fun k => (k = Bh ∨ (Value.slice a0 m cap).ownBlock = some k) ∨ w.heap.size ≤ k) w w' := by
  obtain ⟨i0, hi, hz0, hz1, hz2⟩ := info_parts info_lvl
  refine (callsIn_wide (n := 5)).1 ?_
  obtain ⟨F, hF⟩ : ∃ F, F = Fence.wide := ⟨_, rfl⟩
  rw [← hF]
  have hro := wideR hF
  have hBh := block_lt h.box
  have hBb := block_lt hb
  have hseq := popped_seq (base := w.heap.size) hF 4 (by omega) h hp hb hBh hBb h3 h4 h5
  have hf1 : F.fn 160 := wideF hF _
  refine callsIn_of_wp_marks Tryz.func159 rfl (wideF hF _) ?_ hro
  clear hF
  simp only [Tryz.ntmps159, List.size_toArray, List.length_cons, List.length_nil, Nat.reduceAdd, Nat.reduceSub, Array.replicate_succ, Array.replicate_zero, List.push_toArray, List.append_toArray, List.nil_append, List.cons_append]
  gi_wp2
  have bO := alloc_block w #[.slice none 0 0] 36
  have zO : (w.alloc (.cells #[.slice none 0 0] 36)).heap.size = w.heap.size + 1 := by simp
  have hch0 : Ch (fun k => (k = Bh ∨ (Value.slice a0 m cap).ownBlock = some k) ∨ w.heap.size ≤ k) w (w.alloc (.cells #[.slice none 0 0] 36)) := (Ch.refl _ _).alloc _
  have hsame : ∀ k, k < w.heap.size → (w.alloc (.cells #[.slice none 0 0] 36)).heap[k]? = w.heap[k]? := fun k hk => Below.heap_alloc _ _ _ (by omega)
  have hDlt : ∀ k, (k = Bh ∨ (Value.slice a0 m cap).ownBlock = some k) → k < w.heap.size := fun k hk => hk.elim (fun e => by omega) (h3 k)
  generalize w.alloc (.cells #[.slice none 0 0] 36) = wq at *
  refine wpIn_rangeFunc_S hro (by omega) (gf := 160) (lb := #[.pointer (some ⟨Bb, 0, none⟩)]) rfl hf1 (enters_of Tryz.func160 (by kernel_rfl) rfl)
    hseq hsame (by omega) hDlt (fun _ => rfl)
    (AI w.heap.size (fun k => k = Bh ∨ (Value.slice a0 m cap).ownBlock = some k) w)
    (fun pre A B hA hc => hA.go hc (fun k hk => ?hI1) (fun k hk => ?hI2))
    ⟨⟨_, bO, ⟨⟨rfl, .inl ⟨rfl, rfl⟩⟩, by simp⟩⟩, hch0⟩
    (fun pre x a' W => ∃ bx, a' = { tmps := #[.slice none 0 0, .func (.func 160) #[] #[.pointer (some ⟨Bb, 0, none⟩)], .pointer (some ⟨w.heap.size, 0, none⟩), undef, .slice none 0 0, .pointer (some ⟨bx, 0, none⟩), .func (.func 160) #[] #[.pointer (some ⟨Bb, 0, none⟩)], encL x, undef, undef, undef, undef, undef], defers := [] } ∧
      AI w.heap.size (fun k => k = Bh ∨ (Value.slice a0 m cap).ownBlock = some k) w pre W ∧ W.heap[bx]? = some (.cells #[.int .i64 x.p, .slice x.a x.n x.c] 102 (0, 0)) ∧ w.heap.size + 3 ≤ bx ∧ Fits x.p)
    ?hAx ?assign ?body ?done
  case hI1 => rcases hk with hk | hk | hk; have := hDlt _ hk; omega; omega; omega
  case hI2 => rcases hk with hk | hk | hk; exact .inl hk; exact .inr (by omega); exact .inr (by omega)
  case hAx =>
    rintro pre x a' A B ⟨bx, rfl, hA, hx, hbx, hf⟩ hc
    exact ⟨bx, rfl, hA.go hc (fun k hk => by omega) (fun k hk => .inr (by omega)), hc.at hx (by omega), hbx, hf⟩
  case assign =>
    intro l pre x W K hA hok hW hK
    obtain ⟨xp, xa, xn, xc⟩ := x
    dsimp only [encL] at hok ⊢
    gi_wp2
    refine hK _ _ ((Ch.refl _ _).alloc _) ⟨W.heap.size, rfl, hA.go ((Ch.refl (fun _ => False) _).alloc _) (fun _ h => h.elim) (fun _ h => h.elim), alloc_block _ _ _, by omega, hok⟩
  case body =>
    rintro l pre x a' W hlen ⟨bx, rfl, ⟨⟨v, hv, hrow⟩, hch⟩, hx, hbx, hf⟩
    obtain ⟨xp, xa, xn, xc⟩ := x
    dsimp only [encL] at hx hf ⊢
    have c0 : W.cell? ⟨w.heap.size, 0, none⟩ = some v := by rw [cell_of_row W _ 0 _ _ _ hv]; rfl
    have x0 : W.cell? ⟨bx, 0, none⟩ = some (.int .i64 xp) := by rw [cell_of_row W _ 0 _ _ _ hx]; rfl
    have x1 : W.cell? ⟨bx, 1, none⟩ = some (.slice xa xn xc) := by rw [cell_of_row W _ 1 _ _ _ hx]; rfl
    have hbl := block_lt hv
    have hbl2 := block_lt hx
    have hpl : pre.length ≤ 1048576 := by omega
    have CY := Cells.new W [.int .i64 xp, .slice xa xn xc] 102
    have hrow1 := hrow.1.alloc (.cells #[.int .i64 xp, .slice xa xn xc] 102)
    have hv1 : (W.alloc (.cells #[.int .i64 xp, .slice xa xn xc] 102)).heap[w.heap.size]? = _ := (Below.heap_alloc _ _ _ (by omega)).trans hv
    have hcA : Ch (fun k => w.heap.size ≤ k ∧ k ≠ w.heap.size + 1 ∧ k ≠ w.heap.size + 1 + 1) W (W.alloc (.cells #[.int .i64 xp, .slice xa xn xc] 102)) := (Ch.refl _ _).alloc _
    have zA : (W.alloc (.cells #[.int .i64 xp, .slice xa xn xc] 102)).heap.size = W.heap.size + 1 := by simp
    obtain ⟨v', w1, r1, r2, r3, _⟩ := run_append_own (P := Tryz.prog) (w := W.alloc (.cells #[.int .i64 xp, .slice xa xn xc] 102)) (w.heap.size + 3) 36 36 102 i0 _ 2 32 Tryz.underlying36 hi hz0 hz1 hz2 rfl (by omega) _ _ _ hrow1 ⟨W.heap.size, 0, none⟩ 1 1 [.int .i64 xp, .slice xa xn xc] rfl
      (fun j u hu => by
        have hc := CY j u hu
        unfold Addr.add
        by_cases hj : j = 0
        · subst hj; simpa using hc
        · rw [if_neg hj]; exact hc) (by simp [Value.oneCell']) (by unfold maxLen; omega) (by omega) (by omega)
    obtain ⟨g', cap', rfl⟩ := ownsRow_succ r2
    have hne : ∀ k, v.ownBlock = some k → w.heap.size + 3 ≤ k := fun k hk => by
      rcases hrow.1.2 with ⟨hv9, _⟩ | ⟨g9, _, _, hv9, hg9, _⟩
      · rw [hv9] at hk; cases hk
      · rw [hv9] at hk
        have e9 : g9 = k := by simpa [Value.ownBlock] using hk
        omega
    have t4 : Ch (fun k => w.heap.size + 3 ≤ k) (W.alloc (.cells #[.int .i64 xp, .slice xa xn xc] 102)) w1 := Ch.grown r3 hne
    have hv2 := t4.at hv1 (by omega)
    have s0 : w1.cell? ⟨w.heap.size, 0, none⟩ = some v := by rw [cell_of_row w1 _ 0 _ _ _ hv2]; rfl
    have sf := frozen_of_row w1 w.heap.size 0 _ _ hv2
    have hHP : Hid (Ch (fun k => w.heap.size ≤ k ∧ k ≠ w.heap.size + 1 ∧ k ≠ w.heap.size + 1 + 1) W (w1.setCell ⟨w.heap.size, 0, none⟩ (.slice (some ⟨g', 0, none⟩) (pre.length + 1) cap')) ∧ AI w.heap.size (fun k => k = Bh ∨ (Value.slice a0 m cap).ownBlock = some k) w (pre ++ [⟨xp, xa, xn, xc⟩]) (w1.setCell ⟨w.heap.size, 0, none⟩ (.slice (some ⟨g', 0, none⟩) (pre.length + 1) cap'))) := by
      have k1 : Ch (fun k => w.heap.size ≤ k ∧ k ≠ w.heap.size + 1 ∧ k ≠ w.heap.size + 1 + 1) W (w1.setCell ⟨w.heap.size, 0, none⟩ (.slice (some ⟨g', 0, none⟩) (pre.length + 1) cap')) := (hcA.trans (t4.more fun k hk => by omega)).set 0 _ ⟨by omega, by omega, by omega⟩
      refine ⟨k1, ⟨⟨.slice (some ⟨g', 0, none⟩) (pre.length + 1) cap', ?_, ?_, ?_⟩, hch.trans (k1.more fun k hk => .inr hk.1)⟩⟩
      · rw [heap_setCell_same w1 _ 0 _ _ _ hv2]; rfl
      · rw [List.flatMap_append, List.length_append]
        exact ownsRow_setCell_below r2 (show w.heap.size < w.heap.size + 3 by omega) _
      · intro y hy
        rcases List.mem_append.1 hy with hy | hy
        · exact hrow.2 y hy
        · rw [List.mem_singleton.1 hy]; exact hf
    clear CY hrow1 hv1 hcA zA r2 r3 hne t4 hv2 hch hrow
    gi_wp2_with (gi_at_builtin; refine wpListIn_append_of rfl _ _ rfl rfl rfl r1 ?_)
    exact hHP.out
  case done =>
    rintro xs W hS ⟨⟨v, hv, hrow⟩, hch⟩ hK
    have c0 : W.cell? ⟨w.heap.size, 0, none⟩ = some v := by rw [cell_of_row W _ 0 _ _ _ hv]; rfl
    gi_wp2
    refine ⟨by simp, .inl ⟨_, _, rfl, run_takeDeferred hK, ?_⟩⟩
    have cD : Ch (fun k => k = wq.heap.size) W (W.putObj wq.heap.size (.deferred none)) := Ch.put _ _ _ rfl
    obtain ⟨⟨v2, hv2, hrow2⟩, hch2⟩ := AI.go (E := fun k => k = wq.heap.size) (B := W.putObj wq.heap.size (.deferred none)) ⟨⟨v, hv, hrow⟩, hch⟩ cD (fun k hk => by omega) (fun k hk => .inr (by omega))
    have hvv := cD.at hv (by omega)
    rw [hv2] at hvv
    obtain rfl : v2 = v := by simpa using hvv
    exact ⟨_, results_tmp rfl _ _ _, v2, xs, rfl, hS, ⟨⟨hrow2.1.1, hrow2.1.2.imp id fun ⟨g, c, cur, e, hB, hr⟩ => ⟨g, c, cur, e, by omega, hr⟩⟩, hrow2.2⟩, hch2⟩

theorem collectL_calls {lo Bh Bb m cap : Nat} {a0 : Option Addr} {cl zs : List LvC} {w : World} (h : HM lo w Bh (.slice a0 m cap) zs) (hp : Popped cl [] zs)
    (hb : w.heap[Bb]? = some (.cells #[.pointer (some ⟨Bh, 0, none⟩)] 195 (0, 0))) (h3 : ∀ k, (Value.slice a0 m cap).ownBlock = some k → k < w.heap.size) (h4 : Bh ≠ Bb) (h5 : ∀ k, (Value.slice a0 m cap).ownBlock = some k → Bb ≠ k) (hcl : cl.length ≤ 1048576) :
    Calls Tryz.prog 102 #[.func (.func 160) #[] #[.pointer (some ⟨Bb, 0, none⟩)]] w fun e w' =>
      ∃ v xs, e = .returned v ∧ Popped cl xs [] ∧ OwnF w.heap.size 102 w' v xs ∧ Ch (fun k => (k = Bh ∨ (Value.slice a0 m cap).ownBlock = some k) ∨ w.heap.size ≤ k) w w' := by
  go_enter Tryz.func102, Tryz.ntmps102
  go_wp2_with fail
  refine (appendSeqL_calls h hp hb h3 h4 h5 hcl).mono ?_
  rintro e w2 ⟨v, xs, rfl, hr⟩
  obtain ⟨a, c, rfl⟩ : ∃ a c, v = .slice a xs.length c := by
    rcases hr.2.1.1.2 with ⟨hv, hn⟩ | ⟨g, cap, cur, hv, _⟩
    · exact ⟨none, 0, by rw [hv, hn]⟩
    · exact ⟨_, _, hv⟩
  go_wp2
  go_ret
  exact ⟨_, xs, rfl, hr⟩

theorem poppedL_calls (p : Option Addr) (w : World) :
    Calls Tryz.prog 103 #[.pointer p] w fun e w' => e = .returned (.func (.func 160) #[] #[.pointer (some ⟨w.heap.size, 0, none⟩)]) ∧ w' = w.alloc (.cells #[.pointer p] 195) := by
  have hmf : ∀ (fn : Fn) (first cap : Array Value) (w : World), (Instr.makeFunc fn first cap).run Tryz.prog w = .ok (.func fn first cap) w := fun _ _ _ _ => rfl
  go_enter Tryz.func103, Tryz.ntmps103
  go_wp2
  go_ret
  exact ⟨rfl, rfl⟩

end Go.Proofs.YtiemlklngmifdaaGreat
