/-
  The parts of a set and the answers, ranged over. No condition of its own.
-/
import Derived.Test.YtiddellnmfckfaaGreatLoopN
import Derived.Test.YtiddellnmfckfaaGreatSubs2
namespace Go.Proofs.YtiddellnmfckfaaGreat
set_option linter.unusedVariables false
set_option linter.unusedSimpArgs false
open Go.RowKit Go.Shelf
set_option maxRecDepth 100000

attribute [local go_sem] Oper.semAt_some

/-- The number of a set. -/
abbrev MaskI := { m : Nat // m < 4096 }

theorem all_xor {s : Nat} (hs : s < 65536) : 65535 ^^^ s = 2 ^ 16 - 1 - s := by
  apply Nat.eq_of_testBit_eq
  intro i
  rw [Nat.testBit_xor, show (65535 : Nat) = 2 ^ 16 - 1 from rfl, Nat.testBit_two_pow_sub_one, show 2 ^ 16 - 1 - s = 2 ^ 16 - (s + 1) by omega, Nat.testBit_two_pow_sub_succ (by omega)]
  by_cases h : i < 16
  · rw [decide_eq_true h]; cases s.testBit i <;> rfl
  · rw [decide_eq_false h, Nat.testBit_lt_two_pow (Nat.lt_of_lt_of_le hs (Nat.pow_le_pow_right (n := 2) (by omega) (show 16 ≤ i by omega)))]; rfl
theorem nxt_word {s p : Nat} (hs : s < 4096) (hp : p ≤ 4096) (hx : nxtX 16 s p < 2 ^ 16) :
    bits .and .u16 (IntKind.u16.wrap (bits .or .u16 (p : Int) (bits .xor .u16 (if IntKind.u16.signed = true then -1 else IntKind.u16.max) (s : Int)) + 1)) (s : Int) = ((nxtM 16 s p : Nat) : Int) := by
  rw [show (if IntKind.u16.signed = true then -1 else IntKind.u16.max : Int) = ((65535 : Nat) : Int) from rfl, u16_xor_nat 65535 s (by omega) (by omega), all_xor (by omega), u16_or_nat p _ (by omega) (by omega)]
  have e : ((p ||| (2 ^ 16 - 1 - s) : Nat) : Int) + 1 = ((nxtX 16 s p : Nat) : Int) := by unfold nxtX; omega
  rw [e, IntKind.wrap_u16, Int.emod_eq_of_lt (by omega) (by omega), u16_and_nat _ s (by omega) (by omega)]
  rfl

set_option maxHeartbeats 2000000 in
theorem parts_stops {F : Fence} (hF : F = Fence.wide) (n : Nat) (hn : 2 ≤ n) (s : Nat) (hs : s < 4096) (w : World) (Bn : Nat) (hb : Boxed w Bn 64 (.int .u16 (s : Int))) :
    SeqStopsK F n Tryz.prog 131 #[.pointer (some ⟨Bn, 0, none⟩)] (fun x : MaskI => #[Value.int .u16 (x.1 : Int)]) (KpB Bn 64 (.int .u16 (s : Int))) (fun ys => ys.map (·.1) = subsTo s (s + 1)) (fun _ => True) 4096 w := fun l J Jx W hW hJ hJx hY h0 => by
  have hbW : Boxed W Bn 64 (.int .u16 (s : Int)) := (hW.block Bn hb.lt).trans hb
  have hro := wideR hF
  have hn1 : 1 ≤ n - 1 := by omega
  have hn0 : 1 ≤ n := by omega
  refine callsIn_of_wp Tryz.func131 rfl (wideF hF _) ?_ hro
  clear hF
  simp only [Tryz.ntmps131, List.size_toArray, List.length_cons, List.length_nil, Nat.reduceAdd, Nat.reduceSub, Array.replicate_succ, Array.replicate_zero, List.push_toArray, List.append_toArray, List.nil_append, List.cons_append]
  gi_wp2
  gi_loopw [3] (fun i wr => ∃ (p : Nat) (pre : List MaskI), p ≤ s ∧ i = .int .u16 (p : Int) ∧ SubM p s ∧ pre.map (·.1) = subsTo s p ∧ J pre wr ∧ Boxed wr Bn 64 (.int .u16 (s : Int))) (fun i _ => 4097 - natOf i)
  case atStart => exact ⟨0, [], Nat.zero_le _, rfl, subM_zero s, rfl, h0, hbW⟩
  case round =>
    obtain ⟨p, pre, hps, rfl, hsub, hp, hJs, hB⟩ := hrel
    have hlen : pre.length < 4096 := by
      have h1 := congrArg List.length hp
      rw [List.length_map] at h1
      have h2 := subsTo_len s p
      omega
    obtain ⟨fn, tmps, assign, body, hy, hR⟩ := hY pre ⟨p, by omega⟩ wr hJs hlen
    have hp' := Lib.hid (show (pre ++ [(⟨p, by omega⟩ : MaskI)]).map (·.1) = subsTo s (p + 1) by rw [subsTo_succ hsub, List.map_append, hp]; rfl)
    dsimp only at hy
    gi_wp2
    refine hR.mono ?_
    rintro e W3 (⟨rfl, hJ3, hk3⟩ | ⟨rfl, hJx3⟩)
    · have hB3 := hk3 hB
      have hc3 := hB3.cell
      by_cases he : p = s
      · subst he
        gi_wp2
        go_end0
        exact ⟨⟨_, rfl⟩, .inl ⟨_, hp'.out, hJ3⟩⟩
      · have hne : ((p : Int) != (s : Int)) = true := by simp; omega
        obtain ⟨q1, q2, q3, q4⟩ := nxt_spec 16 s p (by omega) (by omega) hsub he
        gi_wp2
        have hE := nxt_word hs (Nat.le_trans hps (Nat.le_of_lt hs)) q1
        have hsk := subsTo_skip (s := s) (n := p + 1) (m := nxtM 16 s p) (by omega) fun t h1 h2 => q4 t (by omega) h2
        have hps' := subM_le q3
        go_roundw
        case rel => exact ⟨nxtM 16 s p, _, hps', by rw [hE], q3, by rw [hsk]; exact hp'.out, hJ3, hB3⟩
        case measure => rw [hE]; simp only [natOf, Int.toNat_natCast]; omega
    · gi_wp2
      go_end0
      exact ⟨⟨_, rfl⟩, .inr ⟨_, trivial, hJx3⟩⟩

theorem ownFrom_up {β : Type} {B B' : Nat} {I : β → World → Prop} (h : OwnFrom B I) (hb : B ≤ B') : OwnFrom B' I := fun s W W' row hs hg hr => h s W W' row hs hg fun r e => ⟨Nat.le_trans hb (hr r e).1, (hr r e).2⟩
theorem zok_up {n0 n1 : Nat} {Z : World → Nat → Prop} (h : ZOk n0 Z) (hn : n0 ≤ n1) : ZOk n1 Z := fun A B row h1 hg hr => h A B row (by omega) hg fun r e => ⟨by have := (hr r e).1; omega, (hr r e).2⟩
theorem roundIn_any {F : Fence} (hd : F.depth = none) (lc : Nat) {m m' : Nat} {P : Program} {l : Nat} {f : FuncId} {tmps : Array Value} {assign body : Code} {w : World} {R : Ending → World → Prop}
    (h : RoundIn F m P l f tmps assign body w R) : RoundIn (F.inRound lc) m' P l f tmps assign body w R := ⟨h.1, fun c cs _ => h.2 c cs (fun d hh => by rw [hd] at hh; cases hh)⟩
theorem kpZ_below {n0 m0 : Nat} {Z : World → Nat → Prop} {A B : World} (hZ : ZOk n0 Z) (hn : n0 ≤ A.heap.size) (hz : ZB Z A) (h : Below A.heap.size A B) : KpZ Z m0 A B :=
  ⟨h.size, fun g o _ ho _ => (h.block g (Array.getElem?_eq_some_iff.1 ho).1).trans ho, fun g hg => .inl (hZ A B none hn (below_grown h) (fun r e => by cases e) g hg), hz.turn hZ hn (below_grown h) fun r e => by cases e⟩
theorem KpZ.trans {m0 : Nat} {Z : World → Nat → Prop} {A B C : World} (h : KpZ Z m0 A B) (k : KpZ Z m0 B C) : KpZ Z m0 A C :=
  ⟨Nat.le_trans h.size k.size, fun g o hg ho hn => k.same g o hg (h.same g o hg ho hn) fun hz => (h.z g hz).elim hn fun h' => by have := (Array.getElem?_eq_some_iff.1 ho).1; omega,
    fun g hg => (k.z g hg).elim (fun h' => h.z g h') fun h' => .inr (Nat.le_trans h.size h'), k.zb⟩
theorem KpZ.up {m0 m1 : Nat} {Z : World → Nat → Prop} {A B : World} (h : KpZ Z m0 A B) (hm : m0 ≤ m1) : KpZ Z m1 A B := ⟨h.size, fun g o hg => h.same g o (Nat.le_trans hm hg), h.z, h.zb⟩

theorem parts_seq {F : Fence} (hF : F = Fence.wide) (n : Nat) (hn : 2 ≤ n) (s : Nat) (hs : s < 4096) (w : World) (Bn : Nat) (hb : Boxed w Bn 64 (.int .u16 (s : Int))) (m0 : Nat) (hm : m0 ≤ Bn) :
    SeqN F n Tryz.prog 131 #[.pointer (some ⟨Bn, 0, none⟩)] (fun x : MaskI => #[Value.int .u16 (x.1 : Int)]) (fun ys => ys.map (·.1) = subsTo s (s + 1)) 4096 m0 w := fun Z l J W hW hZ hZB hz0 hmW hJ hY h0 => by
  have hbl := hb.lt
  have hwl := hW.size
  refine (parts_stops hF n hn s hs w Bn hb l (fun pre X => J pre X ∧ ZB Z X ∧ ¬ Z X Bn ∧ W.heap.size ≤ X.heap.size) (fun _ _ => False) W hW ?_ (fun _ _ _ _ h _ _ => h) ?_ ⟨h0, hZB, hz0 Bn hm, Nat.le_refl _⟩).mono ?_
  · rintro s A B row ⟨h1, h2, h3, h4⟩ hg hr
    have hr' : ∀ r, row = some r → W.heap.size ≤ r ∧ ∃ o : Obj, A.heap[r]? = some o ∧ o.isCells = false := fun r e => by obtain ⟨k1, o, k2, k3⟩ := hr r e; exact ⟨k1, o, k2, Obj.not_cells_of_walk k3⟩
    exact ⟨hJ s A B row h1 hg hr', h2.turn hZ h4 hg hr', fun h => h3 (hZ A B row h4 hg hr' Bn h), Nat.le_trans h4 hg.size⟩
  · rintro pre x X ⟨h1, h2, h3, h4⟩ hlen
    refine (hY pre x X h1 h2 h4 hlen).mono ?_
    rintro e X' ⟨rfl, k1, k2⟩
    refine .inl ⟨rfl, ⟨k1, k2.zb, fun h => ?_, Nat.le_trans h4 k2.size⟩, fun hbx => k2.same Bn _ hm hbx h3⟩
    rcases k2.z Bn h with h | h
    · exact h3 h
    · omega
  · rintro e X ⟨hv, ⟨xs, hS, h1, _, _, h4⟩ | ⟨_, _, h⟩⟩
    · exact ⟨hv, xs, hS, h1, h4⟩
    · exact h.elim

theorem partsSeq_calls (m : Nat) (w : World) :
    Calls Tryz.prog 94 #[.int .u16 (m : Int)] w fun e w' => e = .returned (.func (.func 131) #[] #[.pointer (some ⟨w.heap.size, 0, none⟩)]) ∧ w' = w.alloc (.cells #[.int .u16 (m : Int)] 64) := by
  have hmf : ∀ (fn : Fn) (first cap : Array Value) (w : World), (Instr.makeFunc fn first cap).run Tryz.prog w = .ok (.func fn first cap) w := fun _ _ _ _ => rfl
  go_enter Tryz.func94, Tryz.ntmps94
  go_wp2
  go_ret
  exact ⟨rfl, rfl⟩
theorem answersSeq_calls (p0 p1 p2 p3 p4 p5 p6 p7 : Value) (w : World) :
    Calls Tryz.prog 56 #[.agg #[p0, p1, p2, p3, p4, p5, p6, p7]] w fun e w' => e = .returned (.func (.func 92) #[] #[.pointer (some ⟨w.heap.size, 0, none⟩)]) ∧ w' = w.alloc (.cells #[p0, p1, p2, p3, p4, p5, p6, p7] 36) := by
  have hmf : ∀ (fn : Fn) (first cap : Array Value) (w : World), (Instr.makeFunc fn first cap).run Tryz.prog w = .ok (.func fn first cap) w := fun _ _ _ _ => rfl
  go_enter Tryz.func56, Tryz.ntmps56
  go_wp2
  go_ret
  exact ⟨rfl, rfl⟩

end Go.Proofs.YtiddellnmfckfaaGreat
