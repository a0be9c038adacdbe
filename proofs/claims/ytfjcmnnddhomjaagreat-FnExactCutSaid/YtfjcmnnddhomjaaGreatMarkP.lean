/-
  The laws' own marks of programs: what a call owns is written over, number by number, and read again. No condition of its own.
-/
import Derived.Test.YtfjcmnnddhomjaaGreatMark
import Derived.Test.YtfjcmnnddhomjaaGreatMarkText
namespace Go.Proofs.YtfjcmnnddhomjaaGreat
set_option linter.unusedVariables false
set_option linter.unusedSimpArgs false
open Go.RowKit
set_option maxRecDepth 100000

/-- Of the blocks that were there only those of a list have been written. -/
structure WrF (fp : List Nat) (w w' : World) : Prop where
  os : w'.os = w.os
  tape : w'.tape = w.tape
  output : w'.output = w.output
  size : w.heap.size ≤ w'.heap.size
  block : ∀ g, g < w.heap.size → g ∉ fp → w'.heap[g]? = w.heap[g]?
theorem WrF.refl (fp : List Nat) (w : World) : WrF fp w w := ⟨rfl, rfl, rfl, Nat.le_refl _, fun _ _ _ => rfl⟩
theorem WrF.trans {fp : List Nat} {a b c : World} (h : WrF fp a b) (k : WrF fp b c) : WrF fp a c :=
  ⟨k.os.trans h.os, k.tape.trans h.tape, k.output.trans h.output, Nat.le_trans h.size k.size, fun g hl hg => (k.block g (Nat.lt_of_lt_of_le hl h.size) hg).trans (h.block g hl hg)⟩
theorem WrF.more {fp fp' : List Nat} {a b : World} (h : WrF fp a b) (hs : ∀ g ∈ fp, g ∈ fp') : WrF fp' a b :=
  ⟨h.os, h.tape, h.output, h.size, fun g hl hg => h.block g hl fun hm => hg (hs g hm)⟩
theorem ChgF.wrF {fp : List Nat} {w w' : World} (h : ChgF fp w w') : WrF fp w w' := ⟨h.os, h.tape, h.output, Nat.le_of_eq h.size.symm, fun g _ hg => h.block g hg⟩
theorem _root_.Go.RowKit.Below.wrF {fp : List Nat} {w w' : World} (h : Below w.heap.size w w') : WrF fp w w' := ⟨h.os, h.tape, h.output, h.size, fun g hl _ => h.block g hl⟩
theorem wrF_set {fp : List Nat} (w : World) {p : Addr} (hp : p.block ∈ fp) (u : Value) : WrF fp w (w.setCell p u) :=
  ⟨rfl, rfl, rfl, by simp [World.setCell], fun g _ hg => Below.heap_setCell _ _ _ _ fun e => hg (e ▸ hp)⟩
theorem WrF.below {fp : List Nat} {w w' : World} {lo : Nat} (h : WrF fp w w') (hl : ∀ g ∈ fp, lo ≤ g) (hs : lo ≤ w.heap.size) : Below lo w w' :=
  ⟨h.os, h.tape, h.output, h.size, fun k hk => h.block k (by omega) fun hm => by have := hl k hm; omega⟩
theorem Ow.wrF {α : Type} [Ow α] {w w' : World} {cs : List Value} {x : α} {fp fp' : List Nat} (h : Ow.O w cs x fp) (g : WrF fp' w w') (hd : ∀ b ∈ fp, b ∉ fp') : Ow.O w' cs x fp := Ow.kept h fun b hb => g.block b (Ow.lt h b hb) (hd b hb)

instance instMkRule : Mk RuleD := ⟨fun k r => ⟨(k % 3 == 0), Mk.mkd (k + 1) r.heads, ((k + 1 + (cntTo r.heads r.heads.length : Nat)) % 3 == 0), k + 2 + (cntTo r.heads r.heads.length : Nat), Mk.mkd (k + 3 + (cntTo r.heads r.heads.length : Nat)) r.body⟩, fun r => 3 + cntTo r.heads r.heads.length + cntTo r.body r.body.length⟩
instance instMkLevel : Mk LevelD := ⟨fun k r => ⟨k, Mk.mkd (k + 1) r.lits⟩, fun r => 1 + cntTo r.lits r.lits.length⟩
instance instMkShow : Mk ShowD := ⟨fun k r => ⟨markT k, Mk.mkd (k + 1) r.cond⟩, fun r => 1 + cntTo r.cond r.cond.length⟩

theorem cntTo_mono {α : Type} [Inhabited α] [Mk α] (xs : List α) {i j : Nat} (h : i ≤ j) : cntTo xs i ≤ cntTo xs j := by
  induction h with
  | refl => exact Nat.le_refl _
  | step _ ih => exact Nat.le_trans ih (Nat.le_add_right _ _)

theorem Cells.setO {w : World} {b o : Nat} {cs : List Value} {i : Nat} {v : Value} (h : Cells w b o cs) (hi : i < cs.length) : Cells (w.setCell ⟨b, o + i, none⟩ v) b o (cs.set i v) := by
  intro j u hu
  by_cases e : i = j
  · subst e
    rw [List.getElem?_set_self hi] at hu
    rw [World.cell?_setCell_same _ _ _ (h i _ (List.getElem?_eq_getElem hi))]
    exact hu
  · rw [List.getElem?_set_ne e] at hu
    rw [World.cell?_setCell_other _ _ _ _ (fun h => e (by simp only [Addr.mk.injEq] at h; omega))]
    exact h j u hu
theorem set_far {cur : Array Value} {i m : Nat} {v : Value} (h : i ≠ m) : (cur.setIfInBounds i v)[m]? = cur[m]? := Array.getElem?_setIfInBounds_ne h

set_option maxHeartbeats 2000000 in
theorem markLevelS_calls {v : Value} {xs : List LevelD} {fp : List Nat} {w : World} (k : Int) (h : OwL w [v] xs fp) (h0 : 0 ≤ k) (h1 : k + (cntTo xs xs.length : Nat) ≤ 1152921504606846976) :
    Calls Tryz.prog 83 #[v, .int .i64 k] w fun e w' => e = .returned (.int .i64 (k + (cntTo xs xs.length : Nat))) ∧ OwL w' [v] (Mk.mkd k xs) fp ∧ WrF fp w w' := by
  obtain ⟨a, cap, rfl⟩ := h.sl
  have hcap : xs.length ≤ 9223372036854775807 := by obtain ⟨_, _, he, h1, h2, _⟩ := h; simp at he; omega
  have h' : OwL w [.slice a xs.length cap] (mkTo k xs 0) fp := by rw [mkTo_zero]; exact h
  have HE : Hid (mkTo k xs xs.length = Mk.mkd k xs) := mkTo_all _ _
  clear h
  go_enter Tryz.func83, Tryz.ntmps83
  go_wp2
  go_loopw [1, 5] (fun q i wr => ∃ j : Nat, j ≤ xs.length ∧ i = .int .i64 j ∧ q = .int .i64 (k + (cntTo xs j : Nat)) ∧ OwL wr [.slice a xs.length cap] (mkTo k xs j) fp ∧ WrF fp w wr) (fun _ i _ => xs.length - (intOf i).toNat)
  case atStart => exact ⟨0, Nat.zero_le _, rfl, by simp [cntTo], h', WrF.refl _ _⟩
  case round =>
    obtain ⟨j, hj, rfl, rfl, ho, hg⟩ := hrel
    clear h'
    by_cases hlt : j < xs.length
    · have hl := mkTo_len k xs hj
      have hset := mkTo_set k hlt
      have hcj := cntTo_mono xs (show j + 1 ≤ xs.length from hlt)
      have hc1 : cntTo xs (j + 1) = cntTo xs j + (1 + cntTo (nth xs j).lits (nth xs j).lits.length) := rfl
      obtain ⟨K, hK⟩ : ∃ K : Int, K = k + (cntTo xs j : Nat) := ⟨_, rfl⟩
      rw [← hK] at hset ⊢
      have hKn := Lib.hid (show K + 1 + (cntTo (nth xs j).lits (nth xs j).lits.length : Nat) = k + (cntTo xs (j + 1) : Nat) by omega)
      have hK0 : 0 ≤ K := by omega
      have hK1 : K + 1 + (cntTo (nth xs j).lits (nth xs j).lits.length : Nat) ≤ 1152921504606846976 := by omega
      have hK2 : K + 1 ≤ 1152921504606846976 := by omega
      clear hc1 hcj hK
      have HWA : Hid (WrF fp wr wr) := WrF.refl _ _
      obtain ⟨g, e, cur, f, ecs, hn, rfl, hgf, hgn, hfs, hh, hroom, hC, hO, hclose⟩ := ho.openAt (i := j) (by omega)
      clear hn hl
      rw [mkTo_nth k hlt] at hO
      obtain ⟨d1, rfl, hf0, hO1⟩ := hO
      rw [show Rd.k LevelD = 2 from rfl] at hroom hC hclose
      have c0 := hC.c0
      have c1 := hC.c1
      have f0 := frozen_of_row wr g (j * 2) cur e hh
      have hS1 := heap_setCell_same wr g (j * 2) cur e (.int .i64 K) hh
      have hC1 := hC.setO (i := 0) (v := .int .i64 K) (by simp)
      have hO2 := Ow.kept (α := List (Int × Int)) hO1 (w' := (wr).setCell ⟨g, j * 2, none⟩ (.int .i64 K)) fun b hb => Below.heap_setCell _ _ _ _ fun (e : b = g) => hgn (e ▸ hb)
      clear hC ho
      go_wp2_with fail
      refine (markWLitS_calls (K + 1) hO2 (by omega) (by first | (rw [cntTo_pair] at hK1; omega) | omega)).mono ?_
      rintro e2 w2 ⟨rfl, hO3, hch⟩
      have hch := ChgF.wrF hch
      have hbl := hch.block g (by rw [show ((wr).setCell ⟨g, j * 2, none⟩ (.int .i64 K)).heap.size = (wr).heap.size by simp [World.setCell]]; exact block_lt hh) hgn
      have hcl := hclose w2 _ [.int .i64 K, d1] (Mk.mkd K (nth xs j)) (hbl.trans hS1) (by simp) (fun m hm => set_far (by omega)) (hC1.kept hbl) ⟨d1, rfl, by first | (show Fits K; unfold Fits; omega) | (have := markT_size (k := K) (by omega); show (markT K).size ≤ _; omega), hO3⟩ (fun b hb hbg hbf => (hch.block b (by simpa [World.setCell] using hb) hbf).trans (Below.heap_setCell _ _ _ _ hbg))
      rw [hset] at hcl
      have hgN := Lib.hid (((hg.trans HWA.out).trans (wrF_set wr (p := ⟨g, j * 2, none⟩) hgf (.int .i64 K))).trans (hch.more hfs))
      have hcN := Lib.hid hcl
      clear hcl hch hO3 hclose hC1 hO2 hO1 hset hbl hS1 hg hh HWA
      go_wp2
      go_roundw
      case rel => exact ⟨j + 1, by omega, by go_num, by rw [hKn.out], hcN.out, hgN.out⟩
      case measure => simp [intOf]; omega
    · have hjj : j = xs.length := by omega
      have HO : Hid (OwL wr [.slice a xs.length cap] (Mk.mkd k xs) fp) := by have := ho; rw [hjj, HE.out] at this; exact this
      subst hjj
      clear ho
      go_wp2
      go_ret
      exact ⟨rfl, HO.out, hg⟩


set_option maxHeartbeats 2000000 in
theorem markShowS_calls {v : Value} {xs : List ShowD} {fp : List Nat} {w : World} (k : Int) (h : OwL w [v] xs fp) (h0 : 0 ≤ k) (h1 : k + (cntTo xs xs.length : Nat) ≤ 1152921504606846976) :
    Calls Tryz.prog 84 #[v, .int .i64 k] w fun e w' => e = .returned (.int .i64 (k + (cntTo xs xs.length : Nat))) ∧ OwL w' [v] (Mk.mkd k xs) fp ∧ WrF fp w w' := by
  obtain ⟨a, cap, rfl⟩ := h.sl
  have hcap : xs.length ≤ 9223372036854775807 := by obtain ⟨_, _, he, h1, h2, _⟩ := h; simp at he; omega
  have h' : OwL w [.slice a xs.length cap] (mkTo k xs 0) fp := by rw [mkTo_zero]; exact h
  have HE : Hid (mkTo k xs xs.length = Mk.mkd k xs) := mkTo_all _ _
  clear h
  go_enter Tryz.func84, Tryz.ntmps84
  go_wp2
  go_loopw [1, 5] (fun q i wr => ∃ j : Nat, j ≤ xs.length ∧ i = .int .i64 j ∧ q = .int .i64 (k + (cntTo xs j : Nat)) ∧ OwL wr [.slice a xs.length cap] (mkTo k xs j) fp ∧ WrF fp w wr) (fun _ i _ => xs.length - (intOf i).toNat)
  case atStart => exact ⟨0, Nat.zero_le _, rfl, by simp [cntTo], h', WrF.refl _ _⟩
  case round =>
    obtain ⟨j, hj, rfl, rfl, ho, hg⟩ := hrel
    clear h'
    by_cases hlt : j < xs.length
    · have hl := mkTo_len k xs hj
      have hset := mkTo_set k hlt
      have hcj := cntTo_mono xs (show j + 1 ≤ xs.length from hlt)
      have hc1 : cntTo xs (j + 1) = cntTo xs j + (1 + cntTo (nth xs j).cond (nth xs j).cond.length) := rfl
      obtain ⟨K, hK⟩ : ∃ K : Int, K = k + (cntTo xs j : Nat) := ⟨_, rfl⟩
      rw [← hK] at hset ⊢
      have hKn := Lib.hid (show K + 1 + (cntTo (nth xs j).cond (nth xs j).cond.length : Nat) = k + (cntTo xs (j + 1) : Nat) by omega)
      have hK0 : 0 ≤ K := by omega
      have hK1 : K + 1 + (cntTo (nth xs j).cond (nth xs j).cond.length : Nat) ≤ 1152921504606846976 := by omega
      have hK2 : K + 1 ≤ 1152921504606846976 := by omega
      clear hc1 hcj hK
      (clear hl; go_wp2_with fail; refine (markText_calls K _ (by omega)).mono ?_; rintro e1 w1 ⟨rfl, b1⟩; have hl := mkTo_len k xs hj; have ho := Ow.kept (α := List ShowD) ho (fun b hb => b1.block b (Ow.lt (α := List ShowD) ho b hb)); have HWA : Hid (WrF fp wr w1) := b1.wrF)
      obtain ⟨g, e, cur, f, ecs, hn, rfl, hgf, hgn, hfs, hh, hroom, hC, hO, hclose⟩ := ho.openAt (i := j) (by omega)
      clear hn hl
      rw [mkTo_nth k hlt] at hO
      obtain ⟨d1, rfl, hf0, hO1⟩ := hO
      rw [show Rd.k ShowD = 2 from rfl] at hroom hC hclose
      have c0 := hC.c0
      have c1 := hC.c1
      have f0 := frozen_of_row w1 g (j * 2) cur e hh
      have hS1 := heap_setCell_same w1 g (j * 2) cur e (.string (markT K)) hh
      have hC1 := hC.setO (i := 0) (v := .string (markT K)) (by simp)
      have hO2 := Ow.kept (α := List Int) hO1 (w' := (w1).setCell ⟨g, j * 2, none⟩ (.string (markT K))) fun b hb => Below.heap_setCell _ _ _ _ fun (e : b = g) => hgn (e ▸ hb)
      clear hC ho
      go_wp2_with fail
      refine (markIntSO_calls (K + 1) hO2 (by omega) (by first | (rw [cntTo_int] at hK1; omega) | omega)).mono ?_
      rintro e2 w2 ⟨rfl, hO3, hch⟩
      have hch := ChgF.wrF hch
      have hbl := hch.block g (by rw [show ((w1).setCell ⟨g, j * 2, none⟩ (.string (markT K))).heap.size = (w1).heap.size by simp [World.setCell]]; exact block_lt hh) hgn
      have hcl := hclose w2 _ [.string (markT K), d1] (Mk.mkd K (nth xs j)) (hbl.trans hS1) (by simp) (fun m hm => set_far (by omega)) (hC1.kept hbl) ⟨d1, rfl, by first | (show Fits K; unfold Fits; omega) | (have := markT_size (k := K) (by omega); show (markT K).size ≤ _; omega), hO3⟩ (fun b hb hbg hbf => (hch.block b (by simpa [World.setCell] using hb) hbf).trans (Below.heap_setCell _ _ _ _ hbg))
      rw [hset] at hcl
      have hgN := Lib.hid (((hg.trans HWA.out).trans (wrF_set w1 (p := ⟨g, j * 2, none⟩) hgf (.string (markT K)))).trans (hch.more hfs))
      have hcN := Lib.hid hcl
      clear hcl hch hO3 hclose hC1 hO2 hO1 hset hbl hS1 hg hh HWA
      go_wp2
      go_roundw
      case rel => exact ⟨j + 1, by omega, by go_num, by rw [hKn.out], hcN.out, hgN.out⟩
      case measure => simp [intOf]; omega
    · have hjj : j = xs.length := by omega
      have HO : Hid (OwL wr [.slice a xs.length cap] (Mk.mkd k xs) fp) := by have := ho; rw [hjj, HE.out] at this; exact this
      subst hjj
      clear ho
      go_wp2
      go_ret
      exact ⟨rfl, HO.out, hg⟩


set_option maxHeartbeats 2000000 in
theorem markRuleS_calls {v : Value} {xs : List RuleD} {fp : List Nat} {w : World} (k : Int) (h : OwL w [v] xs fp) (h0 : 0 ≤ k) (h1 : k + (cntTo xs xs.length : Nat) ≤ 1152921504606846976) :
    Calls Tryz.prog 82 #[v, .int .i64 k] w fun e w' => e = .returned (.int .i64 (k + (cntTo xs xs.length : Nat))) ∧ OwL w' [v] (Mk.mkd k xs) fp ∧ WrF fp w w' := by
  obtain ⟨a, cap, rfl⟩ := h.sl
  have hcap : xs.length ≤ 9223372036854775807 := by obtain ⟨_, _, he, h1, h2, _⟩ := h; simp at he; omega
  have h' : OwL w [.slice a xs.length cap] (mkTo k xs 0) fp := by rw [mkTo_zero]; exact h
  have HE : Hid (mkTo k xs xs.length = Mk.mkd k xs) := mkTo_all _ _
  clear h
  go_enter Tryz.func82, Tryz.ntmps82
  go_wp2
  go_loopw [1, 5] (fun q i wr => ∃ j : Nat, j ≤ xs.length ∧ i = .int .i64 j ∧ q = .int .i64 (k + (cntTo xs j : Nat)) ∧ OwL wr [.slice a xs.length cap] (mkTo k xs j) fp ∧ WrF fp w wr) (fun _ i _ => xs.length - (intOf i).toNat)
  case atStart => exact ⟨0, Nat.zero_le _, rfl, by simp [cntTo], h', WrF.refl _ _⟩
  case round =>
    obtain ⟨j, hj, rfl, rfl, ho, hg⟩ := hrel
    clear h'
    by_cases hlt : j < xs.length
    · have hl := mkTo_len k xs hj
      have hset := mkTo_set k hlt
      have hcj := cntTo_mono xs (show j + 1 ≤ xs.length from hlt)
      have hc1 : cntTo xs (j + 1) = cntTo xs j + (3 + cntTo (nth xs j).heads (nth xs j).heads.length + cntTo (nth xs j).body (nth xs j).body.length) := rfl
      obtain ⟨K, hK⟩ : ∃ K : Int, K = k + (cntTo xs j : Nat) := ⟨_, rfl⟩
      obtain ⟨L, hL⟩ : ∃ L : Int, L = K + 1 + (cntTo (nth xs j).heads (nth xs j).heads.length : Nat) := ⟨_, rfl⟩
      rw [← hK] at hset ⊢
      have hmk : Mk.mkd K (nth xs j) = ⟨(K % 3 == 0), Mk.mkd (K + 1) (nth xs j).heads, (L % 3 == 0), L + 1, Mk.mkd (L + 1 + 1) (nth xs j).body⟩ := by
        show (⟨_, _, _, _, _⟩ : RuleD) = _
        rw [hL]
        congr 1
        · omega
        · congr 1; omega
      rw [hmk] at hset
      have hKn := Lib.hid (show L + 1 + 1 + (cntTo (nth xs j).body (nth xs j).body.length : Nat) = k + (cntTo xs (j + 1) : Nat) by omega)
      have hi1 := cntTo_int (nth xs j).heads (nth xs j).heads.length
      have hi2 := cntTo_pair (nth xs j).body (nth xs j).body.length
      have hK0 : 0 ≤ K := by omega
      have hK1 : L + 1 + 1 + (cntTo (nth xs j).body (nth xs j).body.length : Nat) ≤ 1152921504606846976 := by omega
      have hK2 : K + 1 + (cntTo (nth xs j).heads (nth xs j).heads.length : Nat) ≤ 1152921504606846976 := by omega
      have hL0 : 0 ≤ L := by omega
      have hL1 : L + 1 + 1 ≤ 1152921504606846976 := by omega
      have hK3 : K + 1 ≤ 1152921504606846976 := by omega
      rw [hi1] at hK2
      rw [hi2] at hK1
      have HL := Lib.hid hL
      clear hc1 hcj hK hmk hi1 hi2 hL
      obtain ⟨g, e, cur, f, ecs, hn, rfl, hgf, hgn, hfs, hh, hroom, hC, hO, hclose⟩ := ho.openAt (i := j) (by omega)
      clear hn hl
      rw [mkTo_nth k hlt] at hO
      obtain ⟨d1, d4, f1, f4, rfl, hf0, hO1, hO4, rfl, hnd⟩ := hO
      have hdis := (List.nodup_append.1 hnd).2.2
      have hg1 : g ∉ f1 := fun h => hgn (List.mem_append_left _ h)
      have hg4 : g ∉ f4 := fun h => hgn (List.mem_append_right _ h)
      rw [show Rd.k RuleD = 5 from rfl] at hroom hC hclose
      -- the first store, the heads
      have hglt := block_lt hh
      have c0 := hC.c0
      have c1 := hC.c1
      have c2 := hC.c2
      have c3 := hC.c3
      have c4 := hC.c4
      have f0 := frozen_of_row wr g (j * 5) cur e hh
      have hS1 := heap_setCell_same wr g (j * 5) cur e (.bool (K % 3 == 0)) hh
      have hC1 := hC.setO (i := 0) (v := .bool (K % 3 == 0)) (by simp)
      have hO1' := Ow.kept (α := List Int) hO1 (w' := wr.setCell ⟨g, j * 5, none⟩ (.bool (K % 3 == 0))) fun b hb => Below.heap_setCell _ _ _ _ fun (e : b = g) => hg1 (e ▸ hb)
      have hO4' := Ow.kept (α := List (Int × Int)) hO4 (w' := wr.setCell ⟨g, j * 5, none⟩ (.bool (K % 3 == 0))) fun b hb => Below.heap_setCell _ _ _ _ fun (e : b = g) => hg4 (e ▸ hb)
      have G1 := wrF_set (fp := fp) wr (p := ⟨g, j * 5, none⟩) hgf (.bool (K % 3 == 0))
      go_wp2_with fail
      refine (markIntSO_calls (K + 1) hO1' (by omega) hK2).mono ?_
      rintro e2 w2 ⟨he, hO1'', hch⟩
      rw [← HL.out] at he
      subst he
      have hz : (wr.setCell ⟨g, j * 5, none⟩ (.bool (K % 3 == 0))).heap.size = wr.heap.size := by simp [World.setCell]
      have hch := ChgF.wrF hch
      have hbl := hch.block g (by omega) hg1
      have hS2 := hbl.trans hS1
      have hC2 := hC1.kept hbl
      have hO4'' := Ow.wrF (α := List (Int × Int)) hO4' hch fun b hb hb1 => hdis b hb1 b hb rfl
      have G2 := G1.trans (hch.more fun x hx => hfs x (List.mem_append_left _ hx))
      have B2 : ∀ b, b < wr.heap.size → b ≠ g → b ∉ f1 ++ f4 → w2.heap[b]? = wr.heap[b]? := fun b hb hbg hbf => (hch.block b (by omega) fun h => hbf (List.mem_append_left _ h)).trans (Below.heap_setCell _ _ _ _ hbg)
      have hz2 := hch.size
      clear c0 c1 c2 c3 c4 f0 hC hC1 hO1' hO4' hO1 hO4 hch hbl
      -- the second and the third store, the body
      have c0 := hC2.c0
      have c1 := hC2.c1
      have c2 := hC2.c2
      have c3 := hC2.c3
      have c4 := hC2.c4
      have f2 := fun m => frozen_of_row w2 g m _ e hS2
      have hS3 := heap_setCell_same w2 g (j * 5 + 2) _ e (.bool (L % 3 == 0)) hS2
      have hS4 := heap_setCell_same _ g (j * 5 + 3) _ e (.int .i64 (L + 1)) hS3
      have hC3 := (hC2.setO (i := 2) (v := .bool (L % 3 == 0)) (by simp)).setO (i := 3) (v := .int .i64 (L + 1)) (by simp)
      have hO4' := Ow.kept (α := List (Int × Int)) hO4'' (w' := (w2.setCell ⟨g, j * 5 + 2, none⟩ (.bool (L % 3 == 0))).setCell ⟨g, j * 5 + 3, none⟩ (.int .i64 (L + 1))) fun b hb => (Below.heap_setCell _ _ _ _ fun (e : b = g) => hg4 (e ▸ hb)).trans (Below.heap_setCell _ _ _ _ fun (e : b = g) => hg4 (e ▸ hb))
      have hO1' := Ow.kept (α := List Int) hO1'' (w' := (w2.setCell ⟨g, j * 5 + 2, none⟩ (.bool (L % 3 == 0))).setCell ⟨g, j * 5 + 3, none⟩ (.int .i64 (L + 1))) fun b hb => (Below.heap_setCell _ _ _ _ fun (e : b = g) => hg1 (e ▸ hb)).trans (Below.heap_setCell _ _ _ _ fun (e : b = g) => hg1 (e ▸ hb))
      have G3 := (G2.trans (wrF_set (fp := fp) w2 (p := ⟨g, j * 5 + 2, none⟩) hgf (.bool (L % 3 == 0)))).trans (wrF_set (fp := fp) _ (p := ⟨g, j * 5 + 3, none⟩) hgf (.int .i64 (L + 1)))
      have hz3 : ((w2.setCell ⟨g, j * 5 + 2, none⟩ (.bool (L % 3 == 0))).setCell ⟨g, j * 5 + 3, none⟩ (.int .i64 (L + 1))).heap.size = w2.heap.size := by simp [World.setCell]
      have B3 : ∀ b, b ≠ g → ((w2.setCell ⟨g, j * 5 + 2, none⟩ (.bool (L % 3 == 0))).setCell ⟨g, j * 5 + 3, none⟩ (.int .i64 (L + 1))).heap[b]? = w2.heap[b]? := fun b hb => (Below.heap_setCell _ _ _ _ hb).trans (Below.heap_setCell _ _ _ _ hb)
      go_wp2_with fail
      refine (markWLitS_calls (L + 1 + 1) hO4' (by omega) (by omega)).mono ?_
      rintro e3 w3 ⟨rfl, hO4'', hch⟩
      have hch := ChgF.wrF hch
      have hbl := hch.block g (by omega) hg4
      have hO1'' := Ow.wrF (α := List Int) hO1' hch fun b hb hb1 => hdis b hb b hb1 rfl
      have hcl := hclose w3 _ [.bool (K % 3 == 0), d1, .bool (L % 3 == 0), .int .i64 (L + 1), d4] ⟨(K % 3 == 0), Mk.mkd (K + 1) (nth xs j).heads, (L % 3 == 0), L + 1, Mk.mkd (L + 1 + 1) (nth xs j).body⟩ (hbl.trans hS4) (by simp) (fun m hm => by rw [set_far (by omega), set_far (by omega), set_far (by omega)]) (hC3.kept hbl) ⟨d1, d4, f1, f4, rfl, by show Fits (L + 1); unfold Fits; omega, hO1'', hO4'', rfl, hnd⟩ (fun b hb hbg hbf => (hch.block b (by omega) fun h => hbf (List.mem_append_right _ h)).trans ((B3 b hbg).trans (B2 b hb hbg hbf)))
      rw [hset] at hcl
      have hgN := Lib.hid (hg.trans (G3.trans (hch.more fun x hx => hfs x (List.mem_append_right _ hx))))
      have hcN := Lib.hid hcl
      clear hcl hch hO1'' hO4'' hclose hC3 hC2 hset hbl hS1 hS2 hS3 hS4 hg hh B2 B3 G1 G2 G3 ho
      go_wp2
      go_roundw
      case rel => exact ⟨j + 1, by omega, by go_num, by rw [hKn.out], hcN.out, hgN.out⟩
      case measure => simp [intOf]; omega
    · have hjj : j = xs.length := by omega
      have HO : Hid (OwL wr [.slice a xs.length cap] (Mk.mkd k xs) fp) := by have := ho; rw [hjj, HE.out] at this; exact this
      subst hjj
      clear ho
      go_wp2
      go_ret
      exact ⟨rfl, HO.out, hg⟩

end Go.Proofs.YtfjcmnnddhomjaaGreat
