/-
  Marks put and read (MarkC, HeldB). No condition of its own.
-/
import Derived.Test.YthikhkeofcjdfaaGreatDigits
import Derived.Laws.BytesArg
import Derived.Laws.Concat
import Derived.Test.YthikhkeofcjdfaaGreatMark
import Derived.Deep.RegionHeld3
namespace Go.Proofs.YthikhkeofcjdfaaGreat
set_option linter.unusedVariables false
set_option linter.unusedSimpArgs false
open Go.RowKit
set_option maxRecDepth 100000

/-! ### MarkC -/
/-! ### MarkText -/
/-- The text of a mark. -/
def markT (k : Int) : ByteArray := if k ≤ 0 then ⟨#[109, 48]⟩ else ⟨#[109]⟩ ++ strOfNums (txt k.toNat [])
theorem strOfNums_cons (d : Int) (D : List Int) : strOfNums [d] ++ strOfNums D = strOfNums (d :: D) := by
  apply ByteArray.ext
  simp [strOfNums, ByteArray.data_append]
theorem dgs_len : ∀ (k M : Nat), M < 10 ^ (k + 1) → (dgs M).length ≤ k + 1
  | 0, M, h => by rw [dgs, dif_pos (by omega)]; simp
  | k + 1, M, h => by
    rw [dgs]
    split
    · simp
    · have h10 : 10 ^ (k + 1 + 1) = 10 ^ (k + 1) * 10 := Nat.pow_succ 10 (k + 1)
      have := dgs_len k (M / 10) (by omega)
      simp; omega
theorem txt_len {M : Nat} (h : M ≤ 9223372036854775807) : (txt M []).length ≤ 19 := by
  unfold txt
  split
  · simp
  · have := dgs_len 18 M (by have : (10 : Nat) ^ 19 = 10000000000000000000 := by decide
                             omega)
    simpa using this
theorem markT_size {k : Int} (h : k ≤ 9223372036854775807) : (markT k).size ≤ 100 := by
  unfold markT
  split
  · decide
  · have := txt_len (M := k.toNat) (by omega)
    rw [ByteArray.size_append, strOfNums_size]
    have : (⟨#[109]⟩ : ByteArray).size = 1 := rfl
    omega

set_option maxHeartbeats 2000000 in
theorem markText_calls (k : Int) (w : World) (h1 : k ≤ 9223372036854775807) :
    Calls Tryz.prog 206 #[.int .i64 k] w fun e w' => e = .returned (.string (markT k)) ∧ Below w.heap.size w w' := by
  by_cases h0 : k ≤ 0
  · have hv : Hid (markT k = ⟨#[109, 48]⟩) := by show _ = _; unfold markT; rw [if_pos h0]
    go_enter Tryz.func206, Tryz.ntmps206
    go_wp2
    go_ret
    exact ⟨ret_str hv.out.symm, Below.refl _ _⟩
  · obtain ⟨N, rfl⟩ : ∃ N : Nat, k = N := ⟨k.toNat, by omega⟩
    have hv : Hid (markT (N : Int) = ⟨#[109]⟩ ++ strOfNums (txt N [])) := by show _ = _; unfold markT; rw [if_neg h0]; rfl
    have hN0 : (0 : Int) < (N : Int) := by omega
    have hsT := txt_len (M := N) (by omega)
    have hfa := fun w => run_string_add_sum (P := Tryz.prog) w ⟨#[109]⟩ (strOfNums (txt N [])) (by rw [strOfNums_size]; have : (⟨#[109]⟩ : ByteArray).size = 1 := rfl; omega)
    clear h0
    go_enter Tryz.func206, Tryz.ntmps206
    go_wp2
    go_loopw [0, 3] (fun m v wr => ∃ (M : Nat) (D : List Int), m = .int .i64 (M : Int) ∧ M * 10 ^ D.length ≤ N ∧ D.length ≤ 19 ∧ v = .string (strOfNums D) ∧ txt M D = txt N [] ∧ Below w.heap.size w wr) (fun m _ _ => (intOf m).toNat)
    case atStart => exact ⟨N, [], rfl, by simp, by simp, rfl, rfl, Below.refl _ _⟩
    case round =>
      obtain ⟨M, D, rfl, hM, hD19, rfl, ht, hb⟩ := hrel
      by_cases hm : M = 0
      · have hD : D = txt N [] := by rw [← ht, hm]; rfl
        subst hm
        subst hD
        have hfa := hfa wr
        clear ht hM
        go_wp2
        go_ret
        exact ⟨ret_str hv.out.symm, hb⟩
      · have hst := Lib.hid (txt_step (D := D) hm)
        have hk := pow_small hM hm (by omega)
        have hP := Lib.hid (pow_step hM)
        have hT2 := Lib.hid ht
        have hm0 : (0 : Int) < (M : Int) := by omega
        have hmN : (M : Int) ≤ 9223372036854775807 := by
          have : M ≤ M * 10 ^ D.length := Nat.le_mul_of_pos_right _ (Nat.pow_pos (by omega))
          omega
        have hd0 : 0 ≤ (M : Int) % 10 := by omega
        have hd9 : (M : Int) % 10 ≤ 9 := by omega
        have hadd : ∀ w, (Op.stringOp .add (strOfNums [48 + (M : Int) % 10]) (strOfNums D)).run Tryz.prog w = .ok (.string (strOfNums ((48 + (M : Int) % 10) :: D))) w := fun w => by
          rw [run_string_add_sum w _ _ (by rw [strOfNums_size, strOfNums_size]; simp; omega), strOfNums_cons]
        have kc := run_convert_bytes_arg (P := Tryz.prog) (wr.alloc (.cells #[.int .u8 (48 + (M : Int) % 10)] 5)) 22 5 Tryz.underlying22 Tryz.underlying5 wr.heap.size 0 1 1 [48 + (M : Int) % 10] rfl (fun i hi => by
          have : i = 0 := by omega
          subst this
          simp) 9 Tryz.underlying9
        have hbA := hb.alloc hb.size (.cells #[.int .u8 (48 + (M : Int) % 10)] 5)
        clear ht hM hm
        go_wp2
        go_roundw
        case rel => exact ⟨M / 10, _ :: D, by go_num, hP.out, by simp; omega, rfl, hst.out.symm.trans hT2.out, hbA⟩
        case measure => simp [intOf]; omega

/-! ### MarkB -/
/-! ### MarkP -/
/-- Of the blocks that were there only those of a list have been written. -/
structure WrF (fp : List Nat) (w w' : World) : Prop where
  os : w'.os = w.os
  tape : w'.tape = w.tape
  output : w'.output = w.output
  size : w.heap.size ≤ w'.heap.size
  block : ∀ g, g < w.heap.size → g ∉ fp → w'.heap[g]? = w.heap[g]?
theorem WrF.refl (fp : List Nat) (w : World) : WrF fp w w := ⟨rfl, rfl, rfl, Nat.le_refl _, fun _ _ _ => rfl⟩
theorem WrF.trans {fp : List Nat} {a b c : World} (h : WrF fp a b) (k : WrF fp b c) : WrF fp a c :=
  ⟨k.os.trans h.os, k.tape.trans h.tape, k.output.trans h.output, Nat.le_trans h.size k.size, fun g hl hg => (k.block g (Nat.lt_of_lt_of_le hl h.size) hg).trans (h.block g hl hg)⟩
theorem WrF.more {fp fp' : List Nat} {a b : World} (h : WrF fp a b) (hs : ∀ g ∈ fp, g ∈ fp') : WrF fp' a b :=
  ⟨h.os, h.tape, h.output, h.size, fun g hl hg => h.block g hl fun hm => hg (hs g hm)⟩
theorem ChgF.wrF {fp : List Nat} {w w' : World} (h : ChgF fp w w') : WrF fp w w' := ⟨h.os, h.tape, h.output, Nat.le_of_eq h.size.symm, fun g _ hg => h.block g hg⟩
theorem _root_.Go.RowKit.Below.wrF {fp : List Nat} {w w' : World} (h : Below w.heap.size w w') : WrF fp w w' := ⟨h.os, h.tape, h.output, h.size, fun g hl _ => h.block g hl⟩
theorem wrF_set {fp : List Nat} (w : World) {p : Addr} (hp : p.block ∈ fp) (u : Value) : WrF fp w (w.setCell p u) :=
  ⟨rfl, rfl, rfl, by simp [World.setCell], fun g _ hg => Below.heap_setCell _ _ _ _ fun e => hg (e ▸ hp)⟩
theorem WrF.below {fp : List Nat} {w w' : World} {lo : Nat} (h : WrF fp w w') (hl : ∀ g ∈ fp, lo ≤ g) (hs : lo ≤ w.heap.size) : Below lo w w' :=
  ⟨h.os, h.tape, h.output, h.size, fun k hk => h.block k (by omega) fun hm => by have := hl k hm; omega⟩
theorem Ow.wrF {α : Type} [Ow α] {w w' : World} {cs : List Value} {x : α} {fp fp' : List Nat} (h : Ow.O w cs x fp) (g : WrF fp' w w') (hd : ∀ b ∈ fp, b ∉ fp') : Ow.O w' cs x fp := Ow.kept h fun b hb => g.block b (Ow.lt h b hb) (hd b hb)

instance instMkRule : Mk RuleD := ⟨fun k r => ⟨(k % 3 == 0), Mk.mkd (k + 1) r.heads, ((k + 1 + (cntTo r.heads r.heads.length : Nat)) % 3 == 0), k + 2 + (cntTo r.heads r.heads.length : Nat), Mk.mkd (k + 3 + (cntTo r.heads r.heads.length : Nat)) r.body⟩, fun r => 3 + cntTo r.heads r.heads.length + cntTo r.body r.body.length⟩
instance instMkLevel : Mk LevelD := ⟨fun k r => ⟨k, Mk.mkd (k + 1) r.lits⟩, fun r => 1 + cntTo r.lits r.lits.length⟩
instance instMkShow : Mk ShowD := ⟨fun k r => ⟨markT k, Mk.mkd (k + 1) r.cond⟩, fun r => 1 + cntTo r.cond r.cond.length⟩

theorem cntTo_mono {α : Type} [Inhabited α] [Mk α] (xs : List α) {i j : Nat} (h : i ≤ j) : cntTo xs i ≤ cntTo xs j := by
  induction h with
  | refl => exact Nat.le_refl _
  | step _ ih => exact Nat.le_trans ih (Nat.le_add_right _ _)

theorem Cells.setO {w : World} {b o : Nat} {cs : List Value} {i : Nat} {v : Value} (h : Cells w b o cs) (hi : i < cs.length) : Cells (w.setCell ⟨b, o + i, none⟩ v) b o (cs.set i v) := by
  intro j u hu
  by_cases e : i = j
  · subst e
    rw [List.getElem?_set_self hi] at hu
    rw [World.cell?_setCell_same _ _ _ (h i _ (List.getElem?_eq_getElem hi))]
    exact hu
  · rw [List.getElem?_set_ne e] at hu
    rw [World.cell?_setCell_other _ _ _ _ (fun h => e (by simp only [Addr.mk.injEq] at h; omega))]
    exact h j u hu
theorem set_far {cur : Array Value} {i m : Nat} {v : Value} (h : i ≠ m) : (cur.setIfInBounds i v)[m]? = cur[m]? := Array.getElem?_setIfInBounds_ne h

set_option maxHeartbeats 2000000 in
theorem markLevelS_calls {v : Value} {xs : List LevelD} {fp : List Nat} {w : World} (k : Int) (h : OwL w [v] xs fp) (h0 : 0 ≤ k) (h1 : k + (cntTo xs xs.length : Nat) ≤ 1152921504606846976) :
    Calls Tryz.prog 118 #[v, .int .i64 k] w fun e w' => e = .returned (.int .i64 (k + (cntTo xs xs.length : Nat))) ∧ OwL w' [v] (Mk.mkd k xs) fp ∧ WrF fp w w' := by
  obtain ⟨a, cap, rfl⟩ := h.sl
  have hcap : xs.length ≤ 9223372036854775807 := by obtain ⟨_, _, he, h1, h2, _⟩ := h; simp at he; omega
  have h' : OwL w [.slice a xs.length cap] (mkTo k xs 0) fp := by rw [mkTo_zero]; exact h
  have HE : Hid (mkTo k xs xs.length = Mk.mkd k xs) := mkTo_all _ _
  clear h
  go_enter Tryz.func118, Tryz.ntmps118
  go_wp2
  go_loopw [1, 5] (fun q i wr => ∃ j : Nat, j ≤ xs.length ∧ i = .int .i64 j ∧ q = .int .i64 (k + (cntTo xs j : Nat)) ∧ OwL wr [.slice a xs.length cap] (mkTo k xs j) fp ∧ WrF fp w wr) (fun _ i _ => xs.length - (intOf i).toNat)
  case atStart => exact ⟨0, Nat.zero_le _, rfl, by simp [cntTo], h', WrF.refl _ _⟩
  case round =>
    obtain ⟨j, hj, rfl, rfl, ho, hg⟩ := hrel
    clear h'
    by_cases hlt : j < xs.length
    · have hl := mkTo_len k xs hj
      have hset := mkTo_set k hlt
      have hcj := cntTo_mono xs (show j + 1 ≤ xs.length from hlt)
      have hc1 : cntTo xs (j + 1) = cntTo xs j + (1 + cntTo (nth xs j).lits (nth xs j).lits.length) := rfl
      obtain ⟨K, hK⟩ : ∃ K : Int, K = k + (cntTo xs j : Nat) := ⟨_, rfl⟩
      rw [← hK] at hset ⊢
      have hKn := Lib.hid (show K + 1 + (cntTo (nth xs j).lits (nth xs j).lits.length : Nat) = k + (cntTo xs (j + 1) : Nat) by omega)
      have hK0 : 0 ≤ K := by omega
      have hK1 : K + 1 + (cntTo (nth xs j).lits (nth xs j).lits.length : Nat) ≤ 1152921504606846976 := by omega
      have hK2 : K + 1 ≤ 1152921504606846976 := by omega
      clear hc1 hcj hK
      have HWA : Hid (WrF fp wr wr) := WrF.refl _ _
      obtain ⟨g, e, cur, f, ecs, hn, rfl, hgf, hgn, hfs, hh, hroom, hC, hO, hclose⟩ := ho.openAt (i := j) (by omega)
      clear hn hl
      rw [mkTo_nth k hlt] at hO
      obtain ⟨d1, rfl, hf0, hO1⟩ := hO
      rw [show Rd.k LevelD = 2 from rfl] at hroom hC hclose
      have c0 := hC.c0
      have c1 := hC.c1
      have f0 := frozen_of_row wr g (j * 2) cur e hh
      have hS1 := heap_setCell_same wr g (j * 2) cur e (.int .i64 K) hh
      have hC1 := hC.setO (i := 0) (v := .int .i64 K) (by simp)
      have hO2 := Ow.kept (α := List (Int × Int)) hO1 (w' := (wr).setCell ⟨g, j * 2, none⟩ (.int .i64 K)) fun b hb => Below.heap_setCell _ _ _ _ fun (e : b = g) => hgn (e ▸ hb)
      clear hC ho
      go_wp2_with fail
      refine (markWLitS_calls (K + 1) hO2 (by omega) (by first | (rw [cntTo_pair] at hK1; omega) | omega)).mono ?_
      rintro e2 w2 ⟨rfl, hO3, hch⟩
      have hch := ChgF.wrF hch
      have hbl := hch.block g (by rw [show ((wr).setCell ⟨g, j * 2, none⟩ (.int .i64 K)).heap.size = (wr).heap.size by simp [World.setCell]]; exact block_lt hh) hgn
      have hcl := hclose w2 _ [.int .i64 K, d1] (Mk.mkd K (nth xs j)) (hbl.trans hS1) (by simp) (fun m hm => set_far (by omega)) (hC1.kept hbl) ⟨d1, rfl, by first | (show Fits K; unfold Fits; omega) | (have := markT_size (k := K) (by omega); show (markT K).size ≤ _; omega), hO3⟩ (fun b hb hbg hbf => (hch.block b (by simpa [World.setCell] using hb) hbf).trans (Below.heap_setCell _ _ _ _ hbg))
      rw [hset] at hcl
      have hgN := Lib.hid (((hg.trans HWA.out).trans (wrF_set wr (p := ⟨g, j * 2, none⟩) hgf (.int .i64 K))).trans (hch.more hfs))
      have hcN := Lib.hid hcl
      clear hcl hch hO3 hclose hC1 hO2 hO1 hset hbl hS1 hg hh HWA
      go_wp2
      go_roundw
      case rel => exact ⟨j + 1, by omega, by go_num, by rw [hKn.out], hcN.out, hgN.out⟩
      case measure => simp [intOf]; omega
    · have hjj : j = xs.length := by omega
      have HO : Hid (OwL wr [.slice a xs.length cap] (Mk.mkd k xs) fp) := by have := ho; rw [hjj, HE.out] at this; exact this
      subst hjj
      clear ho
      go_wp2
      go_ret
      exact ⟨rfl, HO.out, hg⟩


set_option maxHeartbeats 2000000 in
theorem markShowS_calls {v : Value} {xs : List ShowD} {fp : List Nat} {w : World} (k : Int) (h : OwL w [v] xs fp) (h0 : 0 ≤ k) (h1 : k + (cntTo xs xs.length : Nat) ≤ 1152921504606846976) :
    Calls Tryz.prog 119 #[v, .int .i64 k] w fun e w' => e = .returned (.int .i64 (k + (cntTo xs xs.length : Nat))) ∧ OwL w' [v] (Mk.mkd k xs) fp ∧ WrF fp w w' := by
  obtain ⟨a, cap, rfl⟩ := h.sl
  have hcap : xs.length ≤ 9223372036854775807 := by obtain ⟨_, _, he, h1, h2, _⟩ := h; simp at he; omega
  have h' : OwL w [.slice a xs.length cap] (mkTo k xs 0) fp := by rw [mkTo_zero]; exact h
  have HE : Hid (mkTo k xs xs.length = Mk.mkd k xs) := mkTo_all _ _
  clear h
  go_enter Tryz.func119, Tryz.ntmps119
  go_wp2
  go_loopw [1, 5] (fun q i wr => ∃ j : Nat, j ≤ xs.length ∧ i = .int .i64 j ∧ q = .int .i64 (k + (cntTo xs j : Nat)) ∧ OwL wr [.slice a xs.length cap] (mkTo k xs j) fp ∧ WrF fp w wr) (fun _ i _ => xs.length - (intOf i).toNat)
  case atStart => exact ⟨0, Nat.zero_le _, rfl, by simp [cntTo], h', WrF.refl _ _⟩
  case round =>
    obtain ⟨j, hj, rfl, rfl, ho, hg⟩ := hrel
    clear h'
    by_cases hlt : j < xs.length
    · have hl := mkTo_len k xs hj
      have hset := mkTo_set k hlt
      have hcj := cntTo_mono xs (show j + 1 ≤ xs.length from hlt)
      have hc1 : cntTo xs (j + 1) = cntTo xs j + (1 + cntTo (nth xs j).cond (nth xs j).cond.length) := rfl
      obtain ⟨K, hK⟩ : ∃ K : Int, K = k + (cntTo xs j : Nat) := ⟨_, rfl⟩
      rw [← hK] at hset ⊢
      have hKn := Lib.hid (show K + 1 + (cntTo (nth xs j).cond (nth xs j).cond.length : Nat) = k + (cntTo xs (j + 1) : Nat) by omega)
      have hK0 : 0 ≤ K := by omega
      have hK1 : K + 1 + (cntTo (nth xs j).cond (nth xs j).cond.length : Nat) ≤ 1152921504606846976 := by omega
      have hK2 : K + 1 ≤ 1152921504606846976 := by omega
      clear hc1 hcj hK
      (clear hl; go_wp2_with fail; refine (markText_calls K _ (by omega)).mono ?_; rintro e1 w1 ⟨rfl, b1⟩; have hl := mkTo_len k xs hj; have ho := Ow.kept (α := List ShowD) ho (fun b hb => b1.block b (Ow.lt (α := List ShowD) ho b hb)); have HWA : Hid (WrF fp wr w1) := b1.wrF)
      obtain ⟨g, e, cur, f, ecs, hn, rfl, hgf, hgn, hfs, hh, hroom, hC, hO, hclose⟩ := ho.openAt (i := j) (by omega)
      clear hn hl
      rw [mkTo_nth k hlt] at hO
      obtain ⟨d1, rfl, hf0, hO1⟩ := hO
      rw [show Rd.k ShowD = 2 from rfl] at hroom hC hclose
      have c0 := hC.c0
      have c1 := hC.c1
      have f0 := frozen_of_row w1 g (j * 2) cur e hh
      have hS1 := heap_setCell_same w1 g (j * 2) cur e (.string (markT K)) hh
      have hC1 := hC.setO (i := 0) (v := .string (markT K)) (by simp)
      have hO2 := Ow.kept (α := List Int) hO1 (w' := (w1).setCell ⟨g, j * 2, none⟩ (.string (markT K))) fun b hb => Below.heap_setCell _ _ _ _ fun (e : b = g) => hgn (e ▸ hb)
      clear hC ho
      go_wp2_with fail
      refine (markIntSO_calls (K + 1) hO2 (by omega) (by first | (rw [cntTo_int] at hK1; omega) | omega)).mono ?_
      rintro e2 w2 ⟨rfl, hO3, hch⟩
      have hch := ChgF.wrF hch
      have hbl := hch.block g (by rw [show ((w1).setCell ⟨g, j * 2, none⟩ (.string (markT K))).heap.size = (w1).heap.size by simp [World.setCell]]; exact block_lt hh) hgn
      have hcl := hclose w2 _ [.string (markT K), d1] (Mk.mkd K (nth xs j)) (hbl.trans hS1) (by simp) (fun m hm => set_far (by omega)) (hC1.kept hbl) ⟨d1, rfl, by first | (show Fits K; unfold Fits; omega) | (have := markT_size (k := K) (by omega); show (markT K).size ≤ _; omega), hO3⟩ (fun b hb hbg hbf => (hch.block b (by simpa [World.setCell] using hb) hbf).trans (Below.heap_setCell _ _ _ _ hbg))
      rw [hset] at hcl
      have hgN := Lib.hid (((hg.trans HWA.out).trans (wrF_set w1 (p := ⟨g, j * 2, none⟩) hgf (.string (markT K)))).trans (hch.more hfs))
      have hcN := Lib.hid hcl
      clear hcl hch hO3 hclose hC1 hO2 hO1 hset hbl hS1 hg hh HWA
      go_wp2
      go_roundw
      case rel => exact ⟨j + 1, by omega, by go_num, by rw [hKn.out], hcN.out, hgN.out⟩
      case measure => simp [intOf]; omega
    · have hjj : j = xs.length := by omega
      have HO : Hid (OwL wr [.slice a xs.length cap] (Mk.mkd k xs) fp) := by have := ho; rw [hjj, HE.out] at this; exact this
      subst hjj
      clear ho
      go_wp2
      go_ret
      exact ⟨rfl, HO.out, hg⟩


set_option maxHeartbeats 2000000 in
theorem markRuleS_calls {v : Value} {xs : List RuleD} {fp : List Nat} {w : World} (k : Int) (h : OwL w [v] xs fp) (h0 : 0 ≤ k) (h1 : k + (cntTo xs xs.length : Nat) ≤ 1152921504606846976) :
    Calls Tryz.prog 117 #[v, .int .i64 k] w fun e w' => e = .returned (.int .i64 (k + (cntTo xs xs.length : Nat))) ∧ OwL w' [v] (Mk.mkd k xs) fp ∧ WrF fp w w' := by
  obtain ⟨a, cap, rfl⟩ := h.sl
  have hcap : xs.length ≤ 9223372036854775807 := by obtain ⟨_, _, he, h1, h2, _⟩ := h; simp at he; omega
  have h' : OwL w [.slice a xs.length cap] (mkTo k xs 0) fp := by rw [mkTo_zero]; exact h
  have HE : Hid (mkTo k xs xs.length = Mk.mkd k xs) := mkTo_all _ _
  clear h
  go_enter Tryz.func117, Tryz.ntmps117
  go_wp2
  go_loopw [1, 5] (fun q i wr => ∃ j : Nat, j ≤ xs.length ∧ i = .int .i64 j ∧ q = .int .i64 (k + (cntTo xs j : Nat)) ∧ OwL wr [.slice a xs.length cap] (mkTo k xs j) fp ∧ WrF fp w wr) (fun _ i _ => xs.length - (intOf i).toNat)
  case atStart => exact ⟨0, Nat.zero_le _, rfl, by simp [cntTo], h', WrF.refl _ _⟩
  case round =>
    obtain ⟨j, hj, rfl, rfl, ho, hg⟩ := hrel
    clear h'
    by_cases hlt : j < xs.length
    · have hl := mkTo_len k xs hj
      have hset := mkTo_set k hlt
      have hcj := cntTo_mono xs (show j + 1 ≤ xs.length from hlt)
      have hc1 : cntTo xs (j + 1) = cntTo xs j + (3 + cntTo (nth xs j).heads (nth xs j).heads.length + cntTo (nth xs j).body (nth xs j).body.length) := rfl
      obtain ⟨K, hK⟩ : ∃ K : Int, K = k + (cntTo xs j : Nat) := ⟨_, rfl⟩
      obtain ⟨L, hL⟩ : ∃ L : Int, L = K + 1 + (cntTo (nth xs j).heads (nth xs j).heads.length : Nat) := ⟨_, rfl⟩
      rw [← hK] at hset ⊢
      have hmk : Mk.mkd K (nth xs j) = ⟨(K % 3 == 0), Mk.mkd (K + 1) (nth xs j).heads, (L % 3 == 0), L + 1, Mk.mkd (L + 1 + 1) (nth xs j).body⟩ := by
        show (⟨_, _, _, _, _⟩ : RuleD) = _
        rw [hL]
        congr 1
        · omega
        · congr 1; omega
      rw [hmk] at hset
      have hKn := Lib.hid (show L + 1 + 1 + (cntTo (nth xs j).body (nth xs j).body.length : Nat) = k + (cntTo xs (j + 1) : Nat) by omega)
      have hi1 := cntTo_int (nth xs j).heads (nth xs j).heads.length
      have hi2 := cntTo_pair (nth xs j).body (nth xs j).body.length
      have hK0 : 0 ≤ K := by omega
      have hK1 : L + 1 + 1 + (cntTo (nth xs j).body (nth xs j).body.length : Nat) ≤ 1152921504606846976 := by omega
      have hK2 : K + 1 + (cntTo (nth xs j).heads (nth xs j).heads.length : Nat) ≤ 1152921504606846976 := by omega
      have hL0 : 0 ≤ L := by omega
      have hL1 : L + 1 + 1 ≤ 1152921504606846976 := by omega
      have hK3 : K + 1 ≤ 1152921504606846976 := by omega
      rw [hi1] at hK2
      rw [hi2] at hK1
      have HL := Lib.hid hL
      clear hc1 hcj hK hmk hi1 hi2 hL
      obtain ⟨g, e, cur, f, ecs, hn, rfl, hgf, hgn, hfs, hh, hroom, hC, hO, hclose⟩ := ho.openAt (i := j) (by omega)
      clear hn hl
      rw [mkTo_nth k hlt] at hO
      obtain ⟨d1, d4, f1, f4, rfl, hf0, hO1, hO4, rfl, hnd⟩ := hO
      have hdis := (List.nodup_append.1 hnd).2.2
      have hg1 : g ∉ f1 := fun h => hgn (List.mem_append_left _ h)
      have hg4 : g ∉ f4 := fun h => hgn (List.mem_append_right _ h)
      rw [show Rd.k RuleD = 5 from rfl] at hroom hC hclose
      -- the first store, the heads
      have hglt := block_lt hh
      have c0 := hC.c0
      have c1 := hC.c1
      have c2 := hC.c2
      have c3 := hC.c3
      have c4 := hC.c4
      have f0 := frozen_of_row wr g (j * 5) cur e hh
      have hS1 := heap_setCell_same wr g (j * 5) cur e (.bool (K % 3 == 0)) hh
      have hC1 := hC.setO (i := 0) (v := .bool (K % 3 == 0)) (by simp)
      have hO1' := Ow.kept (α := List Int) hO1 (w' := wr.setCell ⟨g, j * 5, none⟩ (.bool (K % 3 == 0))) fun b hb => Below.heap_setCell _ _ _ _ fun (e : b = g) => hg1 (e ▸ hb)
      have hO4' := Ow.kept (α := List (Int × Int)) hO4 (w' := wr.setCell ⟨g, j * 5, none⟩ (.bool (K % 3 == 0))) fun b hb => Below.heap_setCell _ _ _ _ fun (e : b = g) => hg4 (e ▸ hb)
      have G1 := wrF_set (fp := fp) wr (p := ⟨g, j * 5, none⟩) hgf (.bool (K % 3 == 0))
      go_wp2_with fail
      refine (markIntSO_calls (K + 1) hO1' (by omega) hK2).mono ?_
      rintro e2 w2 ⟨he, hO1'', hch⟩
      rw [← HL.out] at he
      subst he
      have hz : (wr.setCell ⟨g, j * 5, none⟩ (.bool (K % 3 == 0))).heap.size = wr.heap.size := by simp [World.setCell]
      have hch := ChgF.wrF hch
      have hbl := hch.block g (by omega) hg1
      have hS2 := hbl.trans hS1
      have hC2 := hC1.kept hbl
      have hO4'' := Ow.wrF (α := List (Int × Int)) hO4' hch fun b hb hb1 => hdis b hb1 b hb rfl
      have G2 := G1.trans (hch.more fun x hx => hfs x (List.mem_append_left _ hx))
      have B2 : ∀ b, b < wr.heap.size → b ≠ g → b ∉ f1 ++ f4 → w2.heap[b]? = wr.heap[b]? := fun b hb hbg hbf => (hch.block b (by omega) fun h => hbf (List.mem_append_left _ h)).trans (Below.heap_setCell _ _ _ _ hbg)
      have hz2 := hch.size
      clear c0 c1 c2 c3 c4 f0 hC hC1 hO1' hO4' hO1 hO4 hch hbl
      -- the second and the third store, the body
      have c0 := hC2.c0
      have c1 := hC2.c1
      have c2 := hC2.c2
      have c3 := hC2.c3
      have c4 := hC2.c4
      have f2 := fun m => frozen_of_row w2 g m _ e hS2
      have hS3 := heap_setCell_same w2 g (j * 5 + 2) _ e (.bool (L % 3 == 0)) hS2
      have hS4 := heap_setCell_same _ g (j * 5 + 3) _ e (.int .i64 (L + 1)) hS3
      have hC3 := (hC2.setO (i := 2) (v := .bool (L % 3 == 0)) (by simp)).setO (i := 3) (v := .int .i64 (L + 1)) (by simp)
      have hO4' := Ow.kept (α := List (Int × Int)) hO4'' (w' := (w2.setCell ⟨g, j * 5 + 2, none⟩ (.bool (L % 3 == 0))).setCell ⟨g, j * 5 + 3, none⟩ (.int .i64 (L + 1))) fun b hb => (Below.heap_setCell _ _ _ _ fun (e : b = g) => hg4 (e ▸ hb)).trans (Below.heap_setCell _ _ _ _ fun (e : b = g) => hg4 (e ▸ hb))
      have hO1' := Ow.kept (α := List Int) hO1'' (w' := (w2.setCell ⟨g, j * 5 + 2, none⟩ (.bool (L % 3 == 0))).setCell ⟨g, j * 5 + 3, none⟩ (.int .i64 (L + 1))) fun b hb => (Below.heap_setCell _ _ _ _ fun (e : b = g) => hg1 (e ▸ hb)).trans (Below.heap_setCell _ _ _ _ fun (e : b = g) => hg1 (e ▸ hb))
      have G3 := (G2.trans (wrF_set (fp := fp) w2 (p := ⟨g, j * 5 + 2, none⟩) hgf (.bool (L % 3 == 0)))).trans (wrF_set (fp := fp) _ (p := ⟨g, j * 5 + 3, none⟩) hgf (.int .i64 (L + 1)))
      have hz3 : ((w2.setCell ⟨g, j * 5 + 2, none⟩ (.bool (L % 3 == 0))).setCell ⟨g, j * 5 + 3, none⟩ (.int .i64 (L + 1))).heap.size = w2.heap.size := by simp [World.setCell]
      have B3 : ∀ b, b ≠ g → ((w2.setCell ⟨g, j * 5 + 2, none⟩ (.bool (L % 3 == 0))).setCell ⟨g, j * 5 + 3, none⟩ (.int .i64 (L + 1))).heap[b]? = w2.heap[b]? := fun b hb => (Below.heap_setCell _ _ _ _ hb).trans (Below.heap_setCell _ _ _ _ hb)
      go_wp2_with fail
      refine (markWLitS_calls (L + 1 + 1) hO4' (by omega) (by omega)).mono ?_
      rintro e3 w3 ⟨rfl, hO4'', hch⟩
      have hch := ChgF.wrF hch
      have hbl := hch.block g (by omega) hg4
      have hO1'' := Ow.wrF (α := List Int) hO1' hch fun b hb hb1 => hdis b hb b hb1 rfl
      have hcl := hclose w3 _ [.bool (K % 3 == 0), d1, .bool (L % 3 == 0), .int .i64 (L + 1), d4] ⟨(K % 3 == 0), Mk.mkd (K + 1) (nth xs j).heads, (L % 3 == 0), L + 1, Mk.mkd (L + 1 + 1) (nth xs j).body⟩ (hbl.trans hS4) (by simp) (fun m hm => by rw [set_far (by omega), set_far (by omega), set_far (by omega)]) (hC3.kept hbl) ⟨d1, d4, f1, f4, rfl, by show Fits (L + 1); unfold Fits; omega, hO1'', hO4'', rfl, hnd⟩ (fun b hb hbg hbf => (hch.block b (by omega) fun h => hbf (List.mem_append_right _ h)).trans ((B3 b hbg).trans (B2 b hb hbg hbf)))
      rw [hset] at hcl
      have hgN := Lib.hid (hg.trans (G3.trans (hch.more fun x hx => hfs x (List.mem_append_right _ hx))))
      have hcN := Lib.hid hcl
      clear hcl hch hO1'' hO4'' hclose hC3 hC2 hset hbl hS1 hS2 hS3 hS4 hg hh B2 B3 G1 G2 G3 ho
      go_wp2
      go_roundw
      case rel => exact ⟨j + 1, by omega, by go_num, by rw [hKn.out], hcN.out, hgN.out⟩
      case measure => simp [intOf]; omega
    · have hjj : j = xs.length := by omega
      have HO : Hid (OwL wr [.slice a xs.length cap] (Mk.mkd k xs) fp) := by have := ho; rw [hjj, HE.out] at this; exact this
      subst hjj
      clear ho
      go_wp2
      go_ret
      exact ⟨rfl, HO.out, hg⟩

/-! ### MarkQ -/
/-- A program that was handed over by its value: its lists are marked. -/
def mkProgV (k : Int) (p : ProgD) : ProgD :=
  { p with
    rules := Mk.mkd k p.rules
    levels := Mk.mkd (k + (cntTo p.rules p.rules.length : Nat)) p.levels
    project := Mk.mkd (k + (cntTo p.rules p.rules.length : Nat) + (cntTo p.levels p.levels.length : Nat)) p.project
    shows := Mk.mkd (k + (cntTo p.rules p.rules.length : Nat) + (cntTo p.levels p.levels.length : Nat) + (cntTo p.project p.project.length : Nat)) p.shows
    exts := Mk.mkd (k + (cntTo p.rules p.rules.length : Nat) + (cntTo p.levels p.levels.length : Nat) + (cntTo p.project p.project.length : Nat) + (cntTo p.shows p.shows.length : Nat)) p.exts
    assume := Mk.mkd (k + (cntTo p.rules p.rules.length : Nat) + (cntTo p.levels p.levels.length : Nat) + (cntTo p.project p.project.length : Nat) + (cntTo p.shows p.shows.length : Nat) + (cntTo p.exts p.exts.length : Nat)) p.assume }
def cntProgV (p : ProgD) : Nat := cntTo p.rules p.rules.length + cntTo p.levels p.levels.length + cntTo p.project p.project.length + cntTo p.shows p.shows.length + cntTo p.exts p.exts.length + cntTo p.assume p.assume.length

set_option maxHeartbeats 2000000 in
theorem markProg_calls {cs : List Value} {p : ProgD} {fp : List Nat} {w : World} (k : Int) (h : Ow.O w cs p fp) (h0 : 0 ≤ k) (h1 : k + (cntProgV p : Nat) ≤ 1152921504606846976) :
    Calls Tryz.prog 35 #[.agg cs.toArray, .int .i64 k] w fun e w' => e = .returned (.int .i64 (k + (cntProgV p : Nat))) ∧ Ow.O w' cs (mkProgV k p) fp ∧ WrF fp w w' := by
  have hlt := Ow.lt h
  obtain ⟨c1, c2, c4, c5, c6, c7, f1, f2, f4, f5, f6, f7, rfl, hf, o1, o2, o4, o5, o6, o7, rfl, hn⟩ := h
  have HF := Lib.hid hf
  have HN := Lib.hid hn
  obtain ⟨n1, r1, e1⟩ := List.nodup_append.1 hn
  obtain ⟨n2, r2, e2⟩ := List.nodup_append.1 r1
  obtain ⟨n4, r4, e4⟩ := List.nodup_append.1 r2
  obtain ⟨n5, r5, e5⟩ := List.nodup_append.1 r4
  obtain ⟨n6, n7, e6⟩ := List.nodup_append.1 r5
  have d12 : ∀ b, b ∈ f1 → b ∈ f2 → False := fun b h h' => e1 b h b (by simp [h']) rfl
  have d14 : ∀ b, b ∈ f1 → b ∈ f4 → False := fun b h h' => e1 b h b (by simp [h']) rfl
  have d15 : ∀ b, b ∈ f1 → b ∈ f5 → False := fun b h h' => e1 b h b (by simp [h']) rfl
  have d16 : ∀ b, b ∈ f1 → b ∈ f6 → False := fun b h h' => e1 b h b (by simp [h']) rfl
  have d17 : ∀ b, b ∈ f1 → b ∈ f7 → False := fun b h h' => e1 b h b (by simp [h']) rfl
  have d24 : ∀ b, b ∈ f2 → b ∈ f4 → False := fun b h h' => e2 b h b (by simp [h']) rfl
  have d25 : ∀ b, b ∈ f2 → b ∈ f5 → False := fun b h h' => e2 b h b (by simp [h']) rfl
  have d26 : ∀ b, b ∈ f2 → b ∈ f6 → False := fun b h h' => e2 b h b (by simp [h']) rfl
  have d27 : ∀ b, b ∈ f2 → b ∈ f7 → False := fun b h h' => e2 b h b (by simp [h']) rfl
  have d45 : ∀ b, b ∈ f4 → b ∈ f5 → False := fun b h h' => e4 b h b (by simp [h']) rfl
  have d46 : ∀ b, b ∈ f4 → b ∈ f6 → False := fun b h h' => e4 b h b (by simp [h']) rfl
  have d47 : ∀ b, b ∈ f4 → b ∈ f7 → False := fun b h h' => e4 b h b (by simp [h']) rfl
  have d56 : ∀ b, b ∈ f5 → b ∈ f6 → False := fun b h h' => e5 b h b (by simp [h']) rfl
  have d57 : ∀ b, b ∈ f5 → b ∈ f7 → False := fun b h h' => e5 b h b (by simp [h']) rfl
  have d67 : ∀ b, b ∈ f6 → b ∈ f7 → False := fun b h h' => e6 b h b h' rfl
  have HC : Hid (cntProgV p = cntTo p.rules p.rules.length + cntTo p.levels p.levels.length + cntTo p.project p.project.length + cntTo p.shows p.shows.length + cntTo p.exts p.exts.length + cntTo p.assume p.assume.length) := rfl
  have i4 := Lib.hid (cntTo_int p.project p.project.length)
  have i6 := Lib.hid (cntTo_pair p.exts p.exts.length)
  have i7 := Lib.hid (cntTo_int p.assume p.assume.length)
  rw [HC.out] at h1 ⊢
  obtain ⟨k2, hk2⟩ : ∃ k2 : Int, k2 = k + (cntTo p.rules p.rules.length : Nat) := ⟨_, rfl⟩
  obtain ⟨k4, hk4⟩ : ∃ k4 : Int, k4 = k2 + (cntTo p.levels p.levels.length : Nat) := ⟨_, rfl⟩
  obtain ⟨k5, hk5⟩ : ∃ k5 : Int, k5 = k4 + (cntTo p.project p.project.length : Nat) := ⟨_, rfl⟩
  obtain ⟨k6, hk6⟩ : ∃ k6 : Int, k6 = k5 + (cntTo p.shows p.shows.length : Nat) := ⟨_, rfl⟩
  obtain ⟨k7, hk7⟩ : ∃ k7 : Int, k7 = k6 + (cntTo p.exts p.exts.length : Nat) := ⟨_, rfl⟩
  have a1 : 0 ≤ k2 ∧ 0 ≤ k4 ∧ 0 ≤ k5 ∧ 0 ≤ k6 ∧ 0 ≤ k7 := by omega
  obtain ⟨a2, a4, a5, a6, a7⟩ := a1
  have b1 : k + (cntTo p.rules p.rules.length : Nat) ≤ 1152921504606846976 ∧ k2 + (cntTo p.levels p.levels.length : Nat) ≤ 1152921504606846976 ∧ k4 + p.project.length ≤ 1152921504606846976 ∧ k5 + (cntTo p.shows p.shows.length : Nat) ≤ 1152921504606846976 ∧ k6 + 2 * p.exts.length ≤ 1152921504606846976 ∧ k7 + p.assume.length ≤ 1152921504606846976 := by
    have := i4.out
    have := i6.out
    have := i7.out
    omega
  obtain ⟨b1, b2, b4, b5, b6, b7⟩ := b1
  have HE : Hid (k7 + (cntTo p.assume p.assume.length : Nat) = k + ((cntTo p.rules p.rules.length + cntTo p.levels p.levels.length + cntTo p.project p.project.length + cntTo p.shows p.shows.length + cntTo p.exts p.exts.length + cntTo p.assume p.assume.length : Nat) : Int)) := by show _ = _; omega
  have H2 := Lib.hid hk2
  have H4 := Lib.hid hk4
  have H5 := Lib.hid hk5
  have H6 := Lib.hid hk6
  have H7 := Lib.hid hk7
  clear hk2 hk4 hk5 hk6 hk7 h1
  have t0 : WrF (f1 ++ (f2 ++ (f4 ++ (f5 ++ (f6 ++ f7))))) w (w.alloc (.cells #[.int .i64 p.atoms, c1, c2, .bool p.projOn, c4, c5, c6, c7] 30)) := ((Below.refl _ _).alloc (Nat.le_refl _) _).wrF
  have hbx := (Below.refl w.heap.size w).alloc (Nat.le_refl _) (.cells #[.int .i64 p.atoms, c1, c2, .bool p.projOn, c4, c5, c6, c7] 30)
  have X := Cells.new w [.int .i64 p.atoms, c1, c2, .bool p.projOn, c4, c5, c6, c7] 30
  have o1 := Ow.kept (α := List RuleD) o1 fun b hb => hbx.block b (Ow.lt (α := List RuleD) o1 b hb)
  have o2 := Ow.kept (α := List LevelD) o2 fun b hb => hbx.block b (Ow.lt (α := List LevelD) o2 b hb)
  have o4 := Ow.kept (α := List Int) o4 fun b hb => hbx.block b (Ow.lt (α := List Int) o4 b hb)
  have o5 := Ow.kept (α := List ShowD) o5 fun b hb => hbx.block b (Ow.lt (α := List ShowD) o5 b hb)
  have o6 := Ow.kept (α := List (Int × Int)) o6 fun b hb => hbx.block b (Ow.lt (α := List (Int × Int)) o6 b hb)
  have o7 := Ow.kept (α := List Int) o7 fun b hb => hbx.block b (Ow.lt (α := List Int) o7 b hb)
  clear hf hn n1 r1 n2 r2 n4 r4 n5 r5 n6 n7 e1 e2 e4 e5 e6
  go_enter Tryz.func35, Tryz.ntmps35
  go_wp2_with fail
  refine (markRuleS_calls k o1 h0 b1).mono ?_
  rintro e w1 ⟨he, m1, g1⟩
  rw [← H2.out] at he
  subst he
  have o2 := Ow.wrF (α := List LevelD) o2 g1 fun b hb h => d12 b h hb
  have o4 := Ow.wrF (α := List Int) o4 g1 fun b hb h => d14 b h hb
  have o5 := Ow.wrF (α := List ShowD) o5 g1 fun b hb h => d15 b h hb
  have o6 := Ow.wrF (α := List (Int × Int)) o6 g1 fun b hb h => d16 b h hb
  have o7 := Ow.wrF (α := List Int) o7 g1 fun b hb h => d17 b h hb
  have X := X.kept (g1.block w.heap.size (by have := X.lt; omega) (fun h => by have := hlt w.heap.size (by simp [h]); omega))
  obtain ⟨x0, x1, x2, x3, x4, x5, x6, x7⟩ := cells8 X
  go_wp2_with fail
  refine (markLevelS_calls k2 o2 a2 b2).mono ?_
  rintro e w2 ⟨he, m2, g2⟩
  rw [← H4.out] at he
  subst he
  have m1 := Ow.wrF (α := List RuleD) m1 g2 fun b hb h => d12 b hb h
  have o4 := Ow.wrF (α := List Int) o4 g2 fun b hb h => d24 b h hb
  have o5 := Ow.wrF (α := List ShowD) o5 g2 fun b hb h => d25 b h hb
  have o6 := Ow.wrF (α := List (Int × Int)) o6 g2 fun b hb h => d26 b h hb
  have o7 := Ow.wrF (α := List Int) o7 g2 fun b hb h => d27 b h hb
  have X := X.kept (g2.block w.heap.size (by have := X.lt; omega) (fun h => by have := hlt w.heap.size (by simp [h]); omega))
  clear x0 x1 x2 x3 x4 x5 x6 x7
  obtain ⟨x0, x1, x2, x3, x4, x5, x6, x7⟩ := cells8 X
  go_wp2_with fail
  refine (markIntSO_calls k4 o4 a4 b4).mono ?_
  rintro e w3 ⟨he, m4, g3⟩
  have g3 := ChgF.wrF g3
  rw [← H5.out] at he
  subst he
  have m1 := Ow.wrF (α := List RuleD) m1 g3 fun b hb h => d14 b hb h
  have m2 := Ow.wrF (α := List LevelD) m2 g3 fun b hb h => d24 b hb h
  have o5 := Ow.wrF (α := List ShowD) o5 g3 fun b hb h => d45 b h hb
  have o6 := Ow.wrF (α := List (Int × Int)) o6 g3 fun b hb h => d46 b h hb
  have o7 := Ow.wrF (α := List Int) o7 g3 fun b hb h => d47 b h hb
  have X := X.kept (g3.block w.heap.size (by have := X.lt; omega) (fun h => by have := hlt w.heap.size (by simp [h]); omega))
  clear x0 x1 x2 x3 x4 x5 x6 x7
  obtain ⟨x0, x1, x2, x3, x4, x5, x6, x7⟩ := cells8 X
  go_wp2_with fail
  refine (markShowS_calls k5 o5 a5 b5).mono ?_
  rintro e w4 ⟨he, m5, g4⟩
  rw [← H6.out] at he
  subst he
  have m1 := Ow.wrF (α := List RuleD) m1 g4 fun b hb h => d15 b hb h
  have m2 := Ow.wrF (α := List LevelD) m2 g4 fun b hb h => d25 b hb h
  have m4 := Ow.wrF (α := List Int) m4 g4 fun b hb h => d45 b hb h
  have o6 := Ow.wrF (α := List (Int × Int)) o6 g4 fun b hb h => d56 b h hb
  have o7 := Ow.wrF (α := List Int) o7 g4 fun b hb h => d57 b h hb
  have X := X.kept (g4.block w.heap.size (by have := X.lt; omega) (fun h => by have := hlt w.heap.size (by simp [h]); omega))
  clear x0 x1 x2 x3 x4 x5 x6 x7
  obtain ⟨x0, x1, x2, x3, x4, x5, x6, x7⟩ := cells8 X
  go_wp2_with fail
  refine (markExtS_calls k6 o6 a6 b6).mono ?_
  rintro e w5 ⟨he, m6, g5⟩
  have g5 := ChgF.wrF g5
  rw [← H7.out] at he
  subst he
  have m1 := Ow.wrF (α := List RuleD) m1 g5 fun b hb h => d16 b hb h
  have m2 := Ow.wrF (α := List LevelD) m2 g5 fun b hb h => d26 b hb h
  have m4 := Ow.wrF (α := List Int) m4 g5 fun b hb h => d46 b hb h
  have m5 := Ow.wrF (α := List ShowD) m5 g5 fun b hb h => d56 b hb h
  have o7 := Ow.wrF (α := List Int) o7 g5 fun b hb h => d67 b h hb
  have X := X.kept (g5.block w.heap.size (by have := X.lt; omega) (fun h => by have := hlt w.heap.size (by simp [h]); omega))
  clear x0 x1 x2 x3 x4 x5 x6 x7
  obtain ⟨x0, x1, x2, x3, x4, x5, x6, x7⟩ := cells8 X
  go_wp2_with fail
  refine (markIntSO_calls k7 o7 a7 b7).mono ?_
  rintro e w6 ⟨he, m7, g6⟩
  have g6 := ChgF.wrF g6
  rw [HE.out] at he
  subst he
  have m1 := Ow.wrF (α := List RuleD) m1 g6 fun b hb h => d17 b hb h
  have m2 := Ow.wrF (α := List LevelD) m2 g6 fun b hb h => d27 b hb h
  have m4 := Ow.wrF (α := List Int) m4 g6 fun b hb h => d47 b hb h
  have m5 := Ow.wrF (α := List ShowD) m5 g6 fun b hb h => d57 b hb h
  have m6 := Ow.wrF (α := List (Int × Int)) m6 g6 fun b hb h => d67 b hb h
  have G := Lib.hid ((((((t0.trans (g1.more fun b hb => by simp [hb])).trans (g2.more fun b hb => by simp [hb])).trans (g3.more fun b hb => by simp [hb])).trans (g4.more fun b hb => by simp [hb])).trans (g5.more fun b hb => by simp [hb])).trans (g6.more fun b hb => by simp [hb]))
  have M : Hid (Ow.O w6 [.int .i64 p.atoms, c1, c2, .bool p.projOn, c4, c5, c6, c7] (mkProgV k p) (f1 ++ (f2 ++ (f4 ++ (f5 ++ (f6 ++ f7)))))) := by
    have q2 := H2.out
    have q4 := H4.out
    have q5 := H5.out
    have q6 := H6.out
    have q7 := H7.out
    rw [q2] at q4
    rw [q4] at q5
    rw [q5] at q6
    rw [q6] at q7
    rw [q2] at m2
    rw [q4] at m4
    rw [q5] at m5
    rw [q6] at m6
    rw [q7] at m7
    exact ⟨c1, c2, c4, c5, c6, c7, f1, f2, f4, f5, f6, f7, rfl, HF.out, m1, m2, m4, m5, m6, m7, rfl, HN.out⟩
  clear x0 x1 x2 x3 x4 x5 x6 x7 m1 m2 m4 m5 m6 m7 g1 g2 g3 g4 g5 g6
  go_wp2
  go_ret
  exact ⟨rfl, M.out, G.out⟩

/-! ### HeldB -/
/-! ### Held -/
theorem mkd_len {α : Type} [Inhabited α] [Mk α] (k : Int) (xs : List α) : (Mk.mkd k xs).length = xs.length := seqTo_len k xs _
theorem mkd_nth {α : Type} [Inhabited α] [Mk α] (k : Int) (xs : List α) {j : Nat} (h : j < xs.length) : nth (Mk.mkd k xs) j = Mk.mkd (k + (cntTo xs j : Nat)) (nth xs j) := seqTo_nth k xs h
/-- A slice that was marked, opened at an element. -/
theorem rd_mkd {α : Type} [Rd α] [Mk α] {w : World} {a : Option Addr} {k : Int} {xs : List α} (h : Row w a (Mk.mkd k xs)) {j : Nat} (hj : j < xs.length) :
    ∃ b off cs, a = some ⟨b, off, none⟩ ∧ Cells w b (off + j * Rd.k α) cs ∧ Rd.R w cs (Mk.mkd (k + (cntTo xs j : Nat)) (nth xs j)) := by
  obtain ⟨b, off, cs, h1, h2, h3⟩ := h.2 j (by rw [mkd_len]; exact hj)
  rw [mkd_nth k xs hj] at h3
  exact ⟨b, off, cs, h1, h2, h3⟩

set_option maxHeartbeats 1000000 in
theorem heldWLitS_calls {v : Value} {xs : List (Int × Int)} {w : World} (k : Int) (h : RdL w [v] (Mk.mkd k xs)) (h0 : 0 ≤ k) (h1 : k + 2 * xs.length ≤ 1152921504606846976) :
    Calls Tryz.prog 207 #[v, .int .i64 k] w fun e w' => e = .returned (.int .i64 (k + (cntTo xs xs.length : Nat))) ∧ w = w' := by
  obtain ⟨a, cap, rfl, _, hr⟩ := h.sl
  rw [mkd_len]
  have HE : Hid (k + (cntTo xs xs.length : Nat) = k + 2 * (xs.length : Int)) := by show _ = _; rw [cntTo_pair]; omega
  have hcap : xs.length ≤ 9223372036854775807 := by omega
  clear h
  go_enter Tryz.func207, Tryz.ntmps207
  go_wp2
  go_loop [1, 5] (fun q i => ∃ j : Nat, j ≤ xs.length ∧ i = .int .i64 j ∧ q = .int .i64 (k + 2 * (j : Int))) (fun _ i => xs.length - (intOf i).toNat)
  case atStart => exact ⟨0, Nat.zero_le _, rfl, by simp⟩
  case round =>
    obtain ⟨j, hj, rfl, rfl⟩ := hrel
    by_cases hlt : j < xs.length
    · obtain ⟨b, off, cs, rfl, hC, hR⟩ := rd_mkd hr hlt
      obtain ⟨rfl, hF, hF'⟩ := hR
      rw [cntTo_pair] at hC
      obtain ⟨K, hK⟩ : ∃ K : Int, K = k + 2 * (j : Int) := ⟨_, rfl⟩
      have hm : Mk.mkd (k + ((2 * j : Nat) : Int)) (nth xs j) = (K, K + 1) := by show (_, _) = _; rw [hK]; congr 1; all_goals omega
      rw [hm] at hC
      rw [← hK]
      have c0 := hC.c0
      have c1 := hC.c1
      rw [show Rd.k (Int × Int) = 2 from rfl] at c0 c1
      have hKn := Lib.hid (show K + 1 + 1 = k + 2 * ((j : Int) + 1) by omega)
      have hK0 : 0 ≤ K := by omega
      have hK1 : K + 2 ≤ 1152921504606846976 := by omega
      clear hC hm hK hF hF' hr
      go_wp2
      go_round
      case rel => exact ⟨j + 1, by omega, by go_num, by rw [hKn.out]; go_num⟩
      case measure => simp [intOf]; omega
    · have hjj : j = xs.length := by omega
      have HJ := Lib.hid hjj
      clear hjj
      go_wp2
      go_ret
      exact ⟨ret_int (by rw [HE.out, HJ.out]), rfl⟩

set_option maxHeartbeats 1000000 in
theorem heldExtS_calls {v : Value} {xs : List (Int × Int)} {w : World} (k : Int) (h : RdL w [v] (Mk.mkd k xs)) (h0 : 0 ≤ k) (h1 : k + 2 * xs.length ≤ 1152921504606846976) :
    Calls Tryz.prog 125 #[v, .int .i64 k] w fun e w' => e = .returned (.int .i64 (k + (cntTo xs xs.length : Nat))) ∧ w = w' := by
  obtain ⟨a, cap, rfl, _, hr⟩ := h.sl
  rw [mkd_len]
  have HE : Hid (k + (cntTo xs xs.length : Nat) = k + 2 * (xs.length : Int)) := by show _ = _; rw [cntTo_pair]; omega
  have hcap : xs.length ≤ 9223372036854775807 := by omega
  clear h
  go_enter Tryz.func125, Tryz.ntmps125
  go_wp2
  go_loop [1, 5] (fun q i => ∃ j : Nat, j ≤ xs.length ∧ i = .int .i64 j ∧ q = .int .i64 (k + 2 * (j : Int))) (fun _ i => xs.length - (intOf i).toNat)
  case atStart => exact ⟨0, Nat.zero_le _, rfl, by simp⟩
  case round =>
    obtain ⟨j, hj, rfl, rfl⟩ := hrel
    by_cases hlt : j < xs.length
    · obtain ⟨b, off, cs, rfl, hC, hR⟩ := rd_mkd hr hlt
      obtain ⟨rfl, hF, hF'⟩ := hR
      rw [cntTo_pair] at hC
      obtain ⟨K, hK⟩ : ∃ K : Int, K = k + 2 * (j : Int) := ⟨_, rfl⟩
      have hm : Mk.mkd (k + ((2 * j : Nat) : Int)) (nth xs j) = (K, K + 1) := by show (_, _) = _; rw [hK]; congr 1; all_goals omega
      rw [hm] at hC
      rw [← hK]
      have c0 := hC.c0
      have c1 := hC.c1
      rw [show Rd.k (Int × Int) = 2 from rfl] at c0 c1
      have hKn := Lib.hid (show K + 1 + 1 = k + 2 * ((j : Int) + 1) by omega)
      have hK0 : 0 ≤ K := by omega
      have hK1 : K + 2 ≤ 1152921504606846976 := by omega
      clear hC hm hK hF hF' hr
      go_wp2
      go_round
      case rel => exact ⟨j + 1, by omega, by go_num, by rw [hKn.out]; go_num⟩
      case measure => simp [intOf]; omega
    · have hjj : j = xs.length := by omega
      have HJ := Lib.hid hjj
      clear hjj
      go_wp2
      go_ret
      exact ⟨ret_int (by rw [HE.out, HJ.out]), rfl⟩



set_option maxHeartbeats 1000000 in
theorem heldLevelS_calls {v : Value} {xs : List LevelD} {w : World} (k : Int) (h : RdL w [v] (Mk.mkd k xs)) (h0 : 0 ≤ k) (h1 : k + (cntTo xs xs.length : Nat) ≤ 1152921504606846976) :
    Calls Tryz.prog 122 #[v, .int .i64 k] w fun e w' => e = .returned (.int .i64 (k + (cntTo xs xs.length : Nat))) ∧ w = w' := by
  obtain ⟨a, cap, rfl, hcp, hr⟩ := h.sl
  have hcap : xs.length ≤ 9223372036854775807 := by rw [mkd_len] at hcp; omega
  rw [mkd_len]
  clear h hcp
  go_enter Tryz.func122, Tryz.ntmps122
  go_wp2
  go_loop [1, 5] (fun q i => ∃ j : Nat, j ≤ xs.length ∧ i = .int .i64 j ∧ q = .int .i64 (k + (cntTo xs j : Nat))) (fun _ i => xs.length - (intOf i).toNat)
  case atStart => exact ⟨0, Nat.zero_le _, rfl, by simp [cntTo]⟩
  case round =>
    obtain ⟨j, hj, rfl, rfl⟩ := hrel
    by_cases hlt : j < xs.length
    · obtain ⟨b, off, cs, rfl, hC, hR⟩ := rd_mkd hr hlt
      obtain ⟨d1, rfl, hf, hR1⟩ := hR
      obtain ⟨K, hK⟩ : ∃ K : Int, K = k + (cntTo xs j : Nat) := ⟨_, rfl⟩
      have hcj := cntTo_mono xs (show j + 1 ≤ xs.length from hlt)
      have hc1 : cntTo xs (j + 1) = cntTo xs j + (1 + cntTo (nth xs j).lits (nth xs j).lits.length) := rfl
      rw [← hK] at hC hR1 ⊢
      have hC : Cells w b (off + j * 2) [.int .i64 K, d1] := hC
      have hR1 : RdL w [d1] (Mk.mkd (K + 1) (nth xs j).lits) := hR1
      have c0 := hC.c0
      have c1 := hC.c1
      have hKn := Lib.hid (show K + 1 + (cntTo (nth xs j).lits (nth xs j).lits.length : Nat) = k + (cntTo xs (j + 1) : Nat) by omega)
      have hK0 : 0 ≤ K := by omega
      have hip := cntTo_pair (nth xs j).lits (nth xs j).lits.length
      have hK1 : K + 1 + 2 * (nth xs j).lits.length ≤ 1152921504606846976 := by omega
      have hK2 : (0 : Int) ≤ K + 1 + (cntTo (nth xs j).lits (nth xs j).lits.length : Nat) := by omega
      have hK3 : K + 1 + (cntTo (nth xs j).lits (nth xs j).lits.length : Nat) ≤ 1152921504606846976 := by omega
      have hK4 : K + 1 ≤ 1152921504606846976 := by omega
      clear hC hK hf hr hc1 hcj hip
      go_wp2_with (go_at_call 207; refine (heldWLitS_calls (K + 1) hR1 (by omega) hK1).mono ?_; rintro e w' ⟨rfl, rfl⟩)
      go_round
      case rel => exact ⟨j + 1, by omega, by go_num, by rw [hKn.out]⟩
      case measure => simp [intOf]; omega
    · have hjj : j = xs.length := by omega
      subst hjj
      go_wp2
      go_ret
      exact ⟨rfl, rfl⟩

/-! ### HeldP -/
set_option maxHeartbeats 1000000 in
theorem heldRuleS_calls {v : Value} {xs : List RuleD} {w : World} (k : Int) (h : RdL w [v] (Mk.mkd k xs)) (h0 : 0 ≤ k) (h1 : k + (cntTo xs xs.length : Nat) ≤ 1152921504606846976) :
    Calls Tryz.prog 121 #[v, .int .i64 k] w fun e w' => e = .returned (.int .i64 (k + (cntTo xs xs.length : Nat))) ∧ w = w' := by
  obtain ⟨a, cap, rfl, hcp, hr⟩ := h.sl
  have hcap : xs.length ≤ 9223372036854775807 := by rw [mkd_len] at hcp; omega
  rw [mkd_len]
  clear h hcp
  go_enter Tryz.func121, Tryz.ntmps121
  go_wp2
  go_loop [1, 5] (fun q i => ∃ j : Nat, j ≤ xs.length ∧ i = .int .i64 j ∧ q = .int .i64 (k + (cntTo xs j : Nat))) (fun _ i => xs.length - (intOf i).toNat)
  case atStart => exact ⟨0, Nat.zero_le _, rfl, by simp [cntTo]⟩
  case round =>
    obtain ⟨j, hj, rfl, rfl⟩ := hrel
    by_cases hlt : j < xs.length
    · obtain ⟨b, off, cs, rfl, hC, hR⟩ := rd_mkd hr hlt
      obtain ⟨d1, d4, rfl, hf, hR1, hR4⟩ := hR
      obtain ⟨K, hK⟩ : ∃ K : Int, K = k + (cntTo xs j : Nat) := ⟨_, rfl⟩
      obtain ⟨L, hL⟩ : ∃ L : Int, L = K + 1 + (cntTo (nth xs j).heads (nth xs j).heads.length : Nat) := ⟨_, rfl⟩
      have hcj := cntTo_mono xs (show j + 1 ≤ xs.length from hlt)
      have hc1 : cntTo xs (j + 1) = cntTo xs j + (3 + cntTo (nth xs j).heads (nth xs j).heads.length + cntTo (nth xs j).body (nth xs j).body.length) := rfl
      rw [← hK] at hC hR1 hR4 ⊢
      have hC : Cells w b (off + j * 5) [.bool (K % 3 == 0), d1, .bool ((K + 1 + (cntTo (nth xs j).heads (nth xs j).heads.length : Nat)) % 3 == 0), .int .i64 (K + 2 + (cntTo (nth xs j).heads (nth xs j).heads.length : Nat)), d4] := hC
      have hR1 : RdL w [d1] (Mk.mkd (K + 1) (nth xs j).heads) := hR1
      have hR4 : RdL w [d4] (Mk.mkd (K + 3 + (cntTo (nth xs j).heads (nth xs j).heads.length : Nat)) (nth xs j).body) := hR4
      rw [← hL, show K + 2 + (cntTo (nth xs j).heads (nth xs j).heads.length : Nat) = L + 1 by omega] at hC
      rw [show K + 3 + (cntTo (nth xs j).heads (nth xs j).heads.length : Nat) = L + 1 + 1 by omega] at hR4
      have c0 := hC.c0
      have c1 := hC.c1
      have c2 := hC.c2
      have c3 := hC.c3
      have c4 := hC.c4
      have hKn := Lib.hid (show L + 1 + 1 + (cntTo (nth xs j).body (nth xs j).body.length : Nat) = k + (cntTo xs (j + 1) : Nat) by omega)
      have hii := cntTo_int (nth xs j).heads (nth xs j).heads.length
      have hip := cntTo_pair (nth xs j).body (nth xs j).body.length
      have hK0 : 0 ≤ K := by omega
      have hL0 : 0 ≤ L := by omega
      have hK1 : K + 1 + (nth xs j).heads.length ≤ 1152921504606846976 := by omega
      have hL1 : L + 1 + 1 + 2 * (nth xs j).body.length ≤ 1152921504606846976 := by omega
      have hL2 : (0 : Int) ≤ L + 1 + 1 + (cntTo (nth xs j).body (nth xs j).body.length : Nat) := by omega
      have hL3 : L + 1 + 1 + (cntTo (nth xs j).body (nth xs j).body.length : Nat) ≤ 1152921504606846976 := by omega
      have hL4 : L + 1 + 1 ≤ 1152921504606846976 := by omega
      have hK4 : K + 1 ≤ 1152921504606846976 := by omega
      have HL := Lib.hid hL
      clear hC hK hf hr hc1 hcj hip hii hL
      go_wp2_with (first | (go_at_call 123; refine (heldIntSO_calls (K + 1) hR1 (by omega) hK1).mono ?_; rintro e w' ⟨he, rfl⟩; rw [← HL.out] at he; subst he) | (go_at_call 207; refine (heldWLitS_calls (L + 1 + 1) hR4 (by omega) hL1).mono ?_; rintro e w' ⟨rfl, rfl⟩))
      go_round
      case rel => exact ⟨j + 1, by omega, by go_num, by rw [hKn.out]⟩
      case measure => simp [intOf]; omega
    · have hjj : j = xs.length := by omega
      subst hjj
      go_wp2
      go_ret
      exact ⟨rfl, rfl⟩

set_option maxHeartbeats 1000000 in
theorem heldShowS_calls {v : Value} {xs : List ShowD} {w : World} (k : Int) (h : RdL w [v] (Mk.mkd k xs)) (h0 : 0 ≤ k) (h1 : k + (cntTo xs xs.length : Nat) ≤ 1152921504606846976) :
    Calls Tryz.prog 124 #[v, .int .i64 k] w fun e w' => e = .returned (.int .i64 (k + (cntTo xs xs.length : Nat))) ∧ Below w.heap.size w w' := by
  obtain ⟨a, cap, rfl, hcp, hr⟩ := h.sl
  have hcap : xs.length ≤ 9223372036854775807 := by rw [mkd_len] at hcp; omega
  rw [mkd_len]
  clear h hcp
  go_enter Tryz.func124, Tryz.ntmps124
  go_wp2
  go_loopw [1, 5] (fun q i wr => ∃ j : Nat, j ≤ xs.length ∧ i = .int .i64 j ∧ q = .int .i64 (k + (cntTo xs j : Nat)) ∧ Below w.heap.size w wr) (fun _ i _ => xs.length - (intOf i).toNat)
  case atStart => exact ⟨0, Nat.zero_le _, rfl, by simp [cntTo], Below.refl _ _⟩
  case round =>
    obtain ⟨j, hj, rfl, rfl, hb⟩ := hrel
    by_cases hlt : j < xs.length
    · obtain ⟨b, off, cs, rfl, hC, hR⟩ := rd_mkd hr hlt
      have hC := hC.later hb
      have hR := Rd.mono hb hR
      obtain ⟨d1, rfl, hf, hR1⟩ := hR
      obtain ⟨K, hK⟩ : ∃ K : Int, K = k + (cntTo xs j : Nat) := ⟨_, rfl⟩
      have hcj := cntTo_mono xs (show j + 1 ≤ xs.length from hlt)
      have hc1 : cntTo xs (j + 1) = cntTo xs j + (1 + cntTo (nth xs j).cond (nth xs j).cond.length) := rfl
      rw [← hK] at hC hR1 ⊢
      have hC : Cells wr b (off + j * 2) [.string (markT K), d1] := hC
      have hR1 : RdL wr [d1] (Mk.mkd (K + 1) (nth xs j).cond) := hR1
      have c0 := hC.c0
      have hKn := Lib.hid (show K + 1 + (cntTo (nth xs j).cond (nth xs j).cond.length : Nat) = k + (cntTo xs (j + 1) : Nat) by omega)
      have hK0 : 0 ≤ K := by omega
      have hip := cntTo_int (nth xs j).cond (nth xs j).cond.length
      have hK1 : K + 1 + (nth xs j).cond.length ≤ 1152921504606846976 := by omega
      have hK2 : (0 : Int) ≤ K + 1 + (cntTo (nth xs j).cond (nth xs j).cond.length : Nat) := by omega
      have hK3 : K + 1 + (cntTo (nth xs j).cond (nth xs j).cond.length : Nat) ≤ 1152921504606846976 := by omega
      have hK4 : K + 1 ≤ 1152921504606846976 := by omega
      have hj0 : (0 : Int) ≤ (j : Int) := by omega
      have hj1 : (j : Int) < (xs.length : Int) := by omega
      clear hK hf hr hc1 hcj hip
      go_wp2
      go_region_held3 (fun w' => w'.cell? ⟨b, off + j * 2, none⟩ = some (.string (markT K)))
        (first | exact c0 | exact (hC.drew.later b1).c0)
        (first | (go_at_call 206; refine (markText_calls K _ (by omega)).mono ?_; rintro e w1 ⟨rfl, b1⟩))
      have hR2 := Rd.mono (α := List Int) (show Below wr.heap.size wr w1 from (Below.refl _ _).drew.step b1) hR1
      have c1 := (hC.drew.later b1).c1
      have hb1 := hb.drew.step b1
      go_wp2_with (go_at_call 123; refine (heldIntSO_calls (K + 1) hR2 (by omega) hK1).mono ?_; rintro e w' ⟨rfl, rfl⟩)
      go_roundw
      case rel => exact ⟨j + 1, by omega, by go_num, by rw [hKn.out], hb1⟩
      case measure => simp [intOf]; omega
    · have hjj : j = xs.length := by omega
      subst hjj
      go_wp2
      go_ret
      exact ⟨rfl, hb⟩

set_option maxHeartbeats 2000000 in
theorem heldProg_calls {cs : List Value} {p : ProgD} {w : World} (k : Int) (h : Rd.R w cs (mkProgV k p)) (h0 : 0 ≤ k) (h1 : k + (cntProgV p : Nat) ≤ 1152921504606846976) :
    Calls Tryz.prog 37 #[.agg cs.toArray, .int .i64 k] w fun e w' => e = .returned (.int .i64 (k + (cntProgV p : Nat))) ∧ Below w.heap.size w w' := by
  obtain ⟨c1, c2, c4, c5, c6, c7, rfl, hf, r1, r2, r4, r5, r6, r7⟩ := h
  have HC : Hid (cntProgV p = cntTo p.rules p.rules.length + cntTo p.levels p.levels.length + cntTo p.project p.project.length + cntTo p.shows p.shows.length + cntTo p.exts p.exts.length + cntTo p.assume p.assume.length) := rfl
  have i4 := Lib.hid (cntTo_int p.project p.project.length)
  have i6 := Lib.hid (cntTo_pair p.exts p.exts.length)
  have i7 := Lib.hid (cntTo_int p.assume p.assume.length)
  rw [HC.out] at h1 ⊢
  obtain ⟨k2, hk2⟩ : ∃ k2 : Int, k2 = k + (cntTo p.rules p.rules.length : Nat) := ⟨_, rfl⟩
  obtain ⟨k4, hk4⟩ : ∃ k4 : Int, k4 = k2 + (cntTo p.levels p.levels.length : Nat) := ⟨_, rfl⟩
  obtain ⟨k5, hk5⟩ : ∃ k5 : Int, k5 = k4 + (cntTo p.project p.project.length : Nat) := ⟨_, rfl⟩
  obtain ⟨k6, hk6⟩ : ∃ k6 : Int, k6 = k5 + (cntTo p.shows p.shows.length : Nat) := ⟨_, rfl⟩
  obtain ⟨k7, hk7⟩ : ∃ k7 : Int, k7 = k6 + (cntTo p.exts p.exts.length : Nat) := ⟨_, rfl⟩
  have a1 : 0 ≤ k2 ∧ 0 ≤ k4 ∧ 0 ≤ k5 ∧ 0 ≤ k6 ∧ 0 ≤ k7 := by omega
  obtain ⟨a2, a4, a5, a6, a7⟩ := a1
  have b1 : k + (cntTo p.rules p.rules.length : Nat) ≤ 1152921504606846976 ∧ k2 + (cntTo p.levels p.levels.length : Nat) ≤ 1152921504606846976 ∧ k4 + p.project.length ≤ 1152921504606846976 ∧ k5 + (cntTo p.shows p.shows.length : Nat) ≤ 1152921504606846976 ∧ k6 + 2 * p.exts.length ≤ 1152921504606846976 ∧ k7 + p.assume.length ≤ 1152921504606846976 := by
    have := i4.out
    have := i6.out
    have := i7.out
    omega
  obtain ⟨b1, b2, b4, b5, b6, b7⟩ := b1
  have HE : Hid (k7 + (cntTo p.assume p.assume.length : Nat) = k + ((cntTo p.rules p.rules.length + cntTo p.levels p.levels.length + cntTo p.project p.project.length + cntTo p.shows p.shows.length + cntTo p.exts p.exts.length + cntTo p.assume p.assume.length : Nat) : Int)) := by show _ = _; omega
  have H2 := Lib.hid hk2
  have H4 := Lib.hid hk4
  have H5 := Lib.hid hk5
  have H6 := Lib.hid hk6
  have H7 := Lib.hid hk7
  clear hk2 hk4 hk5 hk6 hk7 h1
  have r1 : RdL w [c1] (Mk.mkd k p.rules) := r1
  have r2 : RdL w [c2] (Mk.mkd k2 p.levels) := by rw [H2.out]; exact r2
  have r4 : RdL w [c4] (Mk.mkd k4 p.project) := by rw [H4.out, H2.out]; exact r4
  have r5 : RdL w [c5] (Mk.mkd k5 p.shows) := by rw [H5.out, H4.out, H2.out]; exact r5
  have r6 : RdL w [c6] (Mk.mkd k6 p.exts) := by rw [H6.out, H5.out, H4.out, H2.out]; exact r6
  have r7 : RdL w [c7] (Mk.mkd k7 p.assume) := by rw [H7.out, H6.out, H5.out, H4.out, H2.out]; exact r7
  have tb := (Below.refl w.heap.size w).alloc (Nat.le_refl _) (.cells #[.int .i64 (mkProgV k p).atoms, c1, c2, .bool (mkProgV k p).projOn, c4, c5, c6, c7] 30)
  have X := Cells.new w [.int .i64 (mkProgV k p).atoms, c1, c2, .bool (mkProgV k p).projOn, c4, c5, c6, c7] 30
  have a8 : (0 : Int) ≤ k + (cntProgV p : Nat) := by omega
  rw [HC.out] at a8
  go_enter Tryz.func37, Tryz.ntmps37
  go_wp2_with fail
  refine (heldRuleS_calls k (Rd.mono (α := List RuleD) tb r1) h0 b1).mono ?_
  rintro e w' ⟨he, rfl⟩
  rw [← H2.out] at he
  subst he
  go_wp2_with fail
  refine (heldLevelS_calls k2 (Rd.mono (α := List LevelD) tb r2) a2 b2).mono ?_
  rintro e w' ⟨he, rfl⟩
  rw [← H4.out] at he
  subst he
  go_wp2_with fail
  refine (heldIntSO_calls k4 (Rd.mono (α := List Int) tb r4) a4 b4).mono ?_
  rintro e w' ⟨he, rfl⟩
  rw [← H5.out] at he
  subst he
  go_wp2_with fail
  refine (heldShowS_calls k5 (Rd.mono (α := List ShowD) tb r5) a5 b5).mono ?_
  rintro e w1 ⟨he, hb1⟩
  rw [← H6.out] at he
  subst he
  have X1 := X.later hb1
  have t1 := tb.step hb1
  obtain ⟨x0, x1, x2, x3, x4, x5, x6, x7⟩ := cells8 X1
  go_wp2_with fail
  refine (heldExtS_calls k6 (Rd.mono (α := List (Int × Int)) t1 r6) a6 b6).mono ?_
  rintro e w' ⟨he, rfl⟩
  rw [← H7.out] at he
  subst he
  go_wp2_with fail
  refine (heldIntSO_calls k7 (Rd.mono (α := List Int) t1 r7) a7 b7).mono ?_
  rintro e w' ⟨he, rfl⟩
  rw [HE.out] at he
  subst he
  go_wp2
  go_ret
  exact ⟨rfl, t1⟩

end Go.Proofs.YthikhkeofcjdfaaGreat
