/-
 What is drawn beside a program; programs drawn with a set; programs drawn without Choice. No condition of its own.
-/
import Derived.Test.YthfbnalgnnjbbaaGreatAny
import Derived.Test.YthfbnalgnnjbbaaGreatAnsU
import Derived.Test.YthfbnalgnnjbbaaGreatBody
import Derived.Deep.RegionHeld3
import Derived.Test.YthfbnalgnnjbbaaGreatDraw
namespace Go.Proofs.YthfbnalgnnjbbaaGreat
set_option linter.unusedVariables false
set_option linter.unusedSimpArgs false
open Go.RowKit
set_option maxRecDepth 100000

def AnyOk : Prop := ∀ (c N : Nat) (w : World), Cur w c N → N ≤ 100000 → Calls Tryz.prog 66 #[.pointer (some ⟨c, 0, none⟩)] w (AnyPost w c (N + 6000))

theorem Own.wrote {α : Type} [Ow α] {lo c : Nat} {w w' : World} {cs : List Value} {x : α} (h : Own lo w cs x) (hw : Wrote c w w') (hc : c < lo) : Own lo w' cs x :=
 h.cg (Cg.wrote (S := fun g => g = c) hw rfl) fun g hg e => by omega
theorem Rd.wrote {α : Type} [Ow α] {lo c : Nat} {w w' : World} {cs : List Value} {x : α} (h : Own lo w cs x) (hw : Wrote c w w') (hc : c < lo) : Rd.R w' cs x := (h.wrote hw hc).rd


def SetDr (B c : Nat) (W : World) (e : Ending) (w' : World) : Prop := ∃ v xs, e = .returned v ∧ xs.length ≤ 4096 ∧ Own B w' [v] (xs : List Int) ∧ Cur w' c 100000 ∧ Wrote c W w'
def PairPost (w : World) (e : Ending) (w' : World) : Prop := ∃ cs p v xs, e = .returned (.tuple #[.agg (List.toArray cs), v]) ∧ Rd.R (α := ProgD) w' cs p ∧ RdL (α := Int) w' [v] xs ∧ Wee p ∧ xs.length ≤ 4096 ∧ Below w.heap.size w w'







theorem below_cg {w w2 w3 : World} (t : Below w.heap.size w w2) (kp : Cg (fun x => x = w.heap.size) w2 w3) : Below w.heap.size w w3 :=
 ⟨kp.os.trans t.os, kp.tape.trans t.tape, kp.output.trans t.output, Nat.le_trans t.size kp.size, fun k hk => (kp.block k (Nat.lt_of_lt_of_le hk t.size) (by omega)).trans (t.block k hk)⟩
def PlainOk : Prop := ∀ (c N : Nat) (w : World), Cur w c N → N ≤ 50000 → Calls Tryz.prog 111 #[.pointer (some ⟨c, 0, none⟩)] w (AnyPost w c (N + 6100))


set_option maxHeartbeats 8000000 in
theorem DrawCut_calls (HP : PlainOk) {a : Option Addr} {bs : List Int} {cap : Nat} {w : World} (h : Bytes w a bs) :
  Calls Tryz.prog 49 #[.slice a bs.length cap] w fun e w' => ∃ cs p, e = .returned (.agg (List.toArray cs)) ∧ Rd.R (α := ProgD) w' cs p ∧ Below w.heap.size w w' := by
 have tz : Below w.heap.size w (w.alloc (.cells zP.toArray 30)) := (Below.refl _ _).alloc (Nat.le_refl _) _
 have hB := h.later tz
 have hz0 := alloc_block w zP.toArray 30
 go_enter Tryz.func49, Tryz.ntmps49
 go_wp2_with fail
 refine (open_calls _ _ _ _ hB).mono ?_
 rintro e w1 ⟨rfl, hc, hb⟩
 rw [World.size_alloc] at hc hb
 have hcl := hc.lt
 have hz1 := (hb.block _ (Nat.lt_succ_self _)).trans hz0
 rw [World.size_alloc]
 go_wp2_with fail
 refine (HP (w.heap.size + 1) 0 w1 hc (by omega)).mono ?_
 rintro e w2 ⟨cs, p, rfl, hL, hwee, c2, k2⟩
 obtain ⟨x0, x1, x2, x3, x4, x5, x6, x7, rfl⟩ := list8 (Rd.len hL.rd)
 have l1 := Rd.one hL.rd
 have st0 := sto Tryz.prog (l1 x0 (by simp))
 have st1 := sto Tryz.prog (l1 x1 (by simp))
 have st2 := sto Tryz.prog (l1 x2 (by simp))
 have st3 := sto Tryz.prog (l1 x3 (by simp))
 have st4 := sto Tryz.prog (l1 x4 (by simp))
 have st5 := sto Tryz.prog (l1 x5 (by simp))
 have st6 := sto Tryz.prog (l1 x6 (by simp))
 have st7 := sto Tryz.prog (l1 x7 (by simp))
 have hz2 := k2.size
 have hr2 := (Cg.wrote (S := fun x => x = w.heap.size + 1) k2 rfl).at hz1 (by omega)
 obtain ⟨v0, v1, v2, v3, v4, v5, v6, v7⟩ := cells8 (box_cells hr2)
 have vf := fun j => frozen_of_row w2 w.heap.size j _ _ hr2
 have hln := block_lt hr2
 have hk := fun u0 u1 u2 u3 u4 u5 u6 u7 => res_cg8 w2 w.heap.size u0 u1 u2 u3 u4 u5 u6 u7
 have t1 : Below w.heap.size w w1 := tz.trans (hb.mono (Nat.le_succ _))
 have t2 : Below w.heap.size w w2 := Wrote.mark t1 k2 (by omega)
 go_wp2
 exact bodyPost_ret (v := .agg #[x0, x1, x2, x3, x4, x5, x6, x7]) (by first | (simp [results, Tryz.results49, go_sem, v0, v1, v2, v3, v4, v5, v6, v7]; done) | (simp [results, Tryz.results49, go_sem, v0, v1, v2, v3, v4, v5, v6, v7]; omega)) rfl
  ⟨[x0, x1, x2, x3, x4, x5, x6, x7], p, rfl, (hL.cg ((hk _ _ _ _ _ _ _ _).more fun g _ hg => by omega)).rd, below_cg t2 (hk _ _ _ _ _ _ _ _)⟩



end Go.Proofs.YthfbnalgnnjbbaaGreat
