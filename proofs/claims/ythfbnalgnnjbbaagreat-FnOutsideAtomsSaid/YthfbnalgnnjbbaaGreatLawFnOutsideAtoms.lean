/-
 laws.FnOutsideAtoms returns true for all byte strings: a program with an external atom that is free has the answers that it has with it true, and those with it false.
 Conditions: none (what every row of this form says by itself: the arguments can be read as data).
-/
import Derived.Test.YthfbnalgnnjbbaaGreatOutX
import Derived.Test.YthfbnalgnnjbbaaGreatFldS
import Derived.Test.YthfbnalgnnjbbaaGreatDrawF
import Derived.Test.YthfbnalgnnjbbaaGreatAnsR
import Derived.Test.YthfbnalgnnjbbaaGreatAnsU
import Derived.Test.YthfbnalgnnjbbaaGreatLawsInts
import Derived.Test.YthfbnalgnnjbbaaGreatAnyW
import Derived.Deep.RegionHeld3
import Derived.Test.YthfbnalgnnjbbaaGreatOpen
import Derived.Test.YthfbnalgnnjbbaaGreatRows
import Derived.WalkKit
import Derived.ProofKit
import Derived.OpenShut
import Derived.ShutString
import Derived.ChangeOld
import Derived.Below
namespace Go.Proofs.YthfbnalgnnjbbaaGreat.fnOutsideAtoms
open Go.ChangeShapes Go.WideShapes Go.ChangeAt Go.RowKit
open Go.ChangeMaps (open_string shut_string)
set_option linter.unusedVariables false
set_option linter.unusedSimpArgs false

theorem own : ownKnob Tryz.prog.godebug = none := by kernel_rfl
theorem laidOut : laidOutB Tryz.prog = true := by kernel_rfl

theorem any_ok : AnyOk := fun c N w h hN => any_calls c N w h hN

theorem ans_lenO (p : ProgD) : (answersL p).length ≤ 4096 := by
 unfold answersL
 split
 ·rename_i hF
  have h1 := ansTo_len (foldD p) (2 ^ p.atoms.toNat)
  obtain ⟨h2, h3⟩ := progOk_atoms (foldR_ok hF)
  have h4 : (foldD p).atoms = p.atoms := rfl
  have : 2 ^ p.atoms.toNat ≤ 2 ^ 12 := Nat.pow_le_pow_right (by omega) (by omega)
  omega
 ·simp
theorem own_lo {α : Type} [Ow α] {lo lo2 : Nat} {w : World} {cs : List Value} {x : α} (h : Own lo w cs x) (hl : lo2 ≤ lo) : Own lo2 w cs x := by
 obtain ⟨fp, h1, h2⟩ := h
 exact ⟨fp, h1, fun g hg => Nat.le_trans hl (h2 g hg)⟩
theorem ext_of {w : World} {p : ProgD} {a1 d1 d2 b d4 d5 c6 d7 : Value} (h : Rd.R w [a1, d1, d2, b, d4, d5, c6, d7] p) : RdL w [c6] p.exts := by
 obtain ⟨_, _, _, _, _, _, e, hf, q1, q2, q4, q5, q6, q7⟩ := h
 simp only [List.cons.injEq, and_true] at e
 obtain ⟨-, -, -, -, -, -, rfl, -⟩ := e
 exact q6
theorem rd_ext {w w5 : World} {p : ProgD} {d1 d2 d4 d5 c6 d7 c6' : Value} {xs : List (Int × Int)} (h : Rd.R w5 [.int .i64 p.atoms, d1, d2, .bool p.projOn, d4, d5, c6, d7] p) (hb : Below w5.heap.size w5 w) (hx : RdL w [c6'] xs) : Rd.R w [.int .i64 p.atoms, d1, d2, .bool p.projOn, d4, d5, c6', d7] { p with exts := xs } := by
 obtain ⟨_, _, _, _, _, _, e, hf, q1, q2, q4, q5, q6, q7⟩ := Rd.mono hb h
 simp only [List.cons.injEq, and_true, true_and] at e
 obtain ⟨rfl, rfl, rfl, rfl, rfl, rfl⟩ := e
 exact ⟨_, _, _, _, _, _, rfl, hf, q1, q2, q4, q5, hx, q7⟩
set_option maxRecDepth 100000 in
set_option maxHeartbeats 16000000 in
theorem law0 {a : Option Addr} {bs : List Int} {cap : Nat} {w : World} (h : Bytes w a bs) :
  Calls Tryz.prog 7 #[.slice a bs.length cap] w fun e w' => e = .returned (.bool true) ∧ Below w.heap.size w w' := by
 have hb1 : decide (1048576 < (bs.length : Int)) = false := decide_eq_false (by have := h.1; omega)
 go_enter Tryz.func7, Tryz.ntmps7
 go_wp2_with fail
 refine (big_calls _ _ _ _ _ hb1).mono ?_
 rintro e w' ⟨rfl, rfl⟩
 go_wp2_with fail
 refine (DrawFold_calls any_ok _ _ _ _ h).mono ?_
 rintro e w1 ⟨cs, p, rfl, hp, t1⟩
 clear h hb1
 have hp0 := hp
 obtain ⟨d1, d2, d4, d5, d6, d7, rfl, hfa, g1, g2, g4, g5, g6, g7⟩ := hp0
 obtain ⟨a6, k6, rfl, hk6, h6⟩ := g6.sl
 have st1 := sto Tryz.prog g1.one1
 have st2 := sto Tryz.prog g2.one1
 have st4 := sto Tryz.prog g4.one1
 have st5 := sto Tryz.prog g5.one1
 have st7 := sto Tryz.prog g7.one1
 clear g1 g2 g4 g5 g6 g7 hfa hk6
 have CX := Cells.new w1 [.int .i64 p.atoms, d1, d2, .bool p.projOn, d4, d5, .slice a6 p.exts.length k6, d7] 30
 have tn := (Below.refl w1.heap.size w1).alloc (Nat.le_refl _) (.cells #[.int .i64 p.atoms, d1, d2, .bool p.projOn, d4, d5, .slice a6 p.exts.length k6, d7] 30)
 have tb := t1.alloc t1.size (.cells #[.int .i64 p.atoms, d1, d2, .bool p.projOn, d4, d5, .slice a6 p.exts.length k6, d7] 30)
 have hp := Rd.mono tn hp
 have hm6 := h6.1
 clear h6 tn
 obtain ⟨y0, y1, y2, y3, y4, y5, y6, y7⟩ := cells8 CX
 cases hF : foldB p
 ·go_wp2_with fail
  refine (folds_calls hp).mono ?_
  rintro e w2 ⟨he, b2⟩
  rw [hF] at he
  subst he
  go_wp2
  go_ret
  exact ⟨rfl, tb.step b2⟩
 ·have hpok : progOkB p = true := by have h0 := hF; simp only [foldB, Bool.and_eq_true] at h0; exact h0.1
  by_cases hz : p.exts.length = 0
  ·have hzb : ((p.exts.length : Int) == 0) = true := beq_iff_eq.2 (by omega)
   clear hz hm6
   go_wp2_with fail
   refine (folds_calls hp).mono ?_
   rintro e w2 ⟨he, b2⟩
   rw [hF] at he
   subst he
   clear y0 y1 y2 y3 y4 y5 y6 y7
   obtain ⟨y0, y1, y2, y3, y4, y5, y6, y7⟩ := cells8 (CX.later b2)
   clear hF
   go_wp2
   go_ret
   exact ⟨rfl, tb.step b2⟩
  ·have hzb : ((p.exts.length : Int) == 0) = false := beq_eq_false_iff_ne.2 (by omega)
   go_wp2_with fail
   refine (folds_calls hp).mono ?_
   rintro e w2 ⟨he, b2⟩
   rw [hF] at he
   subst he
   have t2 := tb.step b2
   have CX := CX.later b2
   have hp := Rd.mono b2 hp
   first | (have gx := Rd.mono (α := List Int) b2 gx) | skip
   clear y0 y1 y2 y3 y4 y5 y6 y7
   obtain ⟨y0, y1, y2, y3, y4, y5, y6, y7⟩ := cells8 (CX)
   cases hR : decide (p.rules.length + p.exts.length + p.assume.length + 1 ≤ 60)
   ·go_wp2_with fail
    refine (room_calls hp hF).mono ?_
    rintro e w3 ⟨he, b3⟩
    rw [hR] at he
    subst he
    clear hF hR hz
    go_wp2
    go_ret
    exact ⟨rfl, t2.step b3⟩
   ·go_wp2_with fail
    refine (room_calls hp hF).mono ?_
    rintro e w3 ⟨he, b3⟩
    rw [hR] at he
    subst he
    have t3 := t2.step b3
    have CX := CX.later b3
    have hp := Rd.mono b3 hp
    first | (have gx := Rd.mono (α := List Int) b3 gx) | skip
    clear y0 y1 y2 y3 y4 y5 y6 y7
    obtain ⟨y0, y1, y2, y3, y4, y5, y6, y7⟩ := cells8 (CX)
    have hR := of_decide_eq_true hR
    have hxl := progOk_exts_len hpok
    obtain ⟨e0, es, hex⟩ : ∃ e es, p.exts = e :: es := by
     cases hx : p.exts with
     | nil => rw [hx] at hz; exact absurd rfl hz
     | cons e es => exact ⟨e, es, rfl⟩
    have HL := Lib.hid (ext_law hpok hex (by omega))
    have hel : es.length ≤ 100 := by rw [hex] at hxl; simp at hxl; omega
    have HEX := Lib.hid hex
    have hen : Hid (p.exts.length = es.length + 1) := by show _ = _; rw [hex]; rfl
    have HFV := Lib.hid (fun v (hv : 0 ≤ v ∧ v ≤ 2) => ext_okf (e := e0) (es := es) hpok hex hv (by omega))
    clear hF hR hz hex hxl
    have lb : w1.heap.size < w3.heap.size := CX.lt
    -- the array of the three lists
    have hp3 := hp
    have CX3 := CX
    have t3a := t3.alloc t3.size (.cells #[.slice none 0 0, .slice none 0 0, .slice none 0 0] 65)
    have hA := alloc_block w3 #[.slice none 0 0, .slice none 0 0, .slice none 0 0] 65
    have BW := (Below.refl w3.heap.size w3).alloc (Nat.le_refl _) (.cells #[.slice none 0 0, .slice none 0 0, .slice none 0 0] 65)
    have lA : w3.heap.size < (w3.alloc (.cells #[.slice none 0 0, .slice none 0 0, .slice none 0 0] 65)).heap.size := by simp
    clear hp CX t3
    go_wp2
    generalize w3.alloc (.cells #[.slice none 0 0, .slice none 0 0, .slice none 0 0] 65) = W0 at *
    have tW0 := t3a
    have BW0 := BW
    have hA0 := hA
    have lA0 := lA
    clear t3a BW hA lA y0 y1 y2 y3 y4 y5 y6 y7
    have hx6 := ext_of hp3
    have lt3 : w.heap.size ≤ w3.heap.size := Nat.le_trans (tb.size) (Nat.le_trans b2.size b3.size)
    refine wp_loop_rounds 4 ?_
    rw [rounds_succ]
    have CX0 := CX3.later BW0
    obtain ⟨y0, y1, y2, y3, y4, y5, y6, y7⟩ := cells8 CX0
    have lw0 := CX0.lt
    have hg := alloc_block (W0.alloc (.cells #[.int .i64 p.atoms, d1, d2, .bool p.projOn, d4, d5, .slice a6 p.exts.length k6, d7] 30)) #[] 67
    rw [World.size_alloc] at hg
    have tq1 := (Below.refl W0.heap.size W0).alloc (Nat.le_refl _) (.cells #[.int .i64 p.atoms, d1, d2, .bool p.projOn, d4, d5, .slice a6 p.exts.length k6, d7] 30)
    have tq2 := tq1.alloc tq1.size (.cells #[] 67)
    obtain ⟨g0, n0, v4, r4, hgo, hgr, ⟨uo, hco⟩, hfz, hlg, hput⟩ := ext_copy (ty := 28) hg HEX.out (Rd.mono (α := List (Int × Int)) tq2 (Rd.mono (α := List (Int × Int)) BW0 hx6)) hel
    have zq2 : ((W0.alloc (.cells #[.int .i64 p.atoms, d1, d2, .bool p.projOn, d4, d5, .slice a6 p.exts.length k6, d7] 30)).alloc (.cells #[] 67)).heap.size = W0.heap.size + 2 := by simp
    rw [zq2] at hgo
    have hne1 : ¬ (g0 = W0.heap.size) := by omega
    have hne2 : ¬ (W0.heap.size = g0) := by omega
    have hne3 : ¬ (g0 = w3.heap.size) := by omega
    have hgQ : W0.heap.size ≤ g0 := by omega
    have b4 : Below (W0.heap.size + 1) ((W0.alloc (.cells #[.int .i64 p.atoms, d1, d2, .bool p.projOn, d4, d5, .slice a6 p.exts.length k6, d7] 30)).alloc (.cells #[] 67)) v4 := (Below.refl _ _).grown hgr (by omega) (fun k hk => by cases hk; exact Nat.le_refl _)
    have hQ4 := (b4.block W0.heap.size (by omega)).trans ((Below.heap_alloc _ (.cells #[] 67) W0.heap.size (by simp)).trans (alloc_block W0 #[.int .i64 p.atoms, d1, d2, .bool p.projOn, d4, d5, .slice a6 p.exts.length k6, d7] 30))
    obtain ⟨z0, z1, z2, z3, z4, z5, z6, z7⟩ := cells8 (box_cells (cs := [.int .i64 p.atoms, d1, d2, .bool p.projOn, d4, d5, .slice a6 p.exts.length k6, d7]) hQ4)
    have hfq := fun j => frozen_of_row v4 W0.heap.size j _ _ hQ4
    have tq4 : Below W0.heap.size W0 v4 := tq2.trans (b4.mono (by omega))
    have hlq := block_lt hQ4
    have HPUT := Lib.hid hput
    clear hput hgr b4 hg hgo
    go_wp2_with (at_builtin; refine wpList_append_of rfl _ _ rfl rfl rfl r4 ?_)
    generalize hW5 : World.setCell (World.setCell v4 _ _) _ _ = x5
    have hQ5 : x5.heap[W0.heap.size]? = some (.cells #[.int .i64 p.atoms, d1, d2, .bool p.projOn, d4, d5, .slice (some ⟨g0, 0, none⟩) (es.length + 1) n0, d7] 30 (0, 0)) := by rw [← hW5]; exact (Below.heap_setCell _ _ _ _ hne2).trans (box_set (cs := [.int .i64 p.atoms, d1, d2, .bool p.projOn, d4, d5, .slice a6 p.exts.length k6, d7]) hQ4 _)
    have C5 : Cells x5 W0.heap.size 0 [.int .i64 p.atoms, d1, d2, .bool p.projOn, d4, d5, .slice (some ⟨g0, 0, none⟩) (es.length + 1) n0, d7] := box_cells (cs := [.int .i64 p.atoms, d1, d2, .bool p.projOn, d4, d5, .slice (some ⟨g0, 0, none⟩) (es.length + 1) n0, d7]) hQ5
    have tq5 : Below W0.heap.size W0 x5 := by rw [← hW5]; exact (tq4.setCell (p := ⟨W0.heap.size, 6, none⟩) (Nat.le_refl _) _).setCell (p := ⟨g0, 1, none⟩) (show W0.heap.size ≤ g0 from hgQ) _
    have hg5 : x5.heap[g0]? = ((v4.setCell ⟨W0.heap.size, 6, none⟩ (.slice (some ⟨g0, 0, none⟩) (es.length + 1) n0)).setCell ⟨g0, 1, none⟩ (.int .i64 0)).heap[g0]? := by rw [← hW5]
    have hget : ∀ wz : World, wz.heap[g0]? = x5.heap[g0]? → RdL wz [.slice (some ⟨g0, 0, none⟩) (es.length + 1) n0] ((e0.1, 0) :: es) := fun wz hwz => HPUT.out _ (Below.heap_setCell _ _ _ _ hne1) 0 ⟨by omega, by omega⟩ wz (hwz.trans hg5)
    have hl5 : g0 < x5.heap.size := by have h1 := tq5.size; rw [← hW5]; simpa using hlg
    have hq5 : Rd.R x5 [.int .i64 p.atoms, d1, d2, .bool p.projOn, d4, d5, .slice (some ⟨g0, 0, none⟩) (es.length + 1) n0, d7] (extD p 0 e0 es) := rd_ext hp3 (BW0.trans (tq5.mono (by omega))) (hget x5 rfl)
    clear z0 z1 z2 z3 z4 z5 z6 z7 y0 y1 y2 y3 y4 y5 y6 y7 hfq hco hfz hlg r4 tq1 tq2 tq4 zq2 hQ4 hQ5 hlq HPUT hg5 hW5
    refine (implAnswers_calls hq5).mono ?_
    rintro e W6 ⟨u, rfl, ob, b6⟩
    obtain ⟨au0, cu0, rfl, -, -⟩ := ob.rd.sl
    have hA6 := (b6.block w3.heap.size (Nat.lt_of_lt_of_le lA0 tq5.size)).trans ((tq5.block w3.heap.size lA0).trans hA0)
    have CA6 := box_cells (cs := [.slice none 0 0, .slice none 0 0, .slice none 0 0]) hA6
    have s0 := CA6.c0
    have s1 := CA6.c1
    have s2 := CA6.c2
    have hfa := fun j => frozen_of_row W6 w3.heap.size j _ _ hA6
    have lA6 := block_lt hA6
    go_upto_region 14 with fail
    generalize hW7 : W6.setCell _ _ = W7
    have hA7 : W7.heap[w3.heap.size]? = some (.cells #[.slice au0 (answersL (extD p 0 e0 es)).length cu0, .slice none 0 0, .slice none 0 0] 65 (0, 0)) := by rw [← hW7]; exact box_set (cs := [.slice none 0 0, .slice none 0 0, .slice none 0 0]) hA6 _
    have hk7 : ∀ k, k ≠ w3.heap.size → W7.heap[k]? = W6.heap[k]? := fun k hk => by rw [← hW7]; exact Below.heap_setCell _ _ _ _ hk
    have z7 : W7.heap.size = W6.heap.size := by rw [← hW7]; simp [World.setCell]
    have C7 : Cells W7 W0.heap.size 0 [.int .i64 p.atoms, d1, d2, .bool p.projOn, d4, d5, .slice (some ⟨g0, 0, none⟩) (es.length + 1) n0, d7] := (C5.later b6).kept (hk7 _ (by omega))
    have b36 : Below w3.heap.size W0 W6 := (tq5.mono (Nat.le_of_lt lA0)).trans (b6.mono (Nat.le_trans (Nat.le_of_lt lA0) tq5.size))
    have BW7 : Below w3.heap.size w3 W7 := by rw [← hW7]; exact (BW0.trans b36).setCell (p := ⟨w3.heap.size, 0, none⟩) (Nat.le_refl _) _
    have tW7 : Below w.heap.size w W7 := by rw [← hW7]; exact (tW0.trans (b36.mono lt3)).setCell (p := ⟨w3.heap.size, 0, none⟩) lt3 _
    have ob7 : Own (w3.heap.size + 1) W7 [.slice au0 (answersL (extD p 0 e0 es)).length cu0] (answersL (extD p 0 e0 es)) := by rw [← hW7]; exact (own_lo ob (Nat.succ_le_of_lt (Nat.lt_of_lt_of_le lA0 tq5.size))).setBelow (p := ⟨w3.heap.size, 0, none⟩) (Nat.lt_succ_self _) _
    have hq7 : Rd.R W7 [.int .i64 p.atoms, d1, d2, .bool p.projOn, d4, d5, .slice (some ⟨g0, 0, none⟩) (es.length + 1) n0, d7] (extD p 0 e0 es) := rd_ext hp3 BW7 (hget W7 ((hk7 _ hne3).trans (b6.block _ hl5)))
    have lA7 : w3.heap.size < W7.heap.size := by omega
    clear hq5 hget ob b6 b36 C5 hk7 hW7 s0 s1 s2 hfa hA6 CA6 tq5 hl5 lA6 hA0 BW0 tW0
    have hq7 := Rd.mono ((Below.refl W7.heap.size W7).drew) hq7
    have CA := (box_cells (cs := [.slice au0 (answersL (extD p 0 e0 es)).length cu0, .slice none 0 0, .slice none 0 0]) hA7).drew
    have C7 := C7.drew
    refine wp_region_held_drew (S := fun W' => W'.cell? ⟨w3.heap.size, 0, none⟩ = some (.slice au0 (answersL (extD p 0 e0 es)).length cu0) ∧ (W'.cell? ⟨W0.heap.size, 0, none⟩ = some (.int .i64 p.atoms) ∧ W'.cell? ⟨W0.heap.size, 1, none⟩ = some (d1) ∧ W'.cell? ⟨W0.heap.size, 2, none⟩ = some (d2) ∧ W'.cell? ⟨W0.heap.size, 3, none⟩ = some (.bool p.projOn) ∧ W'.cell? ⟨W0.heap.size, 4, none⟩ = some (d4) ∧ W'.cell? ⟨W0.heap.size, 5, none⟩ = some (d5) ∧ W'.cell? ⟨W0.heap.size, 6, none⟩ = some (.slice (some ⟨g0, 0, none⟩) (es.length + 1) n0) ∧ W'.cell? ⟨W0.heap.size, 7, none⟩ = some (d7))) (by kernel_rfl) ⟨CA.c0, cells8 C7⟩ (fun hHeld => ?_)
    refine tkY 0 (.int .i64 0) 47 rfl rfl (fun w' hw' => ?_) hHeld ?_
    ·first | (go_simp; done) | (obtain ⟨f1, ⟨r0, r1, r2, r3, r4, r5, r6, r7⟩⟩ := hw'; go_simp; done)
    try simp only [Act.put, put1, put2, put3]
    refine tkY 1 (.pointer (some ⟨w3.heap.size, 0, none⟩)) 48 rfl rfl (fun w' hw' => ?_) hHeld ?_
    ·first | (go_simp; done) | (obtain ⟨f1, ⟨r0, r1, r2, r3, r4, r5, r6, r7⟩⟩ := hw'; go_simp; done)
    try simp only [Act.put, put1, put2, put3]
    refine tkY 2 (.slice au0 (answersL (extD p 0 e0 es)).length cu0) 49 rfl rfl (fun w' hw' => ?_) hHeld ?_
    ·first | (go_simp; done) | (obtain ⟨f1, ⟨r0, r1, r2, r3, r4, r5, r6, r7⟩⟩ := hw'; go_simp; done)
    try simp only [Act.put, put1, put2, put3]
    refine tkY 3 (.agg #[.int .i64 p.atoms, d1, d2, .bool p.projOn, d4, d5, .slice (some ⟨g0, 0, none⟩) (es.length + 1) n0, d7]) 50 rfl rfl (fun w' hw' => ?_) hHeld ?_
    ·first | (go_simp; done) | (obtain ⟨f1, ⟨r0, r1, r2, r3, r4, r5, r6, r7⟩⟩ := hw'; go_simp; done)
    try simp only [Act.put, put1, put2, put3]
    refine wpAnyH_ready (rs := [4]) (by kernel_rfl) (by simp) ?_
    refine AllReadyH.cons rfl (fun K hK => ?_) AllReadyH.nil
    go_simp
    refine (specAnswers_calls hq7).mono ?_
    rintro e W8 ⟨u8, rfl, o8, b8⟩
    have bd := ((Below.refl W7.heap.size W7).drew).trans (b8.mono (Nat.le_refl _))
    refine hK.out _ _ ⟨(CA.later b8).c0, cells8 (C7.later b8)⟩ (fun hHeld => ?_)
    clear hK K
    try simp only [Act.put, put1, put2, put3]
    refine wpAnyH_ready (rs := [5]) (by kernel_rfl) (by simp) ?_
    refine AllReadyH.cons rfl (fun K hK => ?_) AllReadyH.nil
    go_simp
    refine (sameSets_calls (ob7.later bd).rd o8.rd).mono ?_
    rintro e W1 ⟨rfl, b9⟩
    have bd := bd.step b9
    refine hK.out _ _ ⟨((CA.later b8).later b9).c0, cells8 ((C7.later b8).later b9)⟩ (fun hHeld => ?_)
    clear hK K
    try simp only [Act.put, put1, put2, put3]
    refine tkY 6 (.bool false) 53 rfl rfl (fun w' hw' => ?_) hHeld ?_
    ·first | (go_simp; done) | (obtain ⟨f1, ⟨r0, r1, r2, r3, r4, r5, r6, r7⟩⟩ := hw'; go_simp; done)
    try simp only [Act.put, put1, put2, put3]
    refine wpAnyH_done (by kernel_rfl) ?_ _
    have o0 := ob7.later bd
    have BW1 := BW7.trans (bd.mono (Nat.le_of_lt lA7))
    have tW1 := tW7.step bd
    have hA1 := (bd.block w3.heap.size lA7).trans hA7
    have lA1 : w3.heap.size < W1.heap.size := Nat.lt_of_lt_of_le lA7 bd.size
    clear ob7 bd b8 b9 o8 hq7 C7 CA hA7 BW7 tW7 lA7 CX0 lw0 hne1 hne2 hne3 z7 hgQ
    go_wp2
    rw [rounds_succ]
    have CX1 := CX3.later BW1
    obtain ⟨y0, y1, y2, y3, y4, y5, y6, y7⟩ := cells8 CX1
    have lw1 := CX1.lt
    have hg := alloc_block (W1.alloc (.cells #[.int .i64 p.atoms, d1, d2, .bool p.projOn, d4, d5, .slice a6 p.exts.length k6, d7] 30)) #[] 67
    rw [World.size_alloc] at hg
    have tq1 := (Below.refl W1.heap.size W1).alloc (Nat.le_refl _) (.cells #[.int .i64 p.atoms, d1, d2, .bool p.projOn, d4, d5, .slice a6 p.exts.length k6, d7] 30)
    have tq2 := tq1.alloc tq1.size (.cells #[] 67)
    obtain ⟨g1, n1, v4, r4, hgo, hgr, ⟨uo, hco⟩, hfz, hlg, hput⟩ := ext_copy (ty := 28) hg HEX.out (Rd.mono (α := List (Int × Int)) tq2 (Rd.mono (α := List (Int × Int)) BW1 hx6)) hel
    have zq2 : ((W1.alloc (.cells #[.int .i64 p.atoms, d1, d2, .bool p.projOn, d4, d5, .slice a6 p.exts.length k6, d7] 30)).alloc (.cells #[] 67)).heap.size = W1.heap.size + 2 := by simp
    rw [zq2] at hgo
    have hne1 : ¬ (g1 = W1.heap.size) := by omega
    have hne2 : ¬ (W1.heap.size = g1) := by omega
    have hne3 : ¬ (g1 = w3.heap.size) := by omega
    have hgQ : W1.heap.size ≤ g1 := by omega
    have b4 : Below (W1.heap.size + 1) ((W1.alloc (.cells #[.int .i64 p.atoms, d1, d2, .bool p.projOn, d4, d5, .slice a6 p.exts.length k6, d7] 30)).alloc (.cells #[] 67)) v4 := (Below.refl _ _).grown hgr (by omega) (fun k hk => by cases hk; exact Nat.le_refl _)
    have hQ4 := (b4.block W1.heap.size (by omega)).trans ((Below.heap_alloc _ (.cells #[] 67) W1.heap.size (by simp)).trans (alloc_block W1 #[.int .i64 p.atoms, d1, d2, .bool p.projOn, d4, d5, .slice a6 p.exts.length k6, d7] 30))
    obtain ⟨z0, z1, z2, z3, z4, z5, z6, z7⟩ := cells8 (box_cells (cs := [.int .i64 p.atoms, d1, d2, .bool p.projOn, d4, d5, .slice a6 p.exts.length k6, d7]) hQ4)
    have hfq := fun j => frozen_of_row v4 W1.heap.size j _ _ hQ4
    have tq4 : Below W1.heap.size W1 v4 := tq2.trans (b4.mono (by omega))
    have hlq := block_lt hQ4
    have HPUT := Lib.hid hput
    clear hput hgr b4 hg hgo
    go_wp2_with (at_builtin; refine wpList_append_of rfl _ _ rfl rfl rfl r4 ?_)
    generalize hW5 : World.setCell (World.setCell v4 _ _) _ _ = x5
    have hQ5 : x5.heap[W1.heap.size]? = some (.cells #[.int .i64 p.atoms, d1, d2, .bool p.projOn, d4, d5, .slice (some ⟨g1, 0, none⟩) (es.length + 1) n1, d7] 30 (0, 0)) := by rw [← hW5]; exact (Below.heap_setCell _ _ _ _ hne2).trans (box_set (cs := [.int .i64 p.atoms, d1, d2, .bool p.projOn, d4, d5, .slice a6 p.exts.length k6, d7]) hQ4 _)
    have C5 : Cells x5 W1.heap.size 0 [.int .i64 p.atoms, d1, d2, .bool p.projOn, d4, d5, .slice (some ⟨g1, 0, none⟩) (es.length + 1) n1, d7] := box_cells (cs := [.int .i64 p.atoms, d1, d2, .bool p.projOn, d4, d5, .slice (some ⟨g1, 0, none⟩) (es.length + 1) n1, d7]) hQ5
    have tq5 : Below W1.heap.size W1 x5 := by rw [← hW5]; exact (tq4.setCell (p := ⟨W1.heap.size, 6, none⟩) (Nat.le_refl _) _).setCell (p := ⟨g1, 1, none⟩) (show W1.heap.size ≤ g1 from hgQ) _
    have hg5 : x5.heap[g1]? = ((v4.setCell ⟨W1.heap.size, 6, none⟩ (.slice (some ⟨g1, 0, none⟩) (es.length + 1) n1)).setCell ⟨g1, 1, none⟩ (.int .i64 1)).heap[g1]? := by rw [← hW5]
    have hget : ∀ wz : World, wz.heap[g1]? = x5.heap[g1]? → RdL wz [.slice (some ⟨g1, 0, none⟩) (es.length + 1) n1] ((e0.1, 1) :: es) := fun wz hwz => HPUT.out _ (Below.heap_setCell _ _ _ _ hne1) 1 ⟨by omega, by omega⟩ wz (hwz.trans hg5)
    have hl5 : g1 < x5.heap.size := by have h1 := tq5.size; rw [← hW5]; simpa using hlg
    have hq5 : Rd.R x5 [.int .i64 p.atoms, d1, d2, .bool p.projOn, d4, d5, .slice (some ⟨g1, 0, none⟩) (es.length + 1) n1, d7] (extD p 1 e0 es) := rd_ext hp3 (BW1.trans (tq5.mono (by omega))) (hget x5 rfl)
    clear z0 z1 z2 z3 z4 z5 z6 z7 y0 y1 y2 y3 y4 y5 y6 y7 hfq hco hfz hlg r4 tq1 tq2 tq4 zq2 hQ4 hQ5 hlq HPUT hg5 hW5
    refine (implAnswers_calls hq5).mono ?_
    rintro e W6 ⟨u, rfl, ob, b6⟩
    obtain ⟨au1, cu1, rfl, -, -⟩ := ob.rd.sl
    have hA6 := (b6.block w3.heap.size (Nat.lt_of_lt_of_le lA1 tq5.size)).trans ((tq5.block w3.heap.size lA1).trans hA1)
    have CA6 := box_cells (cs := [.slice au0 (answersL (extD p 0 e0 es)).length cu0, .slice none 0 0, .slice none 0 0]) hA6
    have s0 := CA6.c0
    have s1 := CA6.c1
    have s2 := CA6.c2
    have hfa := fun j => frozen_of_row W6 w3.heap.size j _ _ hA6
    have lA6 := block_lt hA6
    go_upto_region 14 with fail
    generalize hW7 : W6.setCell _ _ = W7
    have hA7 : W7.heap[w3.heap.size]? = some (.cells #[.slice au0 (answersL (extD p 0 e0 es)).length cu0, .slice au1 (answersL (extD p 1 e0 es)).length cu1, .slice none 0 0] 65 (0, 0)) := by rw [← hW7]; exact box_set (cs := [.slice au0 (answersL (extD p 0 e0 es)).length cu0, .slice none 0 0, .slice none 0 0]) hA6 _
    have hk7 : ∀ k, k ≠ w3.heap.size → W7.heap[k]? = W6.heap[k]? := fun k hk => by rw [← hW7]; exact Below.heap_setCell _ _ _ _ hk
    have z7 : W7.heap.size = W6.heap.size := by rw [← hW7]; simp [World.setCell]
    have C7 : Cells W7 W1.heap.size 0 [.int .i64 p.atoms, d1, d2, .bool p.projOn, d4, d5, .slice (some ⟨g1, 0, none⟩) (es.length + 1) n1, d7] := (C5.later b6).kept (hk7 _ (by omega))
    have b36 : Below w3.heap.size W1 W6 := (tq5.mono (Nat.le_of_lt lA1)).trans (b6.mono (Nat.le_trans (Nat.le_of_lt lA1) tq5.size))
    have BW7 : Below w3.heap.size w3 W7 := by rw [← hW7]; exact (BW1.trans b36).setCell (p := ⟨w3.heap.size, 1, none⟩) (Nat.le_refl _) _
    have tW7 : Below w.heap.size w W7 := by rw [← hW7]; exact (tW1.trans (b36.mono lt3)).setCell (p := ⟨w3.heap.size, 1, none⟩) lt3 _
    have ob7 : Own (w3.heap.size + 1) W7 [.slice au1 (answersL (extD p 1 e0 es)).length cu1] (answersL (extD p 1 e0 es)) := by rw [← hW7]; exact (own_lo ob (Nat.succ_le_of_lt (Nat.lt_of_lt_of_le lA1 tq5.size))).setBelow (p := ⟨w3.heap.size, 1, none⟩) (Nat.lt_succ_self _) _
    have o0 : Own (w3.heap.size + 1) W7 [.slice au0 (answersL (extD p 0 e0 es)).length cu0] (answersL (extD p 0 e0 es)) := by rw [← hW7]; exact ((o0.later tq5).later b6).setBelow (p := ⟨w3.heap.size, 1, none⟩) (Nat.lt_succ_self _) _
    have hq7 : Rd.R W7 [.int .i64 p.atoms, d1, d2, .bool p.projOn, d4, d5, .slice (some ⟨g1, 0, none⟩) (es.length + 1) n1, d7] (extD p 1 e0 es) := rd_ext hp3 BW7 (hget W7 ((hk7 _ hne3).trans (b6.block _ hl5)))
    have lA7 : w3.heap.size < W7.heap.size := by omega
    clear hq5 hget ob b6 b36 C5 hk7 hW7 s0 s1 s2 hfa hA6 CA6 tq5 hl5 lA6 hA1 BW1 tW1
    have hq7 := Rd.mono ((Below.refl W7.heap.size W7).drew) hq7
    have CA := (box_cells (cs := [.slice au0 (answersL (extD p 0 e0 es)).length cu0, .slice au1 (answersL (extD p 1 e0 es)).length cu1, .slice none 0 0]) hA7).drew
    have C7 := C7.drew
    refine wp_region_held_drew (S := fun W' => W'.cell? ⟨w3.heap.size, 1, none⟩ = some (.slice au1 (answersL (extD p 1 e0 es)).length cu1) ∧ (W'.cell? ⟨W1.heap.size, 0, none⟩ = some (.int .i64 p.atoms) ∧ W'.cell? ⟨W1.heap.size, 1, none⟩ = some (d1) ∧ W'.cell? ⟨W1.heap.size, 2, none⟩ = some (d2) ∧ W'.cell? ⟨W1.heap.size, 3, none⟩ = some (.bool p.projOn) ∧ W'.cell? ⟨W1.heap.size, 4, none⟩ = some (d4) ∧ W'.cell? ⟨W1.heap.size, 5, none⟩ = some (d5) ∧ W'.cell? ⟨W1.heap.size, 6, none⟩ = some (.slice (some ⟨g1, 0, none⟩) (es.length + 1) n1) ∧ W'.cell? ⟨W1.heap.size, 7, none⟩ = some (d7))) (by kernel_rfl) ⟨CA.c1, cells8 C7⟩ (fun hHeld => ?_)
    refine tkY 0 (.int .i64 1) 47 rfl rfl (fun w' hw' => ?_) hHeld ?_
    ·first | (go_simp; done) | (obtain ⟨f1, ⟨r0, r1, r2, r3, r4, r5, r6, r7⟩⟩ := hw'; go_simp; done)
    try simp only [Act.put, put1, put2, put3]
    refine tkY 1 (.pointer (some ⟨w3.heap.size, 1, none⟩)) 48 rfl rfl (fun w' hw' => ?_) hHeld ?_
    ·first | (go_simp; done) | (obtain ⟨f1, ⟨r0, r1, r2, r3, r4, r5, r6, r7⟩⟩ := hw'; go_simp; done)
    try simp only [Act.put, put1, put2, put3]
    refine tkY 2 (.slice au1 (answersL (extD p 1 e0 es)).length cu1) 49 rfl rfl (fun w' hw' => ?_) hHeld ?_
    ·first | (go_simp; done) | (obtain ⟨f1, ⟨r0, r1, r2, r3, r4, r5, r6, r7⟩⟩ := hw'; go_simp; done)
    try simp only [Act.put, put1, put2, put3]
    refine tkY 3 (.agg #[.int .i64 p.atoms, d1, d2, .bool p.projOn, d4, d5, .slice (some ⟨g1, 0, none⟩) (es.length + 1) n1, d7]) 50 rfl rfl (fun w' hw' => ?_) hHeld ?_
    ·first | (go_simp; done) | (obtain ⟨f1, ⟨r0, r1, r2, r3, r4, r5, r6, r7⟩⟩ := hw'; go_simp; done)
    try simp only [Act.put, put1, put2, put3]
    refine wpAnyH_ready (rs := [4]) (by kernel_rfl) (by simp) ?_
    refine AllReadyH.cons rfl (fun K hK => ?_) AllReadyH.nil
    go_simp
    refine (specAnswers_calls hq7).mono ?_
    rintro e W8 ⟨u8, rfl, o8, b8⟩
    have bd := ((Below.refl W7.heap.size W7).drew).trans (b8.mono (Nat.le_refl _))
    refine hK.out _ _ ⟨(CA.later b8).c1, cells8 (C7.later b8)⟩ (fun hHeld => ?_)
    clear hK K
    try simp only [Act.put, put1, put2, put3]
    refine wpAnyH_ready (rs := [5]) (by kernel_rfl) (by simp) ?_
    refine AllReadyH.cons rfl (fun K hK => ?_) AllReadyH.nil
    go_simp
    refine (sameSets_calls (ob7.later bd).rd o8.rd).mono ?_
    rintro e W2 ⟨rfl, b9⟩
    have bd := bd.step b9
    refine hK.out _ _ ⟨((CA.later b8).later b9).c1, cells8 ((C7.later b8).later b9)⟩ (fun hHeld => ?_)
    clear hK K
    try simp only [Act.put, put1, put2, put3]
    refine tkY 6 (.bool false) 53 rfl rfl (fun w' hw' => ?_) hHeld ?_
    ·first | (go_simp; done) | (obtain ⟨f1, ⟨r0, r1, r2, r3, r4, r5, r6, r7⟩⟩ := hw'; go_simp; done)
    try simp only [Act.put, put1, put2, put3]
    refine wpAnyH_done (by kernel_rfl) ?_ _
    have o1 := ob7.later bd
    have o0 := o0.later bd
    have BW2 := BW7.trans (bd.mono (Nat.le_of_lt lA7))
    have tW2 := tW7.step bd
    have hA2 := (bd.block w3.heap.size lA7).trans hA7
    have lA2 : w3.heap.size < W2.heap.size := Nat.lt_of_lt_of_le lA7 bd.size
    clear ob7 bd b8 b9 o8 hq7 C7 CA hA7 BW7 tW7 lA7 CX1 lw1 hne1 hne2 hne3 z7 hgQ
    go_wp2
    rw [rounds_succ]
    have CX2 := CX3.later BW2
    obtain ⟨y0, y1, y2, y3, y4, y5, y6, y7⟩ := cells8 CX2
    have lw2 := CX2.lt
    have hg := alloc_block (W2.alloc (.cells #[.int .i64 p.atoms, d1, d2, .bool p.projOn, d4, d5, .slice a6 p.exts.length k6, d7] 30)) #[] 67
    rw [World.size_alloc] at hg
    have tq1 := (Below.refl W2.heap.size W2).alloc (Nat.le_refl _) (.cells #[.int .i64 p.atoms, d1, d2, .bool p.projOn, d4, d5, .slice a6 p.exts.length k6, d7] 30)
    have tq2 := tq1.alloc tq1.size (.cells #[] 67)
    obtain ⟨g2, n2, v4, r4, hgo, hgr, ⟨uo, hco⟩, hfz, hlg, hput⟩ := ext_copy (ty := 28) hg HEX.out (Rd.mono (α := List (Int × Int)) tq2 (Rd.mono (α := List (Int × Int)) BW2 hx6)) hel
    have zq2 : ((W2.alloc (.cells #[.int .i64 p.atoms, d1, d2, .bool p.projOn, d4, d5, .slice a6 p.exts.length k6, d7] 30)).alloc (.cells #[] 67)).heap.size = W2.heap.size + 2 := by simp
    rw [zq2] at hgo
    have hne1 : ¬ (g2 = W2.heap.size) := by omega
    have hne2 : ¬ (W2.heap.size = g2) := by omega
    have hne3 : ¬ (g2 = w3.heap.size) := by omega
    have hgQ : W2.heap.size ≤ g2 := by omega
    have b4 : Below (W2.heap.size + 1) ((W2.alloc (.cells #[.int .i64 p.atoms, d1, d2, .bool p.projOn, d4, d5, .slice a6 p.exts.length k6, d7] 30)).alloc (.cells #[] 67)) v4 := (Below.refl _ _).grown hgr (by omega) (fun k hk => by cases hk; exact Nat.le_refl _)
    have hQ4 := (b4.block W2.heap.size (by omega)).trans ((Below.heap_alloc _ (.cells #[] 67) W2.heap.size (by simp)).trans (alloc_block W2 #[.int .i64 p.atoms, d1, d2, .bool p.projOn, d4, d5, .slice a6 p.exts.length k6, d7] 30))
    obtain ⟨z0, z1, z2, z3, z4, z5, z6, z7⟩ := cells8 (box_cells (cs := [.int .i64 p.atoms, d1, d2, .bool p.projOn, d4, d5, .slice a6 p.exts.length k6, d7]) hQ4)
    have hfq := fun j => frozen_of_row v4 W2.heap.size j _ _ hQ4
    have tq4 : Below W2.heap.size W2 v4 := tq2.trans (b4.mono (by omega))
    have hlq := block_lt hQ4
    have HPUT := Lib.hid hput
    clear hput hgr b4 hg hgo
    go_wp2_with (at_builtin; refine wpList_append_of rfl _ _ rfl rfl rfl r4 ?_)
    generalize hW5 : World.setCell (World.setCell v4 _ _) _ _ = x5
    have hQ5 : x5.heap[W2.heap.size]? = some (.cells #[.int .i64 p.atoms, d1, d2, .bool p.projOn, d4, d5, .slice (some ⟨g2, 0, none⟩) (es.length + 1) n2, d7] 30 (0, 0)) := by rw [← hW5]; exact (Below.heap_setCell _ _ _ _ hne2).trans (box_set (cs := [.int .i64 p.atoms, d1, d2, .bool p.projOn, d4, d5, .slice a6 p.exts.length k6, d7]) hQ4 _)
    have C5 : Cells x5 W2.heap.size 0 [.int .i64 p.atoms, d1, d2, .bool p.projOn, d4, d5, .slice (some ⟨g2, 0, none⟩) (es.length + 1) n2, d7] := box_cells (cs := [.int .i64 p.atoms, d1, d2, .bool p.projOn, d4, d5, .slice (some ⟨g2, 0, none⟩) (es.length + 1) n2, d7]) hQ5
    have tq5 : Below W2.heap.size W2 x5 := by rw [← hW5]; exact (tq4.setCell (p := ⟨W2.heap.size, 6, none⟩) (Nat.le_refl _) _).setCell (p := ⟨g2, 1, none⟩) (show W2.heap.size ≤ g2 from hgQ) _
    have hg5 : x5.heap[g2]? = ((v4.setCell ⟨W2.heap.size, 6, none⟩ (.slice (some ⟨g2, 0, none⟩) (es.length + 1) n2)).setCell ⟨g2, 1, none⟩ (.int .i64 2)).heap[g2]? := by rw [← hW5]
    have hget : ∀ wz : World, wz.heap[g2]? = x5.heap[g2]? → RdL wz [.slice (some ⟨g2, 0, none⟩) (es.length + 1) n2] ((e0.1, 2) :: es) := fun wz hwz => HPUT.out _ (Below.heap_setCell _ _ _ _ hne1) 2 ⟨by omega, by omega⟩ wz (hwz.trans hg5)
    have hl5 : g2 < x5.heap.size := by have h1 := tq5.size; rw [← hW5]; simpa using hlg
    have hq5 : Rd.R x5 [.int .i64 p.atoms, d1, d2, .bool p.projOn, d4, d5, .slice (some ⟨g2, 0, none⟩) (es.length + 1) n2, d7] (extD p 2 e0 es) := rd_ext hp3 (BW2.trans (tq5.mono (by omega))) (hget x5 rfl)
    clear z0 z1 z2 z3 z4 z5 z6 z7 y0 y1 y2 y3 y4 y5 y6 y7 hfq hco hfz hlg r4 tq1 tq2 tq4 zq2 hQ4 hQ5 hlq HPUT hg5 hW5
    refine (implAnswers_calls hq5).mono ?_
    rintro e W6 ⟨u, rfl, ob, b6⟩
    obtain ⟨au2, cu2, rfl, -, -⟩ := ob.rd.sl
    have hA6 := (b6.block w3.heap.size (Nat.lt_of_lt_of_le lA2 tq5.size)).trans ((tq5.block w3.heap.size lA2).trans hA2)
    have CA6 := box_cells (cs := [.slice au0 (answersL (extD p 0 e0 es)).length cu0, .slice au1 (answersL (extD p 1 e0 es)).length cu1, .slice none 0 0]) hA6
    have s0 := CA6.c0
    have s1 := CA6.c1
    have s2 := CA6.c2
    have hfa := fun j => frozen_of_row W6 w3.heap.size j _ _ hA6
    have lA6 := block_lt hA6
    go_upto_region 14 with fail
    generalize hW7 : W6.setCell _ _ = W7
    have hA7 : W7.heap[w3.heap.size]? = some (.cells #[.slice au0 (answersL (extD p 0 e0 es)).length cu0, .slice au1 (answersL (extD p 1 e0 es)).length cu1, .slice au2 (answersL (extD p 2 e0 es)).length cu2] 65 (0, 0)) := by rw [← hW7]; exact box_set (cs := [.slice au0 (answersL (extD p 0 e0 es)).length cu0, .slice au1 (answersL (extD p 1 e0 es)).length cu1, .slice none 0 0]) hA6 _
    have hk7 : ∀ k, k ≠ w3.heap.size → W7.heap[k]? = W6.heap[k]? := fun k hk => by rw [← hW7]; exact Below.heap_setCell _ _ _ _ hk
    have z7 : W7.heap.size = W6.heap.size := by rw [← hW7]; simp [World.setCell]
    have C7 : Cells W7 W2.heap.size 0 [.int .i64 p.atoms, d1, d2, .bool p.projOn, d4, d5, .slice (some ⟨g2, 0, none⟩) (es.length + 1) n2, d7] := (C5.later b6).kept (hk7 _ (by omega))
    have b36 : Below w3.heap.size W2 W6 := (tq5.mono (Nat.le_of_lt lA2)).trans (b6.mono (Nat.le_trans (Nat.le_of_lt lA2) tq5.size))
    have BW7 : Below w3.heap.size w3 W7 := by rw [← hW7]; exact (BW2.trans b36).setCell (p := ⟨w3.heap.size, 2, none⟩) (Nat.le_refl _) _
    have tW7 : Below w.heap.size w W7 := by rw [← hW7]; exact (tW2.trans (b36.mono lt3)).setCell (p := ⟨w3.heap.size, 2, none⟩) lt3 _
    have ob7 : Own (w3.heap.size + 1) W7 [.slice au2 (answersL (extD p 2 e0 es)).length cu2] (answersL (extD p 2 e0 es)) := by rw [← hW7]; exact (own_lo ob (Nat.succ_le_of_lt (Nat.lt_of_lt_of_le lA2 tq5.size))).setBelow (p := ⟨w3.heap.size, 2, none⟩) (Nat.lt_succ_self _) _
    have o0 : Own (w3.heap.size + 1) W7 [.slice au0 (answersL (extD p 0 e0 es)).length cu0] (answersL (extD p 0 e0 es)) := by rw [← hW7]; exact ((o0.later tq5).later b6).setBelow (p := ⟨w3.heap.size, 2, none⟩) (Nat.lt_succ_self _) _
    have o1 : Own (w3.heap.size + 1) W7 [.slice au1 (answersL (extD p 1 e0 es)).length cu1] (answersL (extD p 1 e0 es)) := by rw [← hW7]; exact ((o1.later tq5).later b6).setBelow (p := ⟨w3.heap.size, 2, none⟩) (Nat.lt_succ_self _) _
    have hq7 : Rd.R W7 [.int .i64 p.atoms, d1, d2, .bool p.projOn, d4, d5, .slice (some ⟨g2, 0, none⟩) (es.length + 1) n2, d7] (extD p 2 e0 es) := rd_ext hp3 BW7 (hget W7 ((hk7 _ hne3).trans (b6.block _ hl5)))
    have lA7 : w3.heap.size < W7.heap.size := by omega
    clear hq5 hget ob b6 b36 C5 hk7 hW7 s0 s1 s2 hfa hA6 CA6 tq5 hl5 lA6 hA2 BW2 tW2
    have hq7 := Rd.mono ((Below.refl W7.heap.size W7).drew) hq7
    have CA := (box_cells (cs := [.slice au0 (answersL (extD p 0 e0 es)).length cu0, .slice au1 (answersL (extD p 1 e0 es)).length cu1, .slice au2 (answersL (extD p 2 e0 es)).length cu2]) hA7).drew
    have C7 := C7.drew
    refine wp_region_held_drew (S := fun W' => W'.cell? ⟨w3.heap.size, 2, none⟩ = some (.slice au2 (answersL (extD p 2 e0 es)).length cu2) ∧ (W'.cell? ⟨W2.heap.size, 0, none⟩ = some (.int .i64 p.atoms) ∧ W'.cell? ⟨W2.heap.size, 1, none⟩ = some (d1) ∧ W'.cell? ⟨W2.heap.size, 2, none⟩ = some (d2) ∧ W'.cell? ⟨W2.heap.size, 3, none⟩ = some (.bool p.projOn) ∧ W'.cell? ⟨W2.heap.size, 4, none⟩ = some (d4) ∧ W'.cell? ⟨W2.heap.size, 5, none⟩ = some (d5) ∧ W'.cell? ⟨W2.heap.size, 6, none⟩ = some (.slice (some ⟨g2, 0, none⟩) (es.length + 1) n2) ∧ W'.cell? ⟨W2.heap.size, 7, none⟩ = some (d7))) (by kernel_rfl) ⟨CA.c2, cells8 C7⟩ (fun hHeld => ?_)
    refine tkY 0 (.int .i64 2) 47 rfl rfl (fun w' hw' => ?_) hHeld ?_
    ·first | (go_simp; done) | (obtain ⟨f1, ⟨r0, r1, r2, r3, r4, r5, r6, r7⟩⟩ := hw'; go_simp; done)
    try simp only [Act.put, put1, put2, put3]
    refine tkY 1 (.pointer (some ⟨w3.heap.size, 2, none⟩)) 48 rfl rfl (fun w' hw' => ?_) hHeld ?_
    ·first | (go_simp; done) | (obtain ⟨f1, ⟨r0, r1, r2, r3, r4, r5, r6, r7⟩⟩ := hw'; go_simp; done)
    try simp only [Act.put, put1, put2, put3]
    refine tkY 2 (.slice au2 (answersL (extD p 2 e0 es)).length cu2) 49 rfl rfl (fun w' hw' => ?_) hHeld ?_
    ·first | (go_simp; done) | (obtain ⟨f1, ⟨r0, r1, r2, r3, r4, r5, r6, r7⟩⟩ := hw'; go_simp; done)
    try simp only [Act.put, put1, put2, put3]
    refine tkY 3 (.agg #[.int .i64 p.atoms, d1, d2, .bool p.projOn, d4, d5, .slice (some ⟨g2, 0, none⟩) (es.length + 1) n2, d7]) 50 rfl rfl (fun w' hw' => ?_) hHeld ?_
    ·first | (go_simp; done) | (obtain ⟨f1, ⟨r0, r1, r2, r3, r4, r5, r6, r7⟩⟩ := hw'; go_simp; done)
    try simp only [Act.put, put1, put2, put3]
    refine wpAnyH_ready (rs := [4]) (by kernel_rfl) (by simp) ?_
    refine AllReadyH.cons rfl (fun K hK => ?_) AllReadyH.nil
    go_simp
    refine (specAnswers_calls hq7).mono ?_
    rintro e W8 ⟨u8, rfl, o8, b8⟩
    have bd := ((Below.refl W7.heap.size W7).drew).trans (b8.mono (Nat.le_refl _))
    refine hK.out _ _ ⟨(CA.later b8).c2, cells8 (C7.later b8)⟩ (fun hHeld => ?_)
    clear hK K
    try simp only [Act.put, put1, put2, put3]
    refine wpAnyH_ready (rs := [5]) (by kernel_rfl) (by simp) ?_
    refine AllReadyH.cons rfl (fun K hK => ?_) AllReadyH.nil
    go_simp
    refine (sameSets_calls (ob7.later bd).rd o8.rd).mono ?_
    rintro e W3 ⟨rfl, b9⟩
    have bd := bd.step b9
    refine hK.out _ _ ⟨((CA.later b8).later b9).c2, cells8 ((C7.later b8).later b9)⟩ (fun hHeld => ?_)
    clear hK K
    try simp only [Act.put, put1, put2, put3]
    refine tkY 6 (.bool false) 53 rfl rfl (fun w' hw' => ?_) hHeld ?_
    ·first | (go_simp; done) | (obtain ⟨f1, ⟨r0, r1, r2, r3, r4, r5, r6, r7⟩⟩ := hw'; go_simp; done)
    try simp only [Act.put, put1, put2, put3]
    refine wpAnyH_done (by kernel_rfl) ?_ _
    have o2 := ob7.later bd
    have o0 := o0.later bd
    have o1 := o1.later bd
    have BW3 := BW7.trans (bd.mono (Nat.le_of_lt lA7))
    have tW3 := tW7.step bd
    have hA3 := (bd.block w3.heap.size lA7).trans hA7
    have lA3 : w3.heap.size < W3.heap.size := Nat.lt_of_lt_of_le lA7 bd.size
    clear ob7 bd b8 b9 o8 hq7 C7 CA hA7 BW7 tW7 lA7 CX2 lw2 hne1 hne2 hne3 z7 hgQ
    go_wp2
    rw [rounds_succ]
    go_wp2
    have HL0 := Lib.hid HL.out.1
    have HL1 := Lib.hid HL.out.2.1
    have HL2 := Lib.hid HL.out.2.2
    clear HL HEX hel HFV hp3 CX3 hx6 BW3 hen
    have bl0 := ans_lenO (extD p 0 e0 es)
    have bl1 := ans_lenO (extD p 1 e0 es)
    have bl2 := ans_lenO (extD p 2 e0 es)
    have R0 := o0.rd
    have R1 := o1.rd
    have R2 := o2.rd
    clear o0 o1 o2
    generalize answersL (extD p 0 e0 es) = L0 at *
    generalize answersL (extD p 1 e0 es) = L1 at *
    generalize answersL (extD p 2 e0 es) = L2 at *
    have CAr := box_cells (cs := [.slice au0 L0.length cu0, .slice au1 L1.length cu1, .slice au2 L2.length cu2]) hA3
    obtain ⟨_, _, ee0, _, rr0⟩ := R0.sl
    obtain ⟨_, _, ee1, _, rr1⟩ := R1.sl
    obtain ⟨_, _, ee2, _, rr2⟩ := R2.sl
    cases ee0
    cases ee1
    cases ee2
    go_loopw [7] (fun i wr => ∃ k : Nat, k ≤ L0.length ∧ i = .int .i64 (k : Int) ∧ Below W3.heap.size W3 wr) (fun i _ => L0.length - (intOf i).toNat)
    case atStart => exact ⟨0, Nat.zero_le _, rfl, Below.refl _ _⟩
    case round =>
     obtain ⟨k, hk, rfl, hb⟩ := hrel
     have CAw := CAr.later hb
     have s0 := CAw.c0
     have s1 := CAw.c1
     have s2 := CAw.c2
     by_cases hlt : k < L0.length
     ·obtain ⟨bL, oL, rfl, hcL⟩ := rr0.base (by omega)
      obtain ⟨ecs, hC, hR⟩ := hcL k hlt
      obtain ⟨ax, nx, rfl, hax, hnx, hRx⟩ : RdL W3 ecs (nth L0 k) := hR
      rw [show Rd.k (List Int) = 1 from rfl, Nat.mul_one] at hC
      have hki : (k : Int) < (L0.length : Int) := by omega
      have HM := Lib.hid (HL0.out _ (nth_mem hlt))
      have hRu : RdL W3 [.slice ax (nth L0 k).length nx] (nth L0 k) := ⟨ax, nx, rfl, hax, hnx, hRx⟩
      clear hcL hRx
      generalize nth L0 k = x at *
      go_upto_region 19 with fail
      have hbd := hb.drew
      have CAd := CAr.later hbd
      have CXd := hC.later hbd
      have r1d := Rd.mono (α := List (List Int)) hbd R1
      have r2d := Rd.mono (α := List (List Int)) hbd R2
      have rxd := Rd.mono (α := List Int) hbd hRu
      clear s0 s1 s2
      refine wp_region_held_drew (S := fun W' => W'.cell? ⟨w3.heap.size, 0, none⟩ = some (.slice (some ⟨bL, oL, none⟩) L0.length cu0) ∧ W'.cell? ⟨w3.heap.size, 1, none⟩ = some (.slice au1 L1.length cu1) ∧ W'.cell? ⟨w3.heap.size, 2, none⟩ = some (.slice au2 L2.length cu2) ∧ W'.cell? ⟨bL, oL + k, none⟩ = some (.slice ax x.length nx)) (by kernel_rfl) ⟨CAd.c0, CAd.c1, CAd.c2, CXd.c0⟩ (fun hHeld => ?_)
      generalize wr.drew = wd at *
      refine tkY 0 (.pointer (some ⟨w3.heap.size, 1, none⟩)) 61 rfl rfl (fun w' hw' => ?_) hHeld ?_
      ·first | (go_simp; done) | (obtain ⟨s0, s1, s2, s3⟩ := hw'; go_simp; done)
      try simp only [Act.put, put1, put2, put3]
      refine tkY 1 (.slice au1 L1.length cu1) 62 rfl rfl (fun w' hw' => ?_) hHeld ?_
      ·first | (go_simp; done) | (obtain ⟨s0, s1, s2, s3⟩ := hw'; go_simp; done)
      try simp only [Act.put, put1, put2, put3]
      refine tkY 2 (.pointer (some ⟨w3.heap.size, 0, none⟩)) 63 rfl rfl (fun w' hw' => ?_) hHeld ?_
      ·first | (go_simp; done) | (obtain ⟨s0, s1, s2, s3⟩ := hw'; go_simp; done)
      try simp only [Act.put, put1, put2, put3]
      refine tkY 3 (.slice (some ⟨bL, oL, none⟩) L0.length cu0) 64 rfl rfl (fun w' hw' => ?_) hHeld ?_
      ·first | (go_simp; done) | (obtain ⟨s0, s1, s2, s3⟩ := hw'; go_simp; done)
      try simp only [Act.put, put1, put2, put3]
      refine tkY 4 (.int .i64 (k : Int)) 65 rfl rfl (fun w' hw' => ?_) hHeld ?_
      ·first | (go_simp; done) | (obtain ⟨s0, s1, s2, s3⟩ := hw'; go_simp; done)
      try simp only [Act.put, put1, put2, put3]
      refine tkY 5 (.pointer (some ⟨bL, oL + k, none⟩)) 66 rfl rfl (fun w' hw' => ?_) hHeld ?_
      ·first | (go_simp; done) | (obtain ⟨s0, s1, s2, s3⟩ := hw'; go_simp; done)
      try simp only [Act.put, put1, put2, put3]
      refine tkY 6 (.pointer (some ⟨bL, oL + k, none⟩)) 67 rfl rfl (fun w' hw' => ?_) hHeld ?_
      ·first | (go_simp; done) | (obtain ⟨s0, s1, s2, s3⟩ := hw'; go_simp; done)
      try simp only [Act.put, put1, put2, put3]
      refine tkY 7 (.slice ax x.length nx) 68 rfl rfl (fun w' hw' => ?_) hHeld ?_
      ·first | (go_simp; done) | (obtain ⟨s0, s1, s2, s3⟩ := hw'; go_simp; done)
      try simp only [Act.put, put1, put2, put3]
      refine wpAnyH_ready (rs := [8]) (by kernel_rfl) (by simp) ?_
      refine AllReadyH.cons rfl (fun K hK => ?_) AllReadyH.nil
      go_simp
      refine (lawHas_calls r1d rxd).mono ?_
      rintro e v5 ⟨rfl, b5⟩
      have hb5 := hbd.step b5
      refine hK.out _ _ ⟨(CAr.later hb5).c0, (CAr.later hb5).c1, (CAr.later hb5).c2, (hC.later hb5).c0⟩ (fun hHeld => ?_)
      clear hK K
      try simp only [Act.put, put1, put2, put3]
      cases hi1 : decide (x ∈ L1)
      ·have hi2 : decide (x ∈ L2) = true := by
        rcases HM.out with h9 | h9
        ·exact absurd h9 (of_decide_eq_false hi1)
        ·exact decide_eq_true h9
       refine tkY 9 (.bool true) 70 rfl rfl (fun w' hw' => ?_) hHeld ?_
       ·first | (go_simp; done) | (obtain ⟨s0, s1, s2, s3⟩ := hw'; go_simp; done)
       try simp only [Act.put, put1, put2, put3]
       refine tkY 10 (.bool true) 71 rfl rfl (fun w' hw' => ?_) hHeld ?_
       ·first | (go_simp; done) | (obtain ⟨s0, s1, s2, s3⟩ := hw'; go_simp; done)
       try simp only [Act.put, put1, put2, put3]
       refine tkY 11 (.pointer (some ⟨w3.heap.size, 2, none⟩)) 72 rfl rfl (fun w' hw' => ?_) hHeld ?_
       ·first | (go_simp; done) | (obtain ⟨s0, s1, s2, s3⟩ := hw'; go_simp; done)
       try simp only [Act.put, put1, put2, put3]
       refine tkY 12 (.slice au2 L2.length cu2) 73 rfl rfl (fun w' hw' => ?_) hHeld ?_
       ·first | (go_simp; done) | (obtain ⟨s0, s1, s2, s3⟩ := hw'; go_simp; done)
       try simp only [Act.put, put1, put2, put3]
       refine tkY 13 (.pointer (some ⟨w3.heap.size, 0, none⟩)) 74 rfl rfl (fun w' hw' => ?_) hHeld ?_
       ·first | (go_simp; done) | (obtain ⟨s0, s1, s2, s3⟩ := hw'; go_simp; done)
       try simp only [Act.put, put1, put2, put3]
       refine tkY 14 (.slice (some ⟨bL, oL, none⟩) L0.length cu0) 75 rfl rfl (fun w' hw' => ?_) hHeld ?_
       ·first | (go_simp; done) | (obtain ⟨s0, s1, s2, s3⟩ := hw'; go_simp; done)
       try simp only [Act.put, put1, put2, put3]
       refine tkY 15 (.int .i64 (k : Int)) 76 rfl rfl (fun w' hw' => ?_) hHeld ?_
       ·first | (go_simp; done) | (obtain ⟨s0, s1, s2, s3⟩ := hw'; go_simp; done)
       try simp only [Act.put, put1, put2, put3]
       refine tkY 16 (.pointer (some ⟨bL, oL + k, none⟩)) 77 rfl rfl (fun w' hw' => ?_) hHeld ?_
       ·first | (go_simp; done) | (obtain ⟨s0, s1, s2, s3⟩ := hw'; go_simp; done)
       try simp only [Act.put, put1, put2, put3]
       refine tkY 17 (.pointer (some ⟨bL, oL + k, none⟩)) 78 rfl rfl (fun w' hw' => ?_) hHeld ?_
       ·first | (go_simp; done) | (obtain ⟨s0, s1, s2, s3⟩ := hw'; go_simp; done)
       try simp only [Act.put, put1, put2, put3]
       refine tkY 18 (.slice ax x.length nx) 79 rfl rfl (fun w' hw' => ?_) hHeld ?_
       ·first | (go_simp; done) | (obtain ⟨s0, s1, s2, s3⟩ := hw'; go_simp; done)
       try simp only [Act.put, put1, put2, put3]
       refine wpAnyH_ready (rs := [19]) (by kernel_rfl) (by simp) ?_
       refine AllReadyH.cons rfl (fun K hK => ?_) AllReadyH.nil
       go_simp
       refine (lawHas_calls (Rd.mono (α := List (List Int)) b5 r2d) (Rd.mono (α := List Int) b5 rxd)).mono ?_
       rintro e v6 ⟨he, b6⟩
       rw [hi2] at he
       subst he
       have hb6 := hb5.step b6
       refine hK.out _ _ ⟨(CAr.later hb6).c0, (CAr.later hb6).c1, (CAr.later hb6).c2, (hC.later hb6).c0⟩ (fun hHeld => ?_)
       clear hK K
       try simp only [Act.put, put1, put2, put3]
       refine tkY 20 (.bool false) 81 rfl rfl (fun w' hw' => ?_) hHeld ?_
       ·first | (go_simp; done) | (obtain ⟨s0, s1, s2, s3⟩ := hw'; go_simp; done)
       try simp only [Act.put, put1, put2, put3]
       refine tkY 21 (.bool false) 82 rfl rfl (fun w' hw' => ?_) hHeld ?_
       ·first | (go_simp; done) | (obtain ⟨s0, s1, s2, s3⟩ := hw'; go_simp; done)
       try simp only [Act.put, put1, put2, put3]
       refine wpAnyH_done (by kernel_rfl) ?_ _
       go_wp2
       go_roundw
       case rel => exact ⟨k + 1, by omega, by go_num, hb6⟩
       case measure => simp [intOf]; omega
      ·skip
       refine tkY 9 (.bool false) 70 rfl rfl (fun w' hw' => ?_) hHeld ?_
       ·first | (go_simp; done) | (obtain ⟨s0, s1, s2, s3⟩ := hw'; go_simp; done)
       try simp only [Act.put, put1, put2, put3]
       refine tkY 10 (.bool false) 71 rfl rfl (fun w' hw' => ?_) hHeld ?_
       ·first | (go_simp; done) | (obtain ⟨s0, s1, s2, s3⟩ := hw'; go_simp; done)
       try simp only [Act.put, put1, put2, put3]
       refine tkN 11 72 rfl rfl hHeld ?_
       try simp only [Act.put, put1, put2, put3]
       refine tkN 12 73 rfl rfl hHeld ?_
       try simp only [Act.put, put1, put2, put3]
       refine tkN 13 74 rfl rfl hHeld ?_
       try simp only [Act.put, put1, put2, put3]
       refine tkN 14 75 rfl rfl hHeld ?_
       try simp only [Act.put, put1, put2, put3]
       refine tkN 15 76 rfl rfl hHeld ?_
       try simp only [Act.put, put1, put2, put3]
       refine tkN 16 77 rfl rfl hHeld ?_
       try simp only [Act.put, put1, put2, put3]
       refine tkN 17 78 rfl rfl hHeld ?_
       try simp only [Act.put, put1, put2, put3]
       refine tkN 18 79 rfl rfl hHeld ?_
       try simp only [Act.put, put1, put2, put3]
       refine tkN 19 80 rfl rfl hHeld ?_
       try simp only [Act.put, put1, put2, put3]
       refine tkN 20 81 rfl rfl hHeld ?_
       try simp only [Act.put, put1, put2, put3]
       refine tkY 21 (.bool false) 82 rfl rfl (fun w' hw' => ?_) hHeld ?_
       ·first | (go_simp; done) | (obtain ⟨s0, s1, s2, s3⟩ := hw'; go_simp; done)
       try simp only [Act.put, put1, put2, put3]
       refine wpAnyH_done (by kernel_rfl) ?_ _
       go_wp2
       go_roundw
       case rel => exact ⟨k + 1, by omega, by go_num, hb5⟩
       case measure => simp [intOf]; omega
     ·have tw := tW3.step hb
      clear rr0
      obtain ⟨wa, rfl⟩ : ∃ wa, wa = wr := ⟨_, rfl⟩
      replace CAr := CAr.later hb
      replace R0 := Rd.mono (α := List (List Int)) hb R0
      replace rr1 := rr1.later hb
      replace rr2 := rr2.later hb
      clear hb
      go_wp2
      refine wp_loop_rounds 3 ?_
      rw [rounds_succ]
      go_wp2
      go_loopw [9] (fun i wr => ∃ k : Nat, k ≤ L1.length ∧ i = .int .i64 (k : Int) ∧ Below wa.heap.size wa wr) (fun i _ => L1.length - (intOf i).toNat)
      case atStart => exact ⟨0, Nat.zero_le _, rfl, Below.refl _ _⟩
      case round =>
       obtain ⟨k, hk, rfl, hb⟩ := hrel
       have CAw := CAr.later hb
       have s0 := CAw.c0
       have s1 := CAw.c1
       have s2 := CAw.c2
       by_cases hlt : k < L1.length
       ·obtain ⟨bL, oL, rfl, hcL⟩ := rr1.base (by omega)
        obtain ⟨ecs, hC, hR⟩ := hcL k hlt
        obtain ⟨ax, nx, rfl, hax, hnx, hRx⟩ : RdL wa ecs (nth L1 k) := hR
        rw [show Rd.k (List Int) = 1 from rfl, Nat.mul_one] at hC
        have hki : (k : Int) < (L1.length : Int) := by omega
        have HM := Lib.hid (show decide (nth L1 k ∈ L0) = true from decide_eq_true (HL1.out _ (nth_mem hlt)))
        have hRu : RdL wa [.slice ax (nth L1 k).length nx] (nth L1 k) := ⟨ax, nx, rfl, hax, hnx, hRx⟩
        clear hcL hRx
        generalize nth L1 k = x at *
        go_upto_region 27 with fail
        have hbd := hb.drew
        have CAd := CAr.later hbd
        have CXd := hC.later hbd
        have r0d := Rd.mono (α := List (List Int)) hbd R0
        have rxd := Rd.mono (α := List Int) hbd hRu
        clear s0 s1 s2
        refine wp_region_held_drew (S := fun W' => W'.cell? ⟨w3.heap.size, 0, none⟩ = some (.slice au0 L0.length cu0) ∧ W'.cell? ⟨w3.heap.size, 1, none⟩ = some (.slice (some ⟨bL, oL, none⟩) L1.length cu1) ∧ W'.cell? ⟨w3.heap.size, 2, none⟩ = some (.slice au2 L2.length cu2) ∧ W'.cell? ⟨bL, oL + k, none⟩ = some (.slice ax x.length nx)) (by kernel_rfl) ⟨CAd.c0, CAd.c1, CAd.c2, CXd.c0⟩ (fun hHeld => ?_)
        generalize wr.drew = wd at *
        refine tkY 0 (.pointer (some ⟨w3.heap.size, 0, none⟩)) 95 rfl rfl (fun w' hw' => ?_) hHeld ?_
        ·first | (go_simp; done) | (obtain ⟨s0, s1, s2, s3⟩ := hw'; go_simp; done)
        try simp only [Act.put, put1, put2, put3]
        refine tkY 1 (.slice au0 L0.length cu0) 96 rfl rfl (fun w' hw' => ?_) hHeld ?_
        ·first | (go_simp; done) | (obtain ⟨s0, s1, s2, s3⟩ := hw'; go_simp; done)
        try simp only [Act.put, put1, put2, put3]
        refine tkY 2 (.int .i64 1) 97 rfl rfl (fun w' hw' => ?_) hHeld ?_
        ·first | (go_simp; done) | (obtain ⟨s0, s1, s2, s3⟩ := hw'; go_simp; done)
        try simp only [Act.put, put1, put2, put3]
        refine tkY 3 (.pointer (some ⟨w3.heap.size, 1, none⟩)) 98 rfl rfl (fun w' hw' => ?_) hHeld ?_
        ·first | (go_simp; done) | (obtain ⟨s0, s1, s2, s3⟩ := hw'; go_simp; done)
        try simp only [Act.put, put1, put2, put3]
        refine tkY 4 (.slice (some ⟨bL, oL, none⟩) L1.length cu1) 99 rfl rfl (fun w' hw' => ?_) hHeld ?_
        ·first | (go_simp; done) | (obtain ⟨s0, s1, s2, s3⟩ := hw'; go_simp; done)
        try simp only [Act.put, put1, put2, put3]
        refine tkY 5 (.int .i64 (k : Int)) 100 rfl rfl (fun w' hw' => ?_) hHeld ?_
        ·first | (go_simp; done) | (obtain ⟨s0, s1, s2, s3⟩ := hw'; go_simp; done)
        try simp only [Act.put, put1, put2, put3]
        refine tkY 6 (.pointer (some ⟨bL, oL + k, none⟩)) 101 rfl rfl (fun w' hw' => ?_) hHeld ?_
        ·first | (go_simp; done) | (obtain ⟨s0, s1, s2, s3⟩ := hw'; go_simp; done)
        try simp only [Act.put, put1, put2, put3]
        refine tkY 7 (.pointer (some ⟨bL, oL + k, none⟩)) 102 rfl rfl (fun w' hw' => ?_) hHeld ?_
        ·first | (go_simp; done) | (obtain ⟨s0, s1, s2, s3⟩ := hw'; go_simp; done)
        try simp only [Act.put, put1, put2, put3]
        refine tkY 8 (.slice ax x.length nx) 103 rfl rfl (fun w' hw' => ?_) hHeld ?_
        ·first | (go_simp; done) | (obtain ⟨s0, s1, s2, s3⟩ := hw'; go_simp; done)
        try simp only [Act.put, put1, put2, put3]
        refine wpAnyH_ready (rs := [9]) (by kernel_rfl) (by simp) ?_
        refine AllReadyH.cons rfl (fun K hK => ?_) AllReadyH.nil
        go_simp
        refine (lawHas_calls r0d rxd).mono ?_
        rintro e v5 ⟨he, b5⟩
        rw [HM.out] at he
        subst he
        have hb5 := hbd.step b5
        refine hK.out _ _ ⟨(CAr.later hb5).c0, (CAr.later hb5).c1, (CAr.later hb5).c2, (hC.later hb5).c0⟩ (fun hHeld => ?_)
        clear hK K
        try simp only [Act.put, put1, put2, put3]
        refine tkY 10 (.bool false) 105 rfl rfl (fun w' hw' => ?_) hHeld ?_
        ·first | (go_simp; done) | (obtain ⟨s0, s1, s2, s3⟩ := hw'; go_simp; done)
        try simp only [Act.put, put1, put2, put3]
        refine wpAnyH_done (by kernel_rfl) ?_ _
        go_wp2
        go_roundw
        case rel => exact ⟨k + 1, by omega, by go_num, hb5⟩
        case measure => simp [intOf]; omega
       ·have tx := tw.step hb
        clear rr1
        obtain ⟨wb, rfl⟩ : ∃ wb, wb = wr := ⟨_, rfl⟩
        replace CAr := CAr.later hb
        replace R0 := Rd.mono (α := List (List Int)) hb R0
        replace rr2 := rr2.later hb
        clear hb s0 s1 s2 CAw
        have s0 := CAr.c0
        have s1 := CAr.c1
        have s2 := CAr.c2
        go_wp2
        rw [rounds_succ]
        go_wp2
        go_loopw [9] (fun i wr => ∃ k : Nat, k ≤ L2.length ∧ i = .int .i64 (k : Int) ∧ Below wb.heap.size wb wr) (fun i _ => L2.length - (intOf i).toNat)
        case atStart => exact ⟨0, Nat.zero_le _, rfl, Below.refl _ _⟩
        case round =>
         obtain ⟨k, hk, rfl, hb⟩ := hrel
         have CAw := CAr.later hb
         have s0 := CAw.c0
         have s1 := CAw.c1
         have s2 := CAw.c2
         by_cases hlt : k < L2.length
         ·obtain ⟨bL, oL, rfl, hcL⟩ := rr2.base (by omega)
          obtain ⟨ecs, hC, hR⟩ := hcL k hlt
          obtain ⟨ax, nx, rfl, hax, hnx, hRx⟩ : RdL wb ecs (nth L2 k) := hR
          rw [show Rd.k (List Int) = 1 from rfl, Nat.mul_one] at hC
          have hki : (k : Int) < (L2.length : Int) := by omega
          have HM := Lib.hid (show decide (nth L2 k ∈ L0) = true from decide_eq_true (HL2.out _ (nth_mem hlt)))
          have hRu : RdL wb [.slice ax (nth L2 k).length nx] (nth L2 k) := ⟨ax, nx, rfl, hax, hnx, hRx⟩
          clear hcL hRx
          generalize nth L2 k = x at *
          go_upto_region 27 with fail
          have hbd := hb.drew
          have CAd := CAr.later hbd
          have CXd := hC.later hbd
          have r0d := Rd.mono (α := List (List Int)) hbd R0
          have rxd := Rd.mono (α := List Int) hbd hRu
          clear s0 s1 s2
          refine wp_region_held_drew (S := fun W' => W'.cell? ⟨w3.heap.size, 0, none⟩ = some (.slice au0 L0.length cu0) ∧ W'.cell? ⟨w3.heap.size, 1, none⟩ = some (.slice au1 L1.length cu1) ∧ W'.cell? ⟨w3.heap.size, 2, none⟩ = some (.slice (some ⟨bL, oL, none⟩) L2.length cu2) ∧ W'.cell? ⟨bL, oL + k, none⟩ = some (.slice ax x.length nx)) (by kernel_rfl) ⟨CAd.c0, CAd.c1, CAd.c2, CXd.c0⟩ (fun hHeld => ?_)
          generalize wr.drew = wd at *
          refine tkY 0 (.pointer (some ⟨w3.heap.size, 0, none⟩)) 95 rfl rfl (fun w' hw' => ?_) hHeld ?_
          ·first | (go_simp; done) | (obtain ⟨s0, s1, s2, s3⟩ := hw'; go_simp; done)
          try simp only [Act.put, put1, put2, put3]
          refine tkY 1 (.slice au0 L0.length cu0) 96 rfl rfl (fun w' hw' => ?_) hHeld ?_
          ·first | (go_simp; done) | (obtain ⟨s0, s1, s2, s3⟩ := hw'; go_simp; done)
          try simp only [Act.put, put1, put2, put3]
          refine tkY 2 (.int .i64 2) 97 rfl rfl (fun w' hw' => ?_) hHeld ?_
          ·first | (go_simp; done) | (obtain ⟨s0, s1, s2, s3⟩ := hw'; go_simp; done)
          try simp only [Act.put, put1, put2, put3]
          refine tkY 3 (.pointer (some ⟨w3.heap.size, 2, none⟩)) 98 rfl rfl (fun w' hw' => ?_) hHeld ?_
          ·first | (go_simp; done) | (obtain ⟨s0, s1, s2, s3⟩ := hw'; go_simp; done)
          try simp only [Act.put, put1, put2, put3]
          refine tkY 4 (.slice (some ⟨bL, oL, none⟩) L2.length cu2) 99 rfl rfl (fun w' hw' => ?_) hHeld ?_
          ·first | (go_simp; done) | (obtain ⟨s0, s1, s2, s3⟩ := hw'; go_simp; done)
          try simp only [Act.put, put1, put2, put3]
          refine tkY 5 (.int .i64 (k : Int)) 100 rfl rfl (fun w' hw' => ?_) hHeld ?_
          ·first | (go_simp; done) | (obtain ⟨s0, s1, s2, s3⟩ := hw'; go_simp; done)
          try simp only [Act.put, put1, put2, put3]
          refine tkY 6 (.pointer (some ⟨bL, oL + k, none⟩)) 101 rfl rfl (fun w' hw' => ?_) hHeld ?_
          ·first | (go_simp; done) | (obtain ⟨s0, s1, s2, s3⟩ := hw'; go_simp; done)
          try simp only [Act.put, put1, put2, put3]
          refine tkY 7 (.pointer (some ⟨bL, oL + k, none⟩)) 102 rfl rfl (fun w' hw' => ?_) hHeld ?_
          ·first | (go_simp; done) | (obtain ⟨s0, s1, s2, s3⟩ := hw'; go_simp; done)
          try simp only [Act.put, put1, put2, put3]
          refine tkY 8 (.slice ax x.length nx) 103 rfl rfl (fun w' hw' => ?_) hHeld ?_
          ·first | (go_simp; done) | (obtain ⟨s0, s1, s2, s3⟩ := hw'; go_simp; done)
          try simp only [Act.put, put1, put2, put3]
          refine wpAnyH_ready (rs := [9]) (by kernel_rfl) (by simp) ?_
          refine AllReadyH.cons rfl (fun K hK => ?_) AllReadyH.nil
          go_simp
          refine (lawHas_calls r0d rxd).mono ?_
          rintro e v5 ⟨he, b5⟩
          rw [HM.out] at he
          subst he
          have hb5 := hbd.step b5
          refine hK.out _ _ ⟨(CAr.later hb5).c0, (CAr.later hb5).c1, (CAr.later hb5).c2, (hC.later hb5).c0⟩ (fun hHeld => ?_)
          clear hK K
          try simp only [Act.put, put1, put2, put3]
          refine tkY 10 (.bool false) 105 rfl rfl (fun w' hw' => ?_) hHeld ?_
          ·first | (go_simp; done) | (obtain ⟨s0, s1, s2, s3⟩ := hw'; go_simp; done)
          try simp only [Act.put, put1, put2, put3]
          refine wpAnyH_done (by kernel_rfl) ?_ _
          go_wp2
          go_roundw
          case rel => exact ⟨k + 1, by omega, by go_num, hb5⟩
          case measure => simp [intOf]; omega
         ·have ty := tx.step hb
          go_wp2
          rw [rounds_succ]
          go_wp2
          go_ret
          exact ⟨rfl, ty⟩
set_option maxRecDepth 100000 in
theorem law {a : Option Addr} {len cap : Nat} {zs : List Int} {w : World} (h : IsRow .u8 w a len cap zs) :
  Calls Tryz.prog 7 #[.slice a len cap] w fun e w' => e = .returned (.bool true) ∧ Below w.heap.size w w' := by
 by_cases hbig : len ≤ 1048576
 ·obtain ⟨bs, rfl, hB⟩ := isRow_bytes h hbig
  exact law0 hB
 ·have hb1 : decide (1048576 < (len : Int)) = true := decide_eq_true (by omega)
  go_enter Tryz.func7, Tryz.ntmps7
  go_wp2_with fail
  refine (big_calls _ _ _ _ _ hb1).mono ?_
  rintro e w' ⟨rfl, rfl⟩
  go_wp2
  go_ret
  exact ⟨rfl, Below.refl _ _⟩

set_option maxRecDepth 100000 in
theorem lifted (os : Os) (started : os.Started) (H : Type) (enc : TypeId × Value → H) :
  ReturnsInHanded {} Tryz.checked os 7 .any (Rows.fnOutsideAtomsSpec.pre6 enc Tryz.prog Tryz.f7 Rows.fnOutsideAtomsRow.domain false) (Rows.fnOutsideAtomsSpec.post enc Tryz.prog Tryz.f7 false true false false) := by
 refine returnsInHanded_of_change (C := Tryz.checked) own started (by kernel_rfl) Tryz.func7
  (ChangeSpec.witness6 (enc := enc) (C := Tryz.checked) false ⟨#[], #[.slice none 0 0], []⟩ 8 (by kernel_rfl) (by kernel_rfl) (by kernel_rfl) (by kernel_rfl)) ?_
 intro W base args ds gs before hval0 hW hcnd _
 have hval : ∀ (j : Nat) t v, Tryz.f7.params[j]? = some t → args[j]? = some v → Value.okWide Tryz.prog W .any base t v := hval0
 have hW' := hW
 obtain ⟨p, q, hA0, hV, rfl, hfz, hnd⟩ := hW
 have hA : DataW.TrodAll enc Tryz.prog W 0 (fun _ => true) true Tryz.f7.params.toList args.toList ds p := hA0
 rw [Tryz.params7] at hA hval
 obtain ⟨v0, vs0, d0, ds0, p0, q0, hargs, rfl, rfl, h0, r0⟩ := trodAll_cons hA
 obtain ⟨rfl, rfl, rfl⟩ := trodAll_nil r0
 obtain rfl : args = #[v0] := by cases args; simp_all
 obtain ⟨rfl, rfl⟩ := trodVars_none hV
 obtain ⟨a0, len0, cap0, rfl⟩ := okWide_slice Tryz.underlying22 (hval 0 22 v0 rfl rfl)
 have k0 := h0
 have lt0 : ∀ x ∈ p0, x.block < W.heap.size := by obtain ⟨m, hm⟩ := k0; exact DataW.trod_lt m _ _ _ hm
 obtain ⟨z0, w0⟩ : ∃ zs, IsRow .u8 W a0 len0 cap0 zs := by
  obtain ⟨fuel, hf⟩ := h0
  rcases open_ints Tryz.underlying22 Tryz.underlying5 (by kernel_rfl) hf with ⟨hcs, _⟩ | ⟨x, l, c, zs, hcs, _, hl, hm, hz, _, hcell, hwz⟩
  ·simp [Value.cells] at hcs
   obtain ⟨rfl, rfl, rfl⟩ := hcs
   exact ⟨[], .inl ⟨rfl, rfl, rfl, rfl⟩⟩
  ·simp [Value.cells] at hcs
   obtain ⟨rfl, rfl, rfl⟩ := hcs
   exact ⟨zs, .inr ⟨_, rfl, hl, hm, by simpa using hz, hcell, hwz⟩⟩
 clear hA0 hval0
 refine (law w0).mono fun e W' ⟨he, bel⟩ => ?_
 subst he
 exact ⟨_, rfl, _, _, _, [], _, [], hW', trodAll_mk1 (shut_bool Tryz.underlying4 _), (trodAll_cons_mk (Below.trod laidOut (by kernel_rfl) (of_decide_eq_true (by kernel_rfl)) k0 bel lt0) trodAll_mk0), rfl, bel.frame _, fun h => by cases h⟩

theorem over : Rows.fnOutsideAtomsRow.holds Tryz.pinned (OpenSpec.ofChange Rows.fnOutsideAtomsSpec) :=
 OpenClaim.holds_of_wide 7 Tryz.f7 rfl rfl rfl rfl rfl rfl rfl ⟨rfl, rfl, rfl, rfl, rfl⟩ rfl rfl rfl rfl rfl (by kernel_rfl) Tryz.func7 (by kernel_rfl)
  (of_decide_eq_true (by kernel_rfl)) (by unfold Func.isWrapper; first | (rw [if_pos (by decide +kernel)]; kernel_rfl) | (rw [if_neg (by decide +kernel)]; exact ⟨rfl, rfl⟩))
  (fun os started H enc _ => lifted os started H enc)

theorem proved : Rows.FnOutsideAtomsSaid := over
end Go.Proofs.YthfbnalgnnjbbaaGreat.fnOutsideAtoms
