/-
 laws.FnBothSame returns true for all byte strings: a constraint put to a program leaves those of its answers that do not break it.
 Conditions: none (what every row of this form says by itself: the arguments can be read as data).
-/
import Derived.Test.YthikhkeofcjdfaaGreatBthA
import Derived.Test.YthikhkeofcjdfaaGreatFldS
import Derived.Test.YthikhkeofcjdfaaGreatAnsR
import Derived.Test.YthikhkeofcjdfaaGreatAnsU
import Derived.Test.YthikhkeofcjdfaaGreatLawsInts
import Derived.Test.YthikhkeofcjdfaaGreatAnyW
import Derived.Deep.RegionHeld3
import Derived.Test.YthikhkeofcjdfaaGreatOpenB
import Derived.Test.YthikhkeofcjdfaaGreatRows
import Derived.WalkKit
import Derived.ProofKit
import Derived.OpenShut
import Derived.ShutString
import Derived.ChangeOld
import Derived.Below
namespace Go.Proofs.YthikhkeofcjdfaaGreat.fnBothSame
open Go.ChangeShapes Go.WideShapes Go.ChangeAt Go.RowKit
open Go.ChangeMaps (open_string shut_string)
set_option linter.unusedVariables false
set_option linter.unusedSimpArgs false

theorem own : ownKnob Tryz.prog.godebug = none := by kernel_rfl
theorem laidOut : laidOutB Tryz.prog = true := by kernel_rfl

theorem any_ok : AnyOk := fun c N w h hN => any_calls c N w h hN

theorem ownsRow_bel {B s n : Nat} {e : TypeId} {w w' : World} {v : Value} {xs : List Value} (h : w.ownsRow B e s v n xs) (hb : Below w.heap.size w w') : w'.ownsRow B e s v n xs :=
 ⟨h.1, h.2.imp id fun ⟨g, cap, cur, e1, e2, e3, r⟩ => ⟨g, cap, cur, e1, e2, (hb.block g (block_lt e3)).trans e3, r⟩⟩
theorem ownsRow_form {B s n : Nat} {e : TypeId} {w : World} {v : Value} {xs : List Value} (h : w.ownsRow B e s v n xs) : ∃ a c, v = .slice a n c := by
 rcases h.2 with ⟨rfl, hn⟩ | ⟨g, cp, cur, rfl, _⟩
 ·exact ⟨none, 0, by rw [hn]⟩
 ·exact ⟨_, _, rfl⟩
theorem ans_lenB (p : ProgD) : (answersL p).length ≤ 4096 := by
 unfold answersL
 split
 ·rename_i hF
  have h1 := ansTo_len (foldD p) (2 ^ p.atoms.toNat)
  obtain ⟨h2, h3⟩ := progOk_atoms (foldR_ok hF)
  have h4 : (foldD p).atoms = p.atoms := rfl
  have : 2 ^ p.atoms.toNat ≤ 2 ^ 12 := Nat.pow_le_pow_right (by omega) (by omega)
  omega
 ·simp
/-- Values that read as lists, whatever becomes of the blocks of S. -/
def ReadsC (S : Nat → Prop) (w : World) (vs : List Value) (xs : List (List Int)) : Prop := vs.length = xs.length ∧ ∀ i u, vs[i]? = some u → ∀ w', Cg S w w' → RdL w' [u] (nth xs i)
theorem ReadsC.nil (S : Nat → Prop) (w : World) : ReadsC S w [] [] := ⟨rfl, fun i u h => by simp at h⟩
theorem ReadsC.cg {S : Nat → Prop} {w w2 : World} {vs : List Value} {xs : List (List Int)} (h : ReadsC S w vs xs) (k : Cg S w w2) : ReadsC S w2 vs xs := ⟨h.1, fun i u hu w' hw' => h.2 i u hu w' (k.trans hw')⟩
theorem ReadsC.reads {S : Nat → Prop} {w : World} {vs : List Value} {xs : List (List Int)} (h : ReadsC S w vs xs) : Reads w vs xs := ⟨h.1, fun i u hu => h.2 i u hu w (Cg.refl _ _)⟩
theorem ReadsC.snoc {S : Nat → Prop} {w : World} {vs : List Value} {xs : List (List Int)} {u : Value} {x : List Int} (h : ReadsC S w vs xs) (hu : ∀ w', Cg S w w' → RdL w' [u] x) : ReadsC S w (vs ++ [u]) (xs ++ [x]) := by
 refine ⟨by simp [h.1], fun i v hv w' hw' => ?_⟩
 have h2 : Reads w' vs xs := ⟨h.1, fun i u hu => h.2 i u hu w' hw'⟩
 exact (h2.snoc (hu w' hw')).2 i v hv
theorem own_elemI {α : Type} [Ow α] {lo hi n cap : Nat} {w : World} {a : Option Addr} {xs : List α} (h : OwnIn (α := List α) lo hi w [.slice a n cap] xs) {k : Nat} (hk : k < xs.length) :
  ∃ g ecs, a = some ⟨g, 0, none⟩ ∧ n = xs.length ∧ Cells w g (k * Rd.k α) ecs ∧ OwnIn lo hi w ecs (nth xs k) := by
 obtain ⟨fp, ⟨a', cap', he, _, _, hrow⟩, hl⟩ := h
 simp only [List.cons.injEq, and_true, Value.slice.injEq] at he
 obtain ⟨rfl, rfl, rfl⟩ := he
 rcases hrow with ⟨rfl, _⟩ | ⟨g, e, cur, fps, rfl, hh, hcs, hfl, rfl, hnd, hx⟩
 ·simp at hk
 ·obtain ⟨ecs, hC, hO⟩ := hx k hk
  exact ⟨g, ecs, rfl, rfl, hC, _, hO, fun b hb => hl b (List.mem_cons_of_mem _ (mem_flat hb))⟩
theorem res8 (W : World) (g : Nat) (u0 u1 u2 u3 u4 u5 u6 u7 : Value) : Cg (fun x => x = g) W ((((((((W.setCell ⟨g, 0, none⟩ u0).setCell ⟨g, 1, none⟩ u1).setCell ⟨g, 2, none⟩ u2).setCell ⟨g, 3, none⟩ u3).setCell ⟨g, 4, none⟩ u4).setCell ⟨g, 5, none⟩ u5).setCell ⟨g, 6, none⟩ u6).setCell ⟨g, 7, none⟩ u7) := by
 repeat (refine Cg.set ?_ _ _ rfl)
 exact Cg.refl _ _
set_option maxHeartbeats 4000000 in
theorem DrawAnswers_calls (HA : AnyOk) (a : Option Addr) (bs : List Int) (cap : Nat) (w : World) (h : Bytes w a bs) :
  Calls Tryz.prog 12 #[.slice a bs.length cap] w fun e w' => ∃ cs p, e = .returned (.agg (List.toArray cs)) ∧ Rd.R (α := ProgD) w' cs p ∧ Below w.heap.size w w' := by
 have tz : Below w.heap.size w (w.alloc (.cells #[.int .i64 0, .slice none 0 0, .slice none 0 0, .bool false, .slice none 0 0, .slice none 0 0, .slice none 0 0, .slice none 0 0] 30)) := (Below.refl _ _).alloc (Nat.le_refl _) _
 have hB := h.later tz
 have hz0 := alloc_block w #[.int .i64 0, .slice none 0 0, .slice none 0 0, .bool false, .slice none 0 0, .slice none 0 0, .slice none 0 0, .slice none 0 0] 30
 go_enter Tryz.func12, Tryz.ntmps12
 go_wp2_with fail
 refine (open_calls _ _ _ _ hB).mono ?_
 rintro e w1 ⟨rfl, hc, hb⟩
 rw [World.size_alloc] at hc hb
 have hz1 := (hb.block _ (Nat.lt_succ_self _)).trans hz0
 rw [World.size_alloc]
 go_wp2_with fail
 refine (HA (w.heap.size + 1) 0 w1 hc (by omega)).mono ?_
 rintro e w2 ⟨cs, p, rfl, hL, hwee, c2, k2⟩
 have hcl := hc.lt
 obtain ⟨x0, x1, x2, x3, x4, x5, x6, x7, rfl⟩ := list8 (Rd.len hL.rd)
 have l1 := Rd.one hL.rd
 have st0 := sto Tryz.prog (l1 x0 (by simp))
 have st1 := sto Tryz.prog (l1 x1 (by simp))
 have st2 := sto Tryz.prog (l1 x2 (by simp))
 have st3 := sto Tryz.prog (l1 x3 (by simp))
 have st4 := sto Tryz.prog (l1 x4 (by simp))
 have st5 := sto Tryz.prog (l1 x5 (by simp))
 have st6 := sto Tryz.prog (l1 x6 (by simp))
 have st7 := sto Tryz.prog (l1 x7 (by simp))
 have hz2 := k2.size
 have hr2 := (Cg.wrote (S := fun x => x = w.heap.size + 1) k2 rfl).at hz1 (by omega)
 have t1 : Below w.heap.size w w1 := tz.trans (hb.mono (Nat.le_succ _))
 have t2 : Below w.heap.size w w2 := Wrote.mark t1 k2 (by omega)
 obtain ⟨z0, z1, z2, z3, z4, z5, z6, z7⟩ := cells8 (box_cells hr2)
 have hfz := fun j => frozen_of_row _ w.heap.size j _ _ hr2
 have hlw : w.heap.size < w2.heap.size := by omega
 have k := res8 w2 w.heap.size x0 x1 x2 x3 x4 x5 x6 x7
 have hR := Lib.hid (hL.cg (k.more fun g _ (hg : g = w.heap.size) => (by omega : g < w1.heap.size))).rd
 have hT : Hid (Below w.heap.size w ((((((((w2.setCell ⟨w.heap.size, 0, none⟩ x0).setCell ⟨w.heap.size, 1, none⟩ x1).setCell ⟨w.heap.size, 2, none⟩ x2).setCell ⟨w.heap.size, 3, none⟩ x3).setCell ⟨w.heap.size, 4, none⟩ x4).setCell ⟨w.heap.size, 5, none⟩ x5).setCell ⟨w.heap.size, 6, none⟩ x6).setCell ⟨w.heap.size, 7, none⟩ x7)) := by
  show Below _ _ _
  exact ⟨k.os.trans t2.os, k.tape.trans t2.tape, k.output.trans t2.output, Nat.le_trans t2.size k.size, fun x hx => (k.block x (Nat.lt_of_lt_of_le hx t2.size) (by omega)).trans (t2.block x hx)⟩
 clear hL hwee c2 k2 t2 t1 k hr2 hz1 hz0 hB hb hc l1 tz
 go_wp2
 exact bodyPost_ret (v := .agg #[x0, x1, x2, x3, x4, x5, x6, x7]) (by simp [results, Tryz.results12, go_sem, z0, z1, z2, z3, z4, z5, z6, z7]) rfl ⟨[x0, x1, x2, x3, x4, x5, x6, x7], p, rfl, hR.out, hT.out⟩
theorem room_no {cs : List Value} {p : ProgD} {w : World} (h : Rd.R w cs p) (hF : foldB p = false) :
  Calls Tryz.prog 14 #[.agg cs.toArray, .int .i64 1] w fun e w' => e = .returned (.bool false) ∧ Below w.heap.size w w' := by
 obtain ⟨c0, c1, c2, c3, c4, c5, c6, c7, rfl⟩ := list8 (Rd.len h)
 have t0 : Below w.heap.size w (w.alloc (.cells #[c0, c1, c2, c3, c4, c5, c6, c7] 30)) := (Below.refl _ _).alloc (by simp) _
 go_enter Tryz.func14, Tryz.ntmps14
 go_wp2_with fail
 refine (folds_calls (Rd.mono t0 h)).mono ?_
 rintro e w4 ⟨he, b4⟩
 rw [hF] at he
 subst he
 clear hF
 go_wp2
 go_ret
 exact ⟨rfl, t0.step b4⟩
theorem rd_one {w : World} {p : ProgD} {r : RuleD} {b : Nat} {ecs : List Value} (hf : Fits p.atoms) (hc : Cells w b 0 ecs) (hr : Rd.R w ecs r) : Rd.R w [.int .i64 p.atoms, .slice (some ⟨b, 0, none⟩) 1 1, .slice none 0 0, .bool false, .slice none 0 0, .slice none 0 0, .slice none 0 0, .slice none 0 0] (oneP p r) := by
 have hn : ∀ {β : Type} [Rd β], RdL (α := β) w [.slice none 0 0] [] := fun {β} _ => ⟨none, 0, rfl, Nat.le_refl _, by omega, by simp, fun i hi => absurd hi (by simp)⟩
 have h1 : RdL w [.slice (some ⟨b, 0, none⟩) 1 1] [r] := ⟨some ⟨b, 0, none⟩, 1, rfl, Nat.le_refl _, by omega, by simp, fun i hi => by
  have : i = 0 := by simpa using hi
  subst this
  exact ⟨b, 0, ecs, rfl, by rw [Nat.zero_mul]; exact hc, hr⟩⟩
 exact ⟨_, _, _, _, _, _, rfl, hf, h1, hn, hn, hn, hn, hn⟩
set_option maxRecDepth 100000 in
set_option maxHeartbeats 16000000 in
theorem law0 {a a' : Option Addr} {bs ms : List Int} {cap cap' : Nat} {w : World} (h : Bytes w a bs) (h' : Bytes w a' ms) :
  Calls Tryz.prog 3 #[.slice a bs.length cap, .slice a' ms.length cap'] w fun e w' => e = .returned (.bool true) ∧ Below w.heap.size w w' := by
 have hb1 : decide (1048576 < (bs.length : Int)) = false := decide_eq_false (by have := h.1; omega)
 have hb2 : decide (1048576 < (ms.length : Int)) = false := decide_eq_false (by have := h'.1; omega)
 obtain ⟨i3, hi3, hz30, hz31, hz32⟩ := info_parts info_set
 go_enter Tryz.func3, Tryz.ntmps3
 go_wp2_with fail
 refine (big_calls _ _ _ _ _ hb1).mono ?_
 rintro e w' ⟨rfl, rfl⟩
 go_wp2_with fail
 refine (big_calls _ _ _ _ _ hb2).mono ?_
 rintro e w' ⟨rfl, rfl⟩
 go_wp2_with fail
 refine (DrawAnswers_calls any_ok _ _ _ _ h).mono ?_
 rintro e w1 ⟨cs, p, rfl, hp, t1⟩
 have h' := h'.later t1
 clear h hb1 hb2
 have l1 := Rd.one hp
 obtain ⟨x0, x1, x2, x3, x4, x5, x6, x7, rfl⟩ := list8 (Rd.len hp)
 obtain ⟨rfl, -⟩ : x0 = .int .i64 p.atoms ∧ True := by
  obtain ⟨_, _, _, _, _, _, hl, _⟩ := hp
  simp only [List.cons.injEq, and_true] at hl
  exact ⟨hl.1, trivial⟩
 have st1 := sto Tryz.prog (l1 x1 (by simp))
 have st2 := sto Tryz.prog (l1 x2 (by simp))
 have st3 := sto Tryz.prog (l1 x3 (by simp))
 have st4 := sto Tryz.prog (l1 x4 (by simp))
 have st5 := sto Tryz.prog (l1 x5 (by simp))
 have st6 := sto Tryz.prog (l1 x6 (by simp))
 have st7 := sto Tryz.prog (l1 x7 (by simp))
 have CX := Cells.new w1 [.int .i64 p.atoms, x1, x2, x3, x4, x5, x6, x7] 30
 have tn := (Below.refl w1.heap.size w1).alloc (Nat.le_refl _) (.cells #[.int .i64 p.atoms, x1, x2, x3, x4, x5, x6, x7] 30)
 have tb := t1.alloc t1.size (.cells #[.int .i64 p.atoms, x1, x2, x3, x4, x5, x6, x7] 30)
 have hp := Rd.mono tn hp
 first | (have gx := Rd.mono (α := List Int) tn gx) | skip
 clear l1
 obtain ⟨y0, y1, y2, y3, y4, y5, y6, y7⟩ := cells8 CX
 go_wp2_with fail
 refine (DrawTidyRule_calls any_ok _ _ _ _ (h'.later tn)).mono ?_
 rintro e w2 ⟨csr, r, rfl, hr, hrh, hrb, b2⟩
 have t2 := tb.step b2
 have CX := CX.later b2
 have hp := Rd.mono b2 hp
 first | (have gx := Rd.mono (α := List Int) b2 gx) | skip
 clear y0 y1 y2 y3 y4 y5 y6 y7
 obtain ⟨y0, y1, y2, y3, y4, y5, y6, y7⟩ := cells8 (CX)
 obtain ⟨d1, d4, rfl, hfr, r1, r4⟩ := hr
 have so1 := sto Tryz.prog r1.one1
 have so4 := sto Tryz.prog r4.one1
 obtain ⟨q, hq⟩ : ∃ q : RuleD, q = { r with choice := false, heads := [] } := ⟨_, rfl⟩
 have hqh : q.heads = [] := by rw [hq]
 have hqc : q.choice = false := by rw [hq]
 have hqw : r.weight = q.weight := by rw [hq]
 have hqb : r.bound = q.bound := by rw [hq]
 have hqB : r.body = q.body := by rw [hq]
 have hR2 : Rd.R (α := RuleD) w2 [.bool false, .slice none 0 0, .bool r.weight, .int .i64 r.bound, d4] q := by
  rw [hqw, hqb, ← hqc]
  exact ⟨.slice none 0 0, d4, rfl, hqb ▸ hfr, by rw [hqh]; exact ⟨none, 0, rfl, Nat.le_refl _, by omega, by simp, fun i hi => absurd hi (by simp)⟩, hqB ▸ r4⟩
 rw [hqw, hqb] at hR2
 have tR := (Below.refl w2.heap.size w2).alloc (Nat.le_refl _) (.cells #[.bool false, .slice none 0 0, .bool q.weight, .int .i64 q.bound, d4] 34)
 have CR := Cells.new w2 [.bool false, .slice none 0 0, .bool q.weight, .int .i64 q.bound, d4] 34
 have hR3 := Rd.mono tR hR2
 have hp := Rd.mono tR hp
 have CX := CX.later tR
 have t3 := t2.step tR
 have hlp : w1.heap.size < w2.heap.size := by have := b2.size; rw [World.size_alloc] at this; omega
 rw [hqw, hqb]
 replace hqh := Lib.hid hqh
 replace hqc := Lib.hid hqc
 clear hq hqw hqb hqB hR2 tR r1 r4 hrh hrb
 clear y0 y1 y2 y3 y4 y5 y6 y7
 obtain ⟨y0, y1, y2, y3, y4, y5, y6, y7⟩ := cells8 (CX)
 go_wp2_with fail
 cases hF : foldB p
 ·refine (room_no hp hF).mono ?_
  rintro e w4 ⟨rfl, b4⟩
  clear hF
  go_wp2
  go_ret
  exact ⟨rfl, t3.step b4⟩
 ·cases hR : decide (p.rules.length + p.exts.length + p.assume.length + 1 ≤ 60)
  ·refine (room_calls hp hF).mono ?_
   rintro e w4 ⟨he, b4⟩
   rw [hR] at he
   subst he
   clear hF hR
   go_wp2
   go_ret
   exact ⟨rfl, t3.step b4⟩
  ·have hl := of_decide_eq_true hR
   refine (room_calls hp hF).mono ?_
   rintro e w4 ⟨he, b4⟩
   rw [hR] at he
   subst he
   have t4 := t3.step b4
   have CX := CX.later b4
   have hp := Rd.mono b4 hp
   first | (have gx := Rd.mono (α := List Int) b4 gx) | skip
   clear y0 y1 y2 y3 y4 y5 y6 y7
   obtain ⟨y0, y1, y2, y3, y4, y5, y6, y7⟩ := cells8 (CX)
   have CR := CR.later b4
   have hR3 := Rd.mono b4 hR3
   obtain ⟨z0, z1, z2, z3, z4⟩ := cells5 CR
   cases hK : ruleOkB q p.atoms
   ·go_wp2_with fail
    refine (specRuleOk_calls _ hR3).mono ?_
    rintro e w5 ⟨he, b5⟩
    rw [hK] at he
    subst he
    clear hF hR hK hl
    go_wp2
    go_ret
    exact ⟨rfl, t4.step b5⟩
   ·have HE := Lib.hid (both_same hF hK hl)
    have HA := Lib.hid (both_answers hF hK hqh.out hqc.out hl)
    have hpa := (progOk_atoms (by have h0 := hF; simp only [foldB, Bool.and_eq_true] at h0; exact h0.1 : progOkB p = true))
    have hfa : Fits p.atoms := by unfold Fits; omega
    go_wp2_with fail
    refine (specRuleOk_calls _ hR3).mono ?_
    rintro e w5 ⟨he, b5⟩
    rw [hK] at he
    subst he
    have t5 := t4.step b5
    have CX := CX.later b5
    have hp := Rd.mono b5 hp
    first | (have gx := Rd.mono (α := List Int) b5 gx) | skip
    clear y0 y1 y2 y3 y4 y5 y6 y7
    obtain ⟨y0, y1, y2, y3, y4, y5, y6, y7⟩ := cells8 (CX)
    have CR := CR.later b5
    have hR3 := Rd.mono b5 hR3
    clear z0 z1 z2 z3 z4 hF hK hl hR hpa
    obtain ⟨z0, z1, z2, z3, z4⟩ := cells5 CR
    go_wp2_with fail
    have tO := (Below.refl w5.heap.size w5).alloc (Nat.le_refl _) (.cells #[.bool false, .slice none 0 0, .bool q.weight, .int .i64 q.bound, d4] 34)
    have hone := rd_one hfa (Cells.new w5 [.bool false, .slice none 0 0, .bool q.weight, .int .i64 q.bound, d4] 34) (Rd.mono tO hR3)
    refine (implBoth_calls (Rd.mono tO hp) hone).mono ?_
    rintro e w6 ⟨cs6, he, o6, b6⟩
    obtain ⟨e1, e2⟩ := HE.out
    rw [e1] at he
    rw [e2] at o6
    subst he
    have b56 := tO.step b6
    have t6 := t5.step b56
    have CX := CX.later b56
    have hp := Rd.mono b56 hp
    first | (have gx := Rd.mono (α := List Int) b56 gx) | skip
    clear y0 y1 y2 y3 y4 y5 y6 y7
    obtain ⟨y0, y1, y2, y3, y4, y5, y6, y7⟩ := cells8 (CX)
    have CR := CR.later b56
    have hR3 := Rd.mono b56 hR3
    clear z0 z1 z2 z3 z4 HE e1 e2 b6 tO hone b56
    obtain ⟨u0, u1, u2, u3, u4, u5, u6, u7, rfl⟩ := list8 (Rd.len o6.rd)
    have l6 := Rd.one o6.rd
    have su0 := sto Tryz.prog (l6 u0 (by simp))
    have su1 := sto Tryz.prog (l6 u1 (by simp))
    have su2 := sto Tryz.prog (l6 u2 (by simp))
    have su3 := sto Tryz.prog (l6 u3 (by simp))
    have su4 := sto Tryz.prog (l6 u4 (by simp))
    have su5 := sto Tryz.prog (l6 u5 (by simp))
    have su6 := sto Tryz.prog (l6 u6 (by simp))
    have su7 := sto Tryz.prog (l6 u7 (by simp))
    have tQ := (Below.refl w6.heap.size w6).alloc (Nat.le_refl _) (.cells #[u0, u1, u2, u3, u4, u5, u6, u7] 30)
    have CQ := Cells.new w6 [u0, u1, u2, u3, u4, u5, u6, u7] 30
    have hqq := Rd.mono tQ o6.rd
    have t7 := t6.step tQ
    have lx6 := CX.lt
    have CX := CX.later tQ
    have CR := CR.later tQ
    have hp := Rd.mono tQ hp
    have hR3 := Rd.mono tQ hR3
    have lx := CX.lt
    have lr := CR.lt
    have lq := CQ.lt
    clear l6
    go_wp2_with fail
    have zQ : (w6.alloc (.cells #[u0, u1, u2, u3, u4, u5, u6, u7] 30)).heap.size = w6.heap.size + 1 := World.size_alloc _ _
    clear su0 su1 su2 su3 su4 su5 su6 su7
    generalize w6.alloc (.cells #[u0, u1, u2, u3, u4, u5, u6, u7] 30) = wQ at *
    have tB := (Below.refl wQ.heap.size wQ).alloc (Nat.le_refl _) (.cells #[] 44)
    have hown := World.ownsRow_made (e := 44) (size := 1) wQ #[] 0 (Nat.le_refl _) (by simp) rfl
    rw [zQ] at hown
    refine (specAnswers_calls (Rd.mono tB hp)).mono ?_
    rintro e w8 ⟨uv, rfl, o8, b8⟩
    have o8 := o8.shut
    obtain ⟨aL, kL, rfl, -, -⟩ := o8.rd.sl
    have hLen := ans_lenB p
    have hAw := Lib.hid HA.out
    obtain ⟨L, hL⟩ : ∃ L, L = answersL p := ⟨_, rfl⟩
    rw [← hL] at o8 hLen hAw
    rw [← hL]
    clear hL HA
    have bQ8 := tB.step b8
    have t8 := t7.step bQ8
    have hown8 := ownsRow_bel hown b8
    have hzB : (wQ.alloc (.cells #[] 44)).heap.size = w6.heap.size + 2 := by rw [World.size_alloc, zQ]
    have hz8 : w6.heap.size + 2 ≤ w8.heap.size := by have := b8.size; omega
    rw [hzB] at o8
    clear hown tB y0 y1 y2 y3 y4 y5 y6 y7
    go_wp2
    go_loopw [9, 11] (fun v i wr => ∃ (k : Nat) (vs : List Value), k ≤ L.length ∧ i = .int .i64 (k : Int) ∧ wr.ownsRow (w6.heap.size + 1) 44 1 v vs.length vs ∧ (∀ g, v.ownBlock = some g → g = w6.heap.size + 1 ∨ w8.heap.size ≤ g) ∧ ReadsC (fun g => g = w6.heap.size + 1 ∨ w8.heap.size ≤ g) wr vs ((L.take k).filter fun x => !bodyHoldsB q x) ∧ Cg (fun g => g = w6.heap.size + 1 ∨ w8.heap.size ≤ g) w8 wr) (fun _ i _ => L.length - (intOf i).toNat)
    case atStart => exact ⟨0, [], Nat.zero_le _, rfl, hown8, fun g hg => by simp [Value.ownBlock] at hg; exact .inl hg.symm, by rw [List.take_zero]; exact ReadsC.nil _ _, Cg.refl _ _⟩
    case round =>
     obtain ⟨k, vs, hk, rfl, ho, hob, hrc, hcg⟩ := hrel
     clear hown8
     have hsz := hcg.size
     obtain ⟨al, nl, rfl⟩ := ownsRow_form ho
     have bQr : Below (w6.heap.size + 1) wQ wr := (bQ8.mono (by omega)).trans ⟨hcg.os, hcg.tape, hcg.output, hcg.size, fun x hx => hcg.block x (by omega) (by omega)⟩
     rw [← zQ] at bQr
     have CRr := CR.later bQr
     have hRr := Rd.mono bQr hR3
     have oLr := o8.cg hcg fun g h1 h2 => by omega
     have tr := t7.step bQr
     by_cases hlt : k < L.length
     ·obtain ⟨gL, ecs, rfl, -, hC, hO⟩ := own_elemI oLr hlt
      obtain ⟨ax, nx, rfl, hax, hnx, hRx⟩ : RdL wr ecs (nth L k) := hO.rd
      have hRu : RdL wr [.slice ax (nth L k).length nx] (nth L k) := ⟨ax, nx, rfl, hax, hnx, hRx⟩
      rw [show Rd.k (List Int) = 1 from rfl, Nat.mul_one] at hC
      have HY := Lib.hid (fun (h : (!bodyHoldsB q (nth L k)) = true) => filter_take_yes (P := fun x => !bodyHoldsB q x) hlt h)
      have HN := Lib.hid (fun (h : (!bodyHoldsB q (nth L k)) = false) => filter_take_no (P := fun x => !bodyHoldsB q x) hlt h)
      have hki : (k : Int) < (L.length : Int) := by omega
      generalize nth L k = x at *
      obtain ⟨z0, z1, z2, z3, z4⟩ := cells5 CRr
      have u0 := hC.c0
      have hvl : vs.length ≤ 4096 := by
       have h1 := hrc.1
       have h2 := List.length_filter_le (fun x => !bodyHoldsB q x) (L.take k)
       rw [List.length_take] at h2
       omega
      go_upto_region 17 with fail
      have hRd := Rd.mono (Below.refl wr.heap.size wr).drew hRr
      have hRud := Rd.mono (α := List Int) (Below.refl wr.heap.size wr).drew hRu
      refine wp_region_held_drew (S := fun W' => W'.cell? ⟨w2.heap.size, 0, none⟩ = some (.bool false) ∧ W'.cell? ⟨w2.heap.size, 1, none⟩ = some (.slice none 0 0) ∧ W'.cell? ⟨w2.heap.size, 2, none⟩ = some (.bool q.weight) ∧ W'.cell? ⟨w2.heap.size, 3, none⟩ = some (.int .i64 q.bound) ∧ W'.cell? ⟨w2.heap.size, 4, none⟩ = some d4 ∧ W'.cell? ⟨gL, k, none⟩ = some (.slice ax x.length nx)) (by kernel_rfl) ⟨z0, z1, z2, z3, z4, u0⟩ (fun hHeld => ?_)
      refine tkY 0 (.agg #[.bool false, .slice none 0 0, .bool q.weight, .int .i64 q.bound, d4]) 55 rfl rfl (fun w' hw' => ?_) hHeld ?_
      ·first | (go_simp; done) | (obtain ⟨s0, s1, s2, s3, s4, s5⟩ := hw'; go_simp; done)
      try simp only [Act.put, put1, put2, put3]
      refine tkY 1 (.slice (some ⟨gL, 0, none⟩) L.length kL) 56 rfl rfl (fun w' hw' => ?_) hHeld ?_
      ·first | (go_simp; done) | (obtain ⟨s0, s1, s2, s3, s4, s5⟩ := hw'; go_simp; done)
      try simp only [Act.put, put1, put2, put3]
      refine tkY 2 (.int .i64 (k : Int)) 57 rfl rfl (fun w' hw' => ?_) hHeld ?_
      ·first | (go_simp; done) | (obtain ⟨s0, s1, s2, s3, s4, s5⟩ := hw'; go_simp; done)
      try simp only [Act.put, put1, put2, put3]
      refine tkY 3 (.pointer (some ⟨gL, k, none⟩)) 58 rfl rfl (fun w' hw' => ?_) hHeld ?_
      ·first | (go_simp; done) | (obtain ⟨s0, s1, s2, s3, s4, s5⟩ := hw'; go_simp; done)
      try simp only [Act.put, put1, put2, put3]
      refine tkY 4 (.pointer (some ⟨gL, k, none⟩)) 59 rfl rfl (fun w' hw' => ?_) hHeld ?_
      ·first | (go_simp; done) | (obtain ⟨s0, s1, s2, s3, s4, s5⟩ := hw'; go_simp; done)
      try simp only [Act.put, put1, put2, put3]
      refine tkY 5 (.slice ax x.length nx) 60 rfl rfl (fun w' hw' => ?_) hHeld ?_
      ·first | (go_simp; done) | (obtain ⟨s0, s1, s2, s3, s4, s5⟩ := hw'; go_simp; done)
      try simp only [Act.put, put1, put2, put3]
      refine wpAnyH_ready (rs := [6]) (by kernel_rfl) (by simp) ?_
      refine AllReadyH.cons rfl (fun K hK => ?_) AllReadyH.nil
      go_simp
      refine (implBodyHolds_calls hRd hRud).mono ?_
      rintro e w9 ⟨rfl, b9⟩
      have bd := (Below.refl wr.heap.size wr).drew.step b9
      have u09 := cell_kept bd u0
      refine hK.out _ _ ⟨cell_kept bd z0, cell_kept bd z1, cell_kept bd z2, cell_kept bd z3, cell_kept bd z4, u09⟩ (fun hHeld => ?_)
      clear hK K
      try simp only [Act.put, put1, put2, put3]
      refine tkY 7 (.bool (!bodyHoldsB q x)) 62 rfl rfl (fun w' hw' => ?_) hHeld ?_
      ·first | (go_simp; done) | (obtain ⟨s0, s1, s2, s3, s4, s5⟩ := hw'; go_simp; done)
      try simp only [Act.put, put1, put2, put3]
      refine wpAnyH_done (by kernel_rfl) ?_ _
      have ho9 := ownsRow_bel ho bd
      have hc9 := hcg.trans (Cg.below bd)
      have hr9 := hrc.cg (Cg.below bd)
      have hO9 := fun w' (h9 : Cg (fun g => g = w6.heap.size + 1 ∨ w8.heap.size ≤ g) w9 w') => (hO.cg ((Cg.below bd).trans h9) fun g h1 h2 => by omega).rd
      have hz9 := b9.size
      have hz9 : wr.heap.size ≤ w9.heap.size := hz9
      clear z0 z1 z2 z3 z4 hHeld hRd hRud u0 hO hC ho hrc b9
      cases hPx : (!bodyHoldsB q x)
      ·have hE := Lib.hid (HN.out hPx)
       clear hPx
       go_wp2
       go_roundw
       case rel => exact ⟨k + 1, vs, by omega, by go_num, ho9, hob, by rw [hE.out]; exact hr9, hc9⟩
       case measure => simp [intOf]; omega
      ·have hE := Lib.hid (HY.out hPx)
       clear hPx
       have hoa := ho9.alloc (.cells #[.slice ax x.length nx] 44)
       have hca := hc9.alloc (.cells #[.slice ax x.length nx] 44)
       have hza : (w9.alloc (.cells #[.slice ax x.length nx] 44)).heap.size = w9.heap.size + 1 := World.size_alloc _ _
       obtain ⟨v', w10, r1, r2, r3, _, r5⟩ := run_append_own_at (P := Tryz.prog) (w := w9.alloc (.cells #[.slice ax x.length nx] 44)) (w6.heap.size + 1) 40 40 44 i3 (.agg #[.slice none 0 0]) 1 24 Tryz.underlying40 hi3 hz30 hz31 hz32 rfl (by decide) _ vs.length _ hoa ⟨w9.heap.size, 0, none⟩ 1 1 [.slice ax x.length nx] rfl (cell_one_new _ _ _) (by simp [Value.oneCell']) (by unfold maxLen; omega) (by omega) (by omega)
       obtain ⟨a10, n10, rfl⟩ := ownsRow_form r2
       have hg10 := Cg.grown (S := fun g => g = w6.heap.size + 1 ∨ w8.heap.size ≤ g) r3 hob
       have hgA := ((Cg.refl (fun g => g = w6.heap.size + 1 ∨ w8.heap.size ≤ g) w9).alloc (.cells #[.slice ax x.length nx] 44)).trans hg10
       have hob' : ∀ g, (Value.slice a10 (vs.length + 1) n10).ownBlock = some g → g = w6.heap.size + 1 ∨ w8.heap.size ≤ g := fun g hg => by
        rcases r5 with r5 | r5
        ·exact hob g (r5 ▸ hg)
        ·rw [r5, hza] at hg
         simp only [Option.some.injEq] at hg
         omega
       have hR10 := (hr9.cg hgA).snoc (u := .slice ax x.length nx) (x := x) (fun w' h' => hO9 w' (hgA.trans h'))
       have hC10 := hc9.trans hgA
       have HR10 := Lib.hid hR10
       have HC10 := Lib.hid hC10
       have HOB := Lib.hid hob'
       have HR2 := Lib.hid r2
       clear hR10 hC10 hob' r5 hgA hg10 r3 hca hoa hO9 hr9 hc9 ho9 r2 hob hcg
       go_wp2_with (at_builtin; refine wpList_append_of rfl _ _ rfl rfl rfl r1 ?_)
       go_roundw
       case rel => exact ⟨k + 1, vs ++ [.slice ax x.length nx], by omega, by go_num, by rw [List.length_append]; exact HR2.out, HOB.out, by rw [hE.out]; exact HR10.out, HC10.out⟩
       case measure => simp [intOf]; omega
     ·have hLk : (L.take k).filter (fun x => !bodyHoldsB q x) = L.filter fun x => !bodyHoldsB q x := by rw [List.take_of_length_le (by omega)]
      rw [hLk, ← hAw.out] at hrc
      have hrow := hrc.reads.row ho (Below.refl _ _) (ans_lenB _)
      have hqr := Rd.mono bQr hqq
      have CQr := CQ.later bQr
      obtain ⟨y0, y1, y2, y3, y4, y5, y6, y7⟩ := cells8 CQr
      clear hrc ho hob hcg
      go_wp2_with fail
      refine (implAnswers_calls hqr).mono ?_
      rintro e w9 ⟨u9, rfl, o9, b9⟩
      go_wp2_with fail
      refine (sameSets_calls o9.rd (Rd.mono (α := List (List Int)) b9 hrow)).mono ?_
      rintro e w10 ⟨rfl, b10⟩
      go_wp2
      go_ret
      exact ⟨rfl, (tr.step b9).step b10⟩
set_option maxRecDepth 100000 in
theorem law {a a' : Option Addr} {len0 cap len1 cap' : Nat} {zs zs' : List Int} {w : World} (w0 : IsRow .u8 w a len0 cap zs) (w1 : IsRow .u8 w a' len1 cap' zs') :
  Calls Tryz.prog 3 #[.slice a len0 cap, .slice a' len1 cap'] w fun e w' => e = .returned (.bool true) ∧ Below w.heap.size w w' := by
 by_cases s0 : 1048576 < len0
 ·have hb1 : decide (1048576 < (len0 : Int)) = true := decide_eq_true (by omega)
  go_enter Tryz.func3, Tryz.ntmps3
  go_wp2_with fail
  refine (big_calls _ _ _ _ _ hb1).mono ?_
  rintro e w' ⟨rfl, rfl⟩
  go_wp2
  go_ret
  exact ⟨rfl, Below.refl _ _⟩
 by_cases s1 : 1048576 < len1
 ·have hb1 : decide (1048576 < (len0 : Int)) = false := decide_eq_false (by omega)
  have hb2 : decide (1048576 < (len1 : Int)) = true := decide_eq_true (by omega)
  go_enter Tryz.func3, Tryz.ntmps3
  go_wp2_with fail
  refine (big_calls _ _ _ _ _ hb1).mono ?_
  rintro e w' ⟨rfl, rfl⟩
  go_wp2_with fail
  refine (big_calls _ _ _ _ _ hb2).mono ?_
  rintro e w' ⟨rfl, rfl⟩
  go_wp2
  go_ret
  exact ⟨rfl, Below.refl _ _⟩
 obtain ⟨bs, rfl, h⟩ := isRow_bytes w0 (by omega)
 obtain ⟨ms, rfl, h'⟩ := isRow_bytes w1 (by omega)
 exact law0 h h'

set_option maxRecDepth 100000 in
theorem lifted (os : Os) (started : os.Started) (H : Type) (enc : TypeId × Value → H) :
  ReturnsInHanded {} Tryz.checked os 3 .any (Rows.fnBothSameSpec.pre6 enc Tryz.prog Tryz.f3 Rows.fnBothSameRow.domain false) (Rows.fnBothSameSpec.post enc Tryz.prog Tryz.f3 false true false false) := by
 refine returnsInHanded_of_change (C := Tryz.checked) own started (by kernel_rfl) Tryz.func3
  (ChangeSpec.witness6 (enc := enc) (C := Tryz.checked) false ⟨#[], #[.slice none 0 0, .slice none 0 0], []⟩ 8 (by kernel_rfl) (by kernel_rfl) (by kernel_rfl) (by kernel_rfl)) ?_
 intro W base args ds gs before hval0 hW hcnd _
 have hval : ∀ (j : Nat) t v, Tryz.f3.params[j]? = some t → args[j]? = some v → Value.okWide Tryz.prog W .any base t v := hval0
 have hW' := hW
 obtain ⟨p, q, hA0, hV, rfl, hfz, hnd⟩ := hW
 have hA : DataW.TrodAll enc Tryz.prog W 0 (fun _ => true) true Tryz.f3.params.toList args.toList ds p := hA0
 rw [Tryz.params3] at hA hval
 obtain ⟨v0, vs0, d0, ds0, p0, q0, hargs, rfl, rfl, h0, r0⟩ := trodAll_cons hA
 obtain ⟨v1, vs1, d1, ds1, p1, q1, rfl, rfl, rfl, h1, r1⟩ := trodAll_cons r0
 obtain ⟨rfl, rfl, rfl⟩ := trodAll_nil r1
 obtain rfl : args = #[v0, v1] := by cases args; simp_all
 obtain ⟨rfl, rfl⟩ := trodVars_none hV
 obtain ⟨a0, len0, cap0, rfl⟩ := okWide_slice Tryz.underlying22 (hval 0 22 v0 rfl rfl)
 have k0 := h0
 have lt0 : ∀ x ∈ p0, x.block < W.heap.size := by obtain ⟨m, hm⟩ := k0; exact DataW.trod_lt m _ _ _ hm
 obtain ⟨z0, w0⟩ : ∃ zs, IsRow .u8 W a0 len0 cap0 zs := by
  obtain ⟨fuel, hf⟩ := h0
  rcases open_ints Tryz.underlying22 Tryz.underlying5 (by kernel_rfl) hf with ⟨hcs, _⟩ | ⟨x, l, c, zs, hcs, _, hl, hm, hz, _, hcell, hwz⟩
  ·simp [Value.cells] at hcs
   obtain ⟨rfl, rfl, rfl⟩ := hcs
   exact ⟨[], .inl ⟨rfl, rfl, rfl, rfl⟩⟩
  ·simp [Value.cells] at hcs
   obtain ⟨rfl, rfl, rfl⟩ := hcs
   exact ⟨zs, .inr ⟨_, rfl, hl, hm, by simpa using hz, hcell, hwz⟩⟩
 obtain ⟨a1, len1, cap1, rfl⟩ := okWide_slice Tryz.underlying22 (hval 1 22 v1 rfl rfl)
 have k1 := h1
 have lt1 : ∀ x ∈ p1, x.block < W.heap.size := by obtain ⟨m, hm⟩ := k1; exact DataW.trod_lt m _ _ _ hm
 obtain ⟨z1, w1⟩ : ∃ zs, IsRow .u8 W a1 len1 cap1 zs := by
  obtain ⟨fuel, hf⟩ := h1
  rcases open_ints Tryz.underlying22 Tryz.underlying5 (by kernel_rfl) hf with ⟨hcs, _⟩ | ⟨x, l, c, zs, hcs, _, hl, hm, hz, _, hcell, hwz⟩
  ·simp [Value.cells] at hcs
   obtain ⟨rfl, rfl, rfl⟩ := hcs
   exact ⟨[], .inl ⟨rfl, rfl, rfl, rfl⟩⟩
  ·simp [Value.cells] at hcs
   obtain ⟨rfl, rfl, rfl⟩ := hcs
   exact ⟨zs, .inr ⟨_, rfl, hl, hm, by simpa using hz, hcell, hwz⟩⟩
 clear hA0 hval0
 refine (law w0 w1).mono fun e W' ⟨he, bel⟩ => ?_
 subst he
 exact ⟨_, rfl, _, _, _, [], _, [], hW', trodAll_mk1 (shut_bool Tryz.underlying4 _), (trodAll_cons_mk (Below.trod laidOut (by kernel_rfl) (of_decide_eq_true (by kernel_rfl)) k0 bel lt0) (trodAll_cons_mk (Below.trod laidOut (by kernel_rfl) (of_decide_eq_true (by kernel_rfl)) k1 bel lt1) trodAll_mk0)), rfl, bel.frame _, fun h => by cases h⟩

theorem over : Rows.fnBothSameRow.holds Tryz.pinned (OpenSpec.ofChange Rows.fnBothSameSpec) :=
 OpenClaim.holds_of_wide 3 Tryz.f3 rfl rfl rfl rfl rfl rfl rfl ⟨rfl, rfl, rfl, rfl, rfl⟩ rfl rfl rfl rfl rfl (by kernel_rfl) Tryz.func3 (by kernel_rfl)
  (of_decide_eq_true (by kernel_rfl)) (by unfold Func.isWrapper; first | (rw [if_pos (by decide +kernel)]; kernel_rfl) | (rw [if_neg (by decide +kernel)]; exact ⟨rfl, rfl⟩))
  (fun os started H enc _ => lifted os started H enc)

theorem proved : Rows.FnBothSameSaid := over
end Go.Proofs.YthikhkeofcjdfaaGreat.fnBothSame
