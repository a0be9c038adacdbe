/-
 spec.Fold: what it answers. No condition of its own.
-/
import Derived.Test.YthikhkeofcjdfaaGreatFoldI
import Derived.Test.YthikhkeofcjdfaaGreatCopyM
import Derived.Test.YthikhkeofcjdfaaGreatSpecProg
import Derived.IntWalk
namespace Go.Proofs.YthikhkeofcjdfaaGreat
set_option linter.unusedVariables false
set_option linter.unusedSimpArgs false
open Go.RowKit
set_option maxRecDepth 100000

structure Kp (B : Nat) (D0 : Nat → Prop) (g : Nat) (w w' : World) : Prop where
 os : w'.os = w.os
 tape : w'.tape = w.tape
 output : w'.output = w.output
 size : w.heap.size ≤ w'.heap.size
 block : ∀ k, k < B → ¬ D0 k → k ≠ g → w'.heap[k]? = w.heap[k]?
theorem Kp.refl (B : Nat) (D0 : Nat → Prop) (g : Nat) (w : World) : Kp B D0 g w w := ⟨rfl, rfl, rfl, Nat.le_refl _, fun _ _ _ _ => rfl⟩
theorem Kp.step {B : Nat} {D0 : Nat → Prop} {g : Nat} {w w' w'' : World} (h : Kp B D0 g w w') (hB : B ≤ w'.heap.size) (b : Below w'.heap.size w' w'') : Kp B D0 g w w'' :=
 ⟨b.os.trans h.os, b.tape.trans h.tape, b.output.trans h.output, Nat.le_trans h.size b.size, fun k h1 h2 h3 => (b.block k (by omega)).trans (h.block k h1 h2 h3)⟩
theorem Kp.set {B : Nat} {D0 : Nat → Prop} {g : Nat} {w w' : World} (h : Kp B D0 g w w') (o : Nat) (v : Value) : Kp B D0 g w (w'.setCell ⟨g, o, none⟩ v) :=
 ⟨h.os, h.tape, h.output, by simp [World.setCell]; exact h.size, fun k h1 h2 h3 => (Below.heap_setCell _ _ _ _ h3).trans (h.block k h1 h2 h3)⟩
theorem Kp.app {B : Nat} {D0 D : Nat → Prop} {g lo : Nat} {w w' w'' : World} (h : Kp B D0 g w w') (hB : B ≤ w'.heap.size) (hD : ∀ f, D f → D0 f ∨ B ≤ f) (b : Below lo w' w'') (hb : ∀ k, k < w'.heap.size → ¬ D k → w''.heap[k]? = w'.heap[k]?) : Kp B D0 g w w'' :=
 ⟨b.os.trans h.os, b.tape.trans h.tape, b.output.trans h.output, Nat.le_trans h.size b.size, fun k h1 h2 h3 => (hb k (by omega) fun hd => (hD k hd).elim h2 (by omega)).trans (h.block k h1 h2 h3)⟩
theorem Kp.below {B : Nat} {D0 : Nat → Prop} {g lo : Nat} {w w' : World} (h : Kp B D0 g w w') (hB : lo ≤ B) (hg : lo ≤ g) (hD : ∀ f, D0 f → lo ≤ f) : Below lo w w' :=
 ⟨h.os, h.tape, h.output, h.size, fun k hk => h.block k (by omega) (fun hd => by have := hD k hd; omega) (by omega)⟩
theorem Kp.ints {B B' : Nat} {D0 : Nat → Prop} {g : Nat} {w w' : World} {v : Value} {xs : List Int} (h : Kp B D0 g w w') (ho : OwnI B' w v xs) (hB : w.heap.size ≤ B) (hD : ∀ f, D0 f → f < B') (hg : g < B') : OwnI B' w' v xs := by
 obtain ⟨⟨h1, h2⟩, h3⟩ := ho
 refine ⟨⟨h1, h2.imp id fun ⟨b, cap, cur, e, hb, hh, r⟩ => ⟨b, cap, cur, e, hb, ?_, r⟩⟩, h3⟩
 have hlt := block_lt hh
 rw [h.block b (by omega) (fun hd => by have := hD b hd; omega) (by omega)]
 exact hh

def FS (lo hi hb B : Nat) (D0 : Nat → Prop) (wb : World) (c2 c4 c5 c6 c7 : Value) (p : ProgD) (R : List RuleD) (w : World) : Prop :=
 ∃ v1 D, OwnPR lo hi D w v1 c2 c4 c5 c6 c7 { p with rules := R } ∧ (∀ f, D f → f < w.heap.size) ∧ (∀ f, D f → f ≠ hb) ∧ (∀ f, D f → D0 f ∨ B ≤ f) ∧
  w.heap[hb]? = some (.cells #[.int .i64 p.atoms, v1, c2, .bool p.projOn, c4, c5, c6, c7] 30 (0, 0)) ∧ Kp B D0 hb wb w
theorem FS.later {lo hi hb B : Nat} {D0 : Nat → Prop} {wb w w' : World} {c2 c4 c5 c6 c7 : Value} {p : ProgD} {R : List RuleD} (h : FS lo hi hb B D0 wb c2 c4 c5 c6 c7 p R w) (hB : B ≤ wb.heap.size) (b : Below w.heap.size w w') : FS lo hi hb B D0 wb c2 c4 c5 c6 c7 p R w' := by
 obtain ⟨v1, D, h1, h2, h3, h4, h5, h6⟩ := h
 exact ⟨v1, D, h1.later b, fun f hf => Nat.lt_of_lt_of_le (h2 f hf) b.size, h3, h4, (b.block hb (block_lt h5)).trans h5, h6.step (Nat.le_trans hB h6.size) b⟩
theorem FS.kp {lo hi hb B : Nat} {D0 : Nat → Prop} {wb w : World} {c2 c4 c5 c6 c7 : Value} {p : ProgD} {R : List RuleD} (h : FS lo hi hb B D0 wb c2 c4 c5 c6 c7 p R w) : Kp B D0 hb wb w := by
 obtain ⟨_, _, _, _, _, _, _, h⟩ := h
 exact h
theorem FS.append {lo hi hb B g : Nat} {D0 : Nat → Prop} {wb w w5 : World} {c2 c4 c5 c6 c7 : Value} {p : ProgD} {R : List RuleD} {r : RuleD} {ecs : List Value} (h : FS lo hi hb B D0 wb c2 c4 c5 c6 c7 p R w)
  (hB : B ≤ wb.heap.size) (hlo : lo ≤ hb) (hhi : hi ≤ hb) (b5 : Below w.heap.size w w5) (hc : Cells w5 g 0 ecs) (ho : Own w.heap.size w5 ecs r) (hl : R.length ≤ 1000)
  (i : TypeInfo) (z : Value) (hin : Tryz.prog.info? 34 = some i) (hz : i.zero = some z) (hsize : i.size = Rd.k RuleD) (hby : i.bytes = 72) (hzs : z.cells.size = Rd.k RuleD) :
  ∃ a1 n1 a2 n2 w6, w.cell? ⟨hb, 1, none⟩ = some (.slice a1 R.length n1) ∧ (Builtin.append_ #[24, 24] 24 #[.slice a1 R.length n1, .slice (some ⟨g, 0, none⟩) 1 1]).run Tryz.prog w5 = .ok (.slice a2 (R.length + 1) n2) w6 ∧
   (∃ x, w6.cell? ⟨hb, 1, none⟩ = some x) ∧ w6.frozen? ⟨hb, 1, none⟩ = false ∧ Kp B D0 hb wb w6 ∧ FS lo hi hb B D0 wb c2 c4 c5 c6 c7 p (R ++ [r]) (w6.setCell ⟨hb, 1, none⟩ (.slice a2 (R.length + 1) n2)) := by
 obtain ⟨v1, D, hP, hD, hDb, hDD, hG, hK⟩ := h
 obtain ⟨fp, of, hfp⟩ := ho
 have hP00 := hP
 obtain ⟨_, _, hr00, _⟩ := hP00
 obtain ⟨a1, n1, rfl⟩ := hr00.form
 have hBw := Nat.le_trans hB hK.size
 have hbl := block_lt hG
 obtain ⟨v4, w4, r4, hP4, b4, hk4, a4, n4, rfl⟩ := hP.append_run (P := Tryz.prog) (zs := [r]) (t := 24) (ty := 24) (ad := ⟨g, 0, none⟩) (c := 1) (fps2 := [fp]) i _ 72 Tryz.underlying24 hin hz hsize hby hzs b5 hD (by omega) ⟨g, 0, rfl, rfl, by simpa using Ow.nodup of, fun j hj => by
  have : j = 0 := by simp at hj; omega
  subst this
  exact ⟨_, by rw [Nat.zero_mul]; exact hc, of⟩⟩ (fun f hf => by simp at hf; exact hfp f hf) (by show (R.length + 1) * 72 ≤ _; omega) (by show R.length + 1 ≤ _; omega)
 have hK5 := hK.step hBw b5
 have hB5 : B ≤ w5.heap.size := Nat.le_trans hBw b5.size
 have hG5 := (b5.block hb hbl).trans hG
 have hG4 := (hk4 hb (Nat.lt_of_lt_of_le hbl b5.size) (fun hd => hDb hb hd rfl)).trans hG5
 have hK4 : Kp B D0 hb wb w4 := hK5.app hB5 hDD b4 hk4
 have hcell : ∀ {W : World} {x0 x1 x2 x3 x4 x5 x6 x7 : Value}, W.heap[hb]? = some (.cells #[x0, x1, x2, x3, x4, x5, x6, x7] 30 (0, 0)) → W.cell? ⟨hb, 1, none⟩ = some x1 := fun {W} _ _ _ _ _ _ _ _ hh => by rw [cell_of_row W hb 1 _ _ _ hh]; rfl
 have hln : (({ p with rules := R } : ProgD).rules ++ [r]).length = R.length + 1 := by simp
 rw [hln] at r4 hP4
 refine ⟨a1, n1, a4, n4, w4, hcell hG, r4, ⟨_, hcell hG4⟩, frozen_of_row w4 hb 1 _ _ hG4, hK4, ?_⟩
 ·refine ⟨_, _, hP4.far (q := ⟨hb, 1, none⟩) (fun hd => by rcases hd.1 with hd | hd; exact hDb hb hd rfl; have hd : w.heap.size ≤ hb := hd; omega) (.inr hhi) _, fun f hf => by simp [World.setCell]; exact hf.2, fun f hf e => by
   rcases hf.1 with hd | hd
   ·exact hDb f hd e
   ·omega, fun f hf => by
   rcases hf.1 with hd | hd
   ·exact hDD f hd
   ·exact .inr (by omega), heap_setCell_same w4 hb 1 _ _ _ hG4, hK4.set 1 _⟩

set_option maxHeartbeats 6000000 in
theorem specFold_calls {cs : List Value} {p : ProgD} {w : World} (h : Rd.R w cs p) :
  Calls Tryz.prog 24 #[.agg cs.toArray] w fun e w' => ∃ cs', e = .returned (.tuple #[.agg cs'.toArray, .bool (foldB p)]) ∧ Own w.heap.size w' cs' (foldR p) ∧ Below w.heap.size w w' := by
 have h0 := h
 obtain ⟨i3, hi3, hz30, hz31, hz32⟩ := info_parts info_copiesRule
 obtain ⟨p1, p2, p4, p5, p6, p7, rfl, hfa, g1, g2, g4, g5, g6, g7⟩ := h0
 obtain ⟨ar, kr, rfl, _, h1⟩ := g1.sl
 obtain ⟨ae, ke, rfl, _, h6⟩ := g6.sl
 obtain ⟨aa, ka, rfl, _, h7⟩ := g7.sl
 have hm1 := h1.1
 have hm6 := h6.1
 have hm7 := h7.1
 have t0 : Below w.heap.size w ((w.alloc (.cells #[.int .i64 p.atoms, .slice ar p.rules.length kr, p2, .bool p.projOn, p4, p5, .slice ae p.exts.length ke, .slice aa p.assume.length ka] 30)).alloc (.cells #[.int .i64 0, .slice none 0 0, .slice none 0 0, .bool false, .slice none 0 0, .slice none 0 0, .slice none 0 0, .slice none 0 0] 30)) := ((Below.refl _ _).alloc (by simp) _).alloc (by simp) _
 have CP := (Cells.new w [.int .i64 p.atoms, .slice ar p.rules.length kr, p2, .bool p.projOn, p4, p5, .slice ae p.exts.length ke, .slice aa p.assume.length ka] 30).alloc (.cells #[.int .i64 0, .slice none 0 0, .slice none 0 0, .bool false, .slice none 0 0, .slice none 0 0, .slice none 0 0, .slice none 0 0] 30)
 have CR := Cells.new (w.alloc (.cells #[.int .i64 p.atoms, .slice ar p.rules.length kr, p2, .bool p.projOn, p4, p5, .slice ae p.exts.length ke, .slice aa p.assume.length ka] 30)) [.int .i64 0, .slice none 0 0, .slice none 0 0, .bool false, .slice none 0 0, .slice none 0 0, .slice none 0 0, .slice none 0 0] 30
 have hb0 := alloc_block (w.alloc (.cells #[.int .i64 p.atoms, .slice ar p.rules.length kr, p2, .bool p.projOn, p4, p5, .slice ae p.exts.length ke, .slice aa p.assume.length ka] 30)) #[.int .i64 0, .slice none 0 0, .slice none 0 0, .bool false, .slice none 0 0, .slice none 0 0, .slice none 0 0, .slice none 0 0] 30
 rw [World.size_alloc] at CR hb0
 cases hp : progOkB p
 ·have hb := foldB_no hp
  have hr := Lib.hid (foldR_no hb)
  have hb := Lib.hid hb
  go_enter Tryz.func24, Tryz.ntmps24
  go_wp2_with fail
  refine (specProgOk_calls (Rd.mono t0 h)).mono ?_
  rintro e w1 ⟨he, b1⟩
  rw [hp] at he
  subst he
  have CR1 := CR.later b1
  obtain ⟨z0, z1, z2, z3, z4, z5, z6, z7⟩ := cells8 CR1
  obtain ⟨hcA, hf1⟩ := bcell b1
  clear hcA
  have hz1 : w.heap.size + 1 < w1.heap.size := by have := b1.size; simp at this; omega
  have t1 := t0.step b1
  clear CP CR CR1
  go_wp2
  exact bodyPost_ret (v := .tuple #[.agg #[.int .i64 0, .slice none 0 0, .slice none 0 0, .bool false, .slice none 0 0, .slice none 0 0, .slice none 0 0, .slice none 0 0], .bool false])
   (by simp [results, Tryz.results24, go_sem, z0, z1, z2, z3, z4, z5, z6, z7]) rfl ⟨_, by rw [hb.out], by rw [hr.out]; exact own_zero _ _, by
   repeat (refine Below.setCell ?_ (by simp; try omega) _)
   exact t1⟩
 have sp := szP_ok hp
 have nr := (progOk_rules hp).1
 have ne := progOk_exts_len hp
 have na := (progOk_asm hp).1
 have HB := Lib.hid (foldB_yes hp)
 go_enter Tryz.func24, Tryz.ntmps24
 go_wp2_with fail
 refine (specProgOk_calls (Rd.mono t0 h)).mono ?_
 rintro e w1 ⟨he, b1⟩
 rw [hp] at he
 subst he
 have CP1 := CP.later b1
 have t1 := t0.step b1
 have hs1 : w.heap.size + 1 + 1 ≤ w1.heap.size := by have := b1.size; simpa using this
 obtain ⟨y0, y1, y2, y3, y4, y5, y6, y7⟩ := cells8 CP1
 have HP := Lib.hid hp
 clear hp
 go_wp2_with fail
 clear y0 y1 y2 y3 y4 y5 y6 y7
 refine (l02Copy_calls (Rd.mono t1 h) sp).mono ?_
 rintro e w2 ⟨c1, c2, c4, c5, c6, c7, D0, rfl, hP0, hD0, b2⟩
 have hs2 : w1.heap.size ≤ w2.heap.size := b2.size
 have b12 := b1.step b2
 have t2 := t1.step b2
 have one := Rd.one hP0.own.rd
 have CP2 := CP1.later b2
 have st1 := sto Tryz.prog (one c1 (by simp))
 have st2 := sto Tryz.prog (one c2 (by simp))
 have st4 := sto Tryz.prog (one c4 (by simp))
 have st5 := sto Tryz.prog (one c5 (by simp))
 have st6 := sto Tryz.prog (one c6 (by simp))
 have st7 := sto Tryz.prog (one c7 (by simp))
 go_upto_region 4 with fail
 have b23 := (Below.refl w2.heap.size w2).alloc (Nat.le_refl _) (.cells #[.int .i64 p.atoms, c1, c2, .bool p.projOn, c4, c5, c6, c7] 30)
 have t3 := t2.alloc t2.size (.cells #[.int .i64 p.atoms, c1, c2, .bool p.projOn, c4, c5, c6, c7] 30)
 have hPa := hP0.later b23
 have hGa := alloc_block w2 #[.int .i64 p.atoms, c1, c2, .bool p.projOn, c4, c5, c6, c7] 30
 have CP3 := CP2.later b23
 have hbr3 := ((b23.block (w.heap.size + 1) (by omega)).trans (b12.block _ (by simp))).trans hb0
 have hza := World.size_alloc w2 (.cells #[.int .i64 p.atoms, c1, c2, .bool p.projOn, c4, c5, c6, c7] 30)
 generalize w2.alloc (.cells #[.int .i64 p.atoms, c1, c2, .bool p.projOn, c4, c5, c6, c7] 30) = wa at b23 t3 hPa hGa CP3 hbr3 hza ⊢
 obtain ⟨hb, hhb⟩ : ∃ hb, hb = w2.heap.size := ⟨_, rfl⟩
 obtain ⟨lo, hlo⟩ : ∃ lo, lo = w1.heap.size := ⟨_, rfl⟩
 rw [← hlo, ← hhb] at hPa
 rw [← hhb] at hGa hza hD0 ⊢
 have hlb : lo ≤ hb := by omega
 have hDb0 : ∀ f, D0 f → f ≠ hb := fun f hf => by have := hD0 f hf; omega
 have hD0' : ∀ f, D0 f → f < wa.heap.size := fun f hf => by have := hD0 f hf; omega
 have hlw : w.heap.size + 1 < lo := by omega
 have hza' : wa.heap.size = hb + 1 := hza
 have hDlo : ∀ f, D0 f → lo ≤ f := by obtain ⟨_, _, _, _, _, h⟩ := hPa; exact h
 have HLO := Lib.hid hlo
 clear hhb hlo hza hP0 CP CP1 CP2 b1 b2 b12 b23 t0 t1 t2 st1 st2 st4 st5 st6 st7 one
 have HZA := Lib.hid hza'
 have hsza : hb < wa.heap.size := by omega
 clear hza'
 -- the heads
 have tA := (Below.refl wa.heap.size wa).alloc (Nat.le_refl _) (.cells #[] 3)
 have oA := OwnI.new wa wa.heap.size (Nat.le_refl _)
 go_wp2
 go_loopw [5, 6] (fun v i wr => ∃ k : Nat, k ≤ p.rules.length ∧ i = .int .i64 k ∧ OwnI wa.heap.size wr v (headsL p.rules k) ∧ Below wa.heap.size wa wr) (fun _ i _ => p.rules.length - (intOf i).toNat)
 case atStart => exact ⟨0, Nat.zero_le _, rfl, oA, tA⟩
 case round =>
  obtain ⟨k, hk, rfl, ho, hb1⟩ := hrel
  clear tA oA
  obtain ⟨y0, y1, y2, y3, y4, y5, y6, y7⟩ := cells8 (CP3.later hb1)
  have hsz := hb1.size
  by_cases hlt : k < p.rules.length
  ·obtain ⟨b, off, rfl, hc⟩ := h1.base (by omega)
   obtain ⟨ecs, hC, hR⟩ := hc k hlt
   have tr := t3.trans (hb1.mono (by omega))
   have hC := hC.later tr
   have hR := Rd.mono tr hR
   obtain ⟨d1, d4, rfl, hf', r1, r4⟩ := hR
   obtain ⟨ah, kh, rfl, _, hh⟩ := r1.sl
   have u1 := hC.c1
   rw [show Rd.k RuleD = 5 from rfl] at u1
   obtain ⟨av, kv, rfl, hiv, _⟩ := ho.open
   clear hC hc h1 r1 r4 hf' ho
   go_wp2_with fail
   refine (specSetJoin_calls _ _ _ _ _ _ _ hiv hh.ints).mono ?_
   rintro e w5 ⟨v5, rfl, o5, b5⟩
   have hb5 := hb1.trans (b5.mono hsz)
   have o5 := o5.mono hsz
   clear y0 y1 y2 y3 y4 y5 y6 y7
   go_wp2
   go_roundw
   case rel => exact ⟨k + 1, by omega, by go_num, o5, hb5⟩
   case measure => simp [intOf]; omega
  ·obtain rfl : k = p.rules.length := by omega
   obtain ⟨HH, hHH⟩ : ∃ HH, HH = headsL p.rules p.rules.length := ⟨_, rfl⟩
   rw [← hHH] at ho
   have HHH := Lib.hid hHH
   have hlenH : HH.length ≤ 12 := by rw [hHH]; exact headsL_len _ _
   clear hHH
   obtain ⟨ah, kh, rfl, hih, hahb⟩ := ho.open
   have FS0 : FS lo hb hb wr.heap.size D0 wr c2 c4 c5 c6 c7 p (p.rules ++ extTo p.rules p.exts 0) wr := by
    rw [show extTo p.rules p.exts 0 = [] from rfl, List.append_nil]
    exact ⟨c1, D0, hPa.later hb1, fun f hf => by have := hD0' f hf; omega, hDb0, fun f hf => .inl hf, (hb1.block hb hsza).trans hGa, Kp.refl _ _ _ _⟩
   have CP4 := CP3.later hb1
   have hbr4 := (hb1.block (w.heap.size + 1) (by omega)).trans hbr3
   have t4 := t3.trans (hb1.mono (by omega))
   have hD0r : ∀ f, D0 f → f < wa.heap.size := hD0'
   clear hPa hGa CP3 hbr3 hk
   generalize wr = wb at *
   go_wp2
   clear y0 y1 y2 y3 y4 y5 y6 y7
   go_loopw [7, 8] (fun i _ wr => ∃ k : Nat, k ≤ p.exts.length ∧ i = .int .i64 k ∧ FS lo hb hb wb.heap.size D0 wb c2 c4 c5 c6 c7 p (p.rules ++ extTo p.rules p.exts k) wr) (fun i _ _ => p.exts.length - (intOf i).toNat)
   case atStart => exact ⟨0, Nat.zero_le _, rfl, FS0⟩
   case round =>
    obtain ⟨k, hk, rfl, hF⟩ := hrel
    clear FS0
    have hKp := hF.kp
    have hszr := hKp.size
    obtain ⟨y0, y1, y2, y3, y4, y5, y6, y7⟩ := cells8 (CP4.kept (hKp.block w.heap.size (by omega) (fun hd => by have := hDlo _ hd; omega) (by omega)))
    have tw : Below w.heap.size w wr := t4.trans (hKp.below (by omega) (by omega) fun f hf => by have := hDlo f hf; omega)
    by_cases hlt : k < p.exts.length
    ·obtain ⟨b, off, rfl, hc⟩ := h6.base (by omega)
     obtain ⟨ecs, hC, hR⟩ := hc k hlt
     have hC := hC.later tw
     obtain ⟨rfl, hfe, hfv⟩ := hR
     have u0 := hC.c0
     have u1 := hC.c1
     rw [show Rd.k (Int × Int) = 2 from rfl] at u0 u1
     have hiH := (hKp.ints ho (Nat.le_refl _) hD0r hsza)
     obtain ⟨av, kv, hv, hiv, _⟩ := hiH.open
     obtain ⟨rfl, _, rfl⟩ : ah = av ∧ HH.length = HH.length ∧ kh = kv := by simpa using hv
     have bX := (Below.refl wr.heap.size wr).alloc (Nat.le_refl _) (.cells #[.int .i64 (nth p.exts k).1, .int .i64 (nth p.exts k).2] 132)
     have hiv := hiv.later bX
     have hFX := hF.later (Nat.le_refl _) bX
     have HEY := Lib.hid (extTo_yes (rs := p.rules) (es := p.exts) (k := k))
     have HEN := Lib.hid (extTo_no (rs := p.rules) (es := p.exts) (k := k))
     clear hC hc hv hiH ho h6 h1 h7 hih
     cases hH : hasB HH (nth p.exts k).1
     ·cases hV : decide ((nth p.exts k).2 < 2)
      ·have hK : keepB p.rules (nth p.exts k) = false := by unfold keepB; rw [hV, Bool.and_false]
       have hE := Lib.hid (HEN.out hK)
       clear hK hF
       go_wp2_with (go_at_call 88; refine (SetHas_calls _ _ _ _ _ hiv).mono ?_; rintro e w' ⟨he, rfl⟩; rw [hH] at he; subst he)
       go_roundw
       case rel => exact ⟨k + 1, by omega, by go_num, by rw [hE.out]; exact hFX⟩
       case measure => simp [intOf]; omega
      ·have hK : keepB p.rules (nth p.exts k) = true := by unfold keepB; rw [hV, ← HHH.out, hH]; rfl
       have hE := Lib.hid (HEY.out hK)
       have hV2 : (nth p.exts k).2 < 2 := by simpa using hV
       have hon := own_ext (lo := wr.heap.size + 1) (w := wr.alloc (.cells #[.int .i64 (nth p.exts k).1, .int .i64 (nth p.exts k).2] 132)) (by simp) (nth p.exts k) hfe (.cells #[.bool ((nth p.exts k).2 == 0), .slice (some ⟨wr.heap.size + 1, 0, none⟩) 1 1, .bool false, .int .i64 0, .slice none 0 0] 34)
       have hcn := Cells.new ((wr.alloc (.cells #[.int .i64 (nth p.exts k).1, .int .i64 (nth p.exts k).2] 132)).alloc (.cells #[.int .i64 (nth p.exts k).1] 3)) [.bool ((nth p.exts k).2 == 0), .slice (some ⟨wr.heap.size + 1, 0, none⟩) 1 1, .bool false, .int .i64 0, .slice none 0 0] 34
       rw [World.size_alloc] at hon
       rw [World.size_alloc, World.size_alloc] at hcn
       have hbw : Below (wr.alloc (.cells #[.int .i64 (nth p.exts k).1, .int .i64 (nth p.exts k).2] 132)).heap.size (wr.alloc (.cells #[.int .i64 (nth p.exts k).1, .int .i64 (nth p.exts k).2] 132)) (((wr.alloc (.cells #[.int .i64 (nth p.exts k).1, .int .i64 (nth p.exts k).2] 132)).alloc (.cells #[.int .i64 (nth p.exts k).1] 3)).alloc (.cells #[.bool ((nth p.exts k).2 == 0), .slice (some ⟨wr.heap.size + 1, 0, none⟩) 1 1, .bool false, .int .i64 0, .slice none 0 0] 34)) := ((Below.refl _ _).alloc (Nat.le_refl _) _).alloc (by simp) _
       have hlx := extTo_len p.rules p.exts k
       obtain ⟨a1, n1, a2, n2, w6, q1, q2, q3, q4, q5, q6⟩ := hFX.append (Nat.le_refl _) hlb (Nat.le_refl _) hbw hcn (by rw [World.size_alloc]; exact hon) (by rw [List.length_append]; omega) i3 _ hi3 hz30 hz31 hz32 rfl
       have hq1 : (((wr.alloc (.cells #[.int .i64 (nth p.exts k).1, .int .i64 (nth p.exts k).2] 132)).alloc (.cells #[.int .i64 (nth p.exts k).1] 3)).alloc (.cells #[.bool ((nth p.exts k).2 == 0), .slice (some ⟨wr.heap.size + 1, 0, none⟩) 1 1, .bool false, .int .i64 0, .slice none 0 0] 34)).cell? ⟨hb, 1, none⟩ = some (.slice a1 (p.rules ++ extTo p.rules p.exts k).length n1) := cell_kept hbw q1
       obtain ⟨x6, q3⟩ := q3
       have Q6 := Lib.hid q6
       obtain ⟨nT, hnT⟩ : ∃ nT : Nat, nT = (p.rules ++ extTo p.rules p.exts k).length := ⟨_, rfl⟩
       rw [← hnT] at q1 q2 hq1 Q6
       clear hnT hlx hon hcn hbw hK hF hFX q5 q6 hV
       go_wp2_with (first | (go_at_call 88; refine (SetHas_calls _ _ _ _ _ hiv).mono ?_; rintro e w' ⟨he, rfl⟩; rw [hH] at he; subst he) | (at_builtin; refine wpList_append_of rfl _ _ rfl rfl rfl q2 ?_))
       go_roundw
       case rel => exact ⟨k + 1, by omega, by go_num, by rw [hE.out, ← List.append_assoc]; exact Q6.out⟩
       case measure => simp [intOf]; omega
     ·have hK : keepB p.rules (nth p.exts k) = false := by unfold keepB; rw [← HHH.out, hH]; rfl
      have hE := Lib.hid (HEN.out hK)
      clear hK hF
      go_wp2_with (go_at_call 88; refine (SetHas_calls _ _ _ _ _ hiv).mono ?_; rintro e w' ⟨he, rfl⟩; rw [hH] at he; subst he)
      go_roundw
      case rel => exact ⟨k + 1, by omega, by go_num, by rw [hE.out]; exact hFX⟩
      case measure => simp [intOf]; omega
    ·obtain rfl : k = p.exts.length := by omega
     clear hk hlt ho hih hahb HHH
     have FS1 : FS lo hb hb wb.heap.size D0 wb c2 c4 c5 c6 c7 p ((p.rules ++ extR p) ++ asmTo p.assume 0) wr := by
      rw [show asmTo p.assume 0 = [] from rfl, List.append_nil]
      exact hF
     clear hF tw hKp hszr
     go_wp2
     clear y0 y1 y2 y3 y4 y5 y6 y7
     go_loopw [9] (fun i wr => ∃ k : Nat, k ≤ p.assume.length ∧ i = .int .i64 k ∧ FS lo hb hb wb.heap.size D0 wb c2 c4 c5 c6 c7 p ((p.rules ++ extR p) ++ asmTo p.assume k) wr) (fun i _ => p.assume.length - (intOf i).toNat)
     case atStart => exact ⟨0, Nat.zero_le _, rfl, FS1⟩
     case round =>
      clear FS1
      obtain ⟨k, hk, rfl, hF⟩ := hrel
      have hKp := hF.kp
      have hszr := hKp.size
      have CP5 : ∀ w', Kp wb.heap.size D0 hb wb w' → Cells w' w.heap.size 0 [.int .i64 p.atoms, .slice ar p.rules.length kr, p2, .bool p.projOn, p4, p5, .slice ae p.exts.length ke, .slice aa p.assume.length ka] := fun w' hK => CP4.kept (hK.block w.heap.size (by omega) (fun hd => by have := hDlo _ hd; omega) (by omega))
      have tw : ∀ w', Kp wb.heap.size D0 hb wb w' → Below w.heap.size w w' := fun w' hK => t4.trans (hK.below (by omega) (by omega) fun f hf => by have := hDlo f hf; omega)
      by_cases hlt : k < p.assume.length
      ·obtain ⟨b, off, rfl, hc⟩ := h7.base (by omega)
       obtain ⟨ecs, hC, hR⟩ := hc k hlt
       obtain ⟨rfl, hfa⟩ := hR
       rw [show Rd.k Int = 1 from rfl, Nat.mul_one] at hC
       have keep1 : ∀ w', Kp wb.heap.size D0 hb wb w' → (w'.cell? ⟨w.heap.size, 7, none⟩ = some (.slice (some ⟨b, off, none⟩) p.assume.length ka) ∧ w'.cell? ⟨b, off + k, none⟩ = some (.int .i64 (nth p.assume k))) := fun w' hK => by
        obtain ⟨_, _, _, _, _, _, _, q7⟩ := cells8 (CP5 w' hK)
        exact ⟨q7, (hC.later (tw w' hK)).c0⟩
       have hlit := (progOk_asm HP.out).2 _ (nth_mem hlt)
       have hat := progOk_atoms HP.out
       have hl1 : -12 ≤ nth p.assume k := by simp only [litB, btwB, Bool.or_eq_true, decide_eq_true_eq] at hlit; omega
       have hl2 : nth p.assume k ≤ 12 := by simp only [litB, btwB, Bool.or_eq_true, decide_eq_true_eq] at hlit; omega
       have hfn : Fits (-(nth p.assume k)) := by unfold Fits; omega
       have hE := Lib.hid (asmTo_succ hlt)
       have hle := asmTo_len hk
       have hlx := extTo_len p.rules p.exts p.exts.length
       obtain ⟨y0, y1, y2, y3, y4, y5, y6, y7⟩ := cells8 (CP5 wr hKp)
       have hFd := hF.later (Nat.le_refl _) (Below.refl wr.heap.size wr).drew
       have hon := own_asm (lo := wr.heap.size) (w := wr.drew) (Nat.le_refl _) (nth p.assume k) hfn (.cells #[.bool false, .slice none 0 0, .bool false, .int .i64 0, .slice (some ⟨wr.heap.size, 0, none⟩) 1 1] 34)
       have hcn := Cells.new (wr.drew.alloc (.cells #[.int .i64 (-(nth p.assume k)), .int .i64 1] 94)) [.bool false, .slice none 0 0, .bool false, .int .i64 0, .slice (some ⟨wr.heap.size, 0, none⟩) 1 1] 34
       rw [World.size_alloc] at hcn
       have hbw1 : Below wr.drew.heap.size wr.drew (wr.drew.alloc (.cells #[.int .i64 (-(nth p.assume k)), .int .i64 1] 94)) := (Below.refl _ _).alloc (Nat.le_refl _) _
       have hbw : Below wr.drew.heap.size wr.drew ((wr.drew.alloc (.cells #[.int .i64 (-(nth p.assume k)), .int .i64 1] 94)).alloc (.cells #[.bool false, .slice none 0 0, .bool false, .int .i64 0, .slice (some ⟨wr.heap.size, 0, none⟩) 1 1] 34)) := hbw1.alloc (by simp) _
       obtain ⟨a1, n1, a2, n2, w6, q1, q2, q3, q4, q5, q6⟩ := hFd.append (Nat.le_refl _) hlb (Nat.le_refl _) hbw hcn hon (by rw [List.length_append, List.length_append]; have : (extR p).length ≤ p.exts.length := hlx; omega) i3 _ hi3 hz30 hz31 hz32 rfl
       have K0 := hFd.kp
       have K1 := K0.step hszr hbw1
       have K2 := K0.step hszr hbw
       have K6 := q6.kp
       have r1 : (wr.drew.alloc (.cells #[.int .i64 (-(nth p.assume k)), .int .i64 1] 94)).cell? ⟨hb, 1, none⟩ = some _ := cell_kept hbw1 q1
       have r2 : ((wr.drew.alloc (.cells #[.int .i64 (-(nth p.assume k)), .int .i64 1] 94)).alloc (.cells #[.bool false, .slice none 0 0, .bool false, .int .i64 0, .slice (some ⟨wr.heap.size, 0, none⟩) 1 1] 34)).cell? ⟨hb, 1, none⟩ = some _ := cell_kept hbw q1
       obtain ⟨x6, q3⟩ := q3
       have Q6 := Lib.hid q6
       obtain ⟨nT, hnT⟩ : ∃ nT : Nat, nT = ((p.rules ++ extR p) ++ asmTo p.assume k).length := ⟨_, rfl⟩
       rw [← hnT] at q1 q2 r1 r2 Q6 K6
       replace r1 : (wr.alloc (.cells #[.int .i64 (-(nth p.assume k)), .int .i64 1] 94)).cell? ⟨hb, 1, none⟩ = some (.slice a1 nT n1) := r1
       replace r2 : ((wr.alloc (.cells #[.int .i64 (-(nth p.assume k)), .int .i64 1] 94)).alloc (.cells #[.bool false, .slice none 0 0, .bool false, .int .i64 0, .slice (some ⟨wr.heap.size, 0, none⟩) 1 1] 34)).cell? ⟨hb, 1, none⟩ = some (.slice a1 nT n1) := r2
       have hwr : IntKind.i64.wrap (-(nth p.assume k)) = -(nth p.assume k) := IntWalk.i64_in _ (by omega)
       have hkn : (0 : Int) ≤ (k : Int) := by omega
       have hkl : (k : Int) < (p.assume.length : Int) := by omega
       clear hnT hlx hon hcn hle hlit hat hF hFd q6 hc h7
       go_wp2
       clear y0 y1 y2 y3 y4 y5 y6 y7
       refine wp_region_held_drew (S := fun w' => w'.cell? ⟨w.heap.size, 7, none⟩ = some (.slice (some ⟨b, off, none⟩) p.assume.length ka) ∧ w'.cell? ⟨b, off + k, none⟩ = some (.int .i64 (nth p.assume k))) (by kernel_rfl) (keep1 _ K0) (fun hHeld => ?_)
       refine tkY 0 (.pointer (some ⟨hb, 1, none⟩)) 73 rfl rfl (fun w' hw' => ?_) hHeld ?_
       ·first | (go_simp; done) | (obtain ⟨s0, s1⟩ := hw'; go_simp)
       try simp only [Act.put, put1, put2, put3]
       refine tkY 2 (.pointer (some ⟨w.heap.size, 7, none⟩)) 75 rfl rfl (fun w' hw' => ?_) hHeld ?_
       ·first | (go_simp; done) | (obtain ⟨s0, s1⟩ := hw'; go_simp)
       try simp only [Act.put, put1, put2, put3]
       refine tkY 3 (.slice (some ⟨b, off, none⟩) p.assume.length ka) 76 rfl rfl (fun w' hw' => ?_) hHeld ?_
       ·first | (go_simp; done) | (obtain ⟨s0, s1⟩ := hw'; go_simp)
       try simp only [Act.put, put1, put2, put3]
       refine tkY 4 (.int .i64 k) 77 rfl rfl (fun w' hw' => ?_) hHeld ?_
       ·first | (go_simp; done) | (obtain ⟨s0, s1⟩ := hw'; go_simp)
       try simp only [Act.put, put1, put2, put3]
       refine tkY 5 (.pointer (some ⟨b, off + k, none⟩)) 78 rfl rfl (fun w' hw' => ?_) hHeld ?_
       ·first | (go_simp; done) | (obtain ⟨s0, s1⟩ := hw'; go_simp)
       try simp only [Act.put, put1, put2, put3]
       refine tkY 6 (.int .i64 (nth p.assume k)) 79 rfl rfl (fun w' hw' => ?_) hHeld ?_
       ·first | (go_simp; done) | (obtain ⟨s0, s1⟩ := hw'; go_simp)
       try simp only [Act.put, put1, put2, put3]
       refine tkY 7 (.int .i64 (-(nth p.assume k))) 80 rfl rfl (fun w' hw' => ?_) hHeld ?_
       ·first | (go_simp; done) | (obtain ⟨s0, s1⟩ := hw'; go_simp)
       try simp only [Act.put, put1, put2, put3]
       refine tkY 8 (.agg #[.int .i64 (-(nth p.assume k)), .int .i64 1]) 81 rfl rfl (fun w' hw' => ?_) hHeld ?_
       ·first | (go_simp; done) | (obtain ⟨s0, s1⟩ := hw'; go_simp)
       try simp only [Act.put, put1, put2, put3]
       refine wpAnyH_ready (rs := [1, 9]) (by kernel_rfl) (by simp) ?_
       refine AllReadyH.cons rfl (fun K hK => ?_) (AllReadyH.cons rfl (fun K hK => ?_) AllReadyH.nil)
       ·go_simp
        refine hK.out _ _ (keep1 _ K0) (fun hHeld => ?_)
        clear hK K
        try simp only [Act.put, put1, put2, put3]
        refine wpAnyH_ready (rs := [9]) (by kernel_rfl) (by simp) ?_
        refine AllReadyH.cons rfl (fun K hK => ?_) AllReadyH.nil
        go_simp
        refine hK.out _ _ (keep1 _ K1) (fun hHeld => ?_)
        clear hK K
        try simp only [Act.put, put1, put2, put3]
        refine tkY 10 (.agg #[.bool false, .slice none 0 0, .bool false, .int .i64 0, .slice (some ⟨wr.heap.size, 0, none⟩) 1 1]) 83 rfl rfl (fun w' hw' => ?_) hHeld ?_
        ·first | (go_simp; done) | (obtain ⟨s0, s1⟩ := hw'; go_simp)
        try simp only [Act.put, put1, put2, put3]
        refine wpAnyH_ready (rs := [11]) (by kernel_rfl) (by simp) ?_
        refine AllReadyH.cons rfl (fun K hK => ?_) AllReadyH.nil
        go_simp
        refine hK.out _ _ (keep1 _ K2) (fun hHeld => ?_)
        clear hK K
        try simp only [Act.put, put1, put2, put3]
        refine wpAnyH_ready (rs := [12]) (by kernel_rfl) (by simp) ?_
        refine AllReadyH.cons rfl (fun K hK => ?_) AllReadyH.nil
        refine step_append_of rfl _ _ rfl rfl rfl q2 ?_
        refine hK.out _ _ (keep1 _ q5) (fun hHeld => ?_)
        clear hK K
        try simp only [Act.put, put1, put2, put3]
        refine tkY 13 (.pointer (some ⟨hb, 1, none⟩)) 86 rfl rfl (fun w' hw' => ?_) hHeld ?_
        ·first | (go_simp; done) | (obtain ⟨s0, s1⟩ := hw'; go_simp)
        try simp only [Act.put, put1, put2, put3]
        refine wpAnyH_ready (rs := [14]) (by kernel_rfl) (by simp) ?_
        refine AllReadyH.cons rfl (fun K hK => ?_) AllReadyH.nil
        go_simp
        refine hK.out _ _ (keep1 _ K6) (fun hHeld => ?_)
        clear hK K
        try simp only [Act.put, put1, put2, put3]
        refine wpAnyH_done (by kernel_rfl) ?_ _
        go_wp2
        go_roundw
        case rel => exact ⟨k + 1, by omega, by go_num, by rw [hE.out, ← List.append_assoc]; exact Q6.out⟩
        case measure => simp [intOf]; omega
       ·go_simp
        refine hK.out _ _ (keep1 _ K1) (fun hHeld => ?_)
        clear hK K
        try simp only [Act.put, put1, put2, put3]
        refine tkY 10 (.agg #[.bool false, .slice none 0 0, .bool false, .int .i64 0, .slice (some ⟨wr.heap.size, 0, none⟩) 1 1]) 83 rfl rfl (fun w' hw' => ?_) hHeld ?_
        ·first | (go_simp; done) | (obtain ⟨s0, s1⟩ := hw'; go_simp)
        try simp only [Act.put, put1, put2, put3]
        refine wpAnyH_ready (rs := [1, 11]) (by kernel_rfl) (by simp) ?_
        refine AllReadyH.cons rfl (fun K hK => ?_) (AllReadyH.cons rfl (fun K hK => ?_) AllReadyH.nil)
        ·go_simp
         refine hK.out _ _ (keep1 _ K1) (fun hHeld => ?_)
         clear hK K
         try simp only [Act.put, put1, put2, put3]
         refine wpAnyH_ready (rs := [11]) (by kernel_rfl) (by simp) ?_
         refine AllReadyH.cons rfl (fun K hK => ?_) AllReadyH.nil
         go_simp
         refine hK.out _ _ (keep1 _ K2) (fun hHeld => ?_)
         clear hK K
         try simp only [Act.put, put1, put2, put3]
         refine wpAnyH_ready (rs := [12]) (by kernel_rfl) (by simp) ?_
         refine AllReadyH.cons rfl (fun K hK => ?_) AllReadyH.nil
         refine step_append_of rfl _ _ rfl rfl rfl q2 ?_
         refine hK.out _ _ (keep1 _ q5) (fun hHeld => ?_)
         clear hK K
         try simp only [Act.put, put1, put2, put3]
         refine tkY 13 (.pointer (some ⟨hb, 1, none⟩)) 86 rfl rfl (fun w' hw' => ?_) hHeld ?_
         ·first | (go_simp; done) | (obtain ⟨s0, s1⟩ := hw'; go_simp)
         try simp only [Act.put, put1, put2, put3]
         refine wpAnyH_ready (rs := [14]) (by kernel_rfl) (by simp) ?_
         refine AllReadyH.cons rfl (fun K hK => ?_) AllReadyH.nil
         go_simp
         refine hK.out _ _ (keep1 _ K6) (fun hHeld => ?_)
         clear hK K
         try simp only [Act.put, put1, put2, put3]
         refine wpAnyH_done (by kernel_rfl) ?_ _
         go_wp2
         go_roundw
         case rel => exact ⟨k + 1, by omega, by go_num, by rw [hE.out, ← List.append_assoc]; exact Q6.out⟩
         case measure => simp [intOf]; omega
        ·go_simp
         refine hK.out _ _ (keep1 _ K2) (fun hHeld => ?_)
         clear hK K
         try simp only [Act.put, put1, put2, put3]
         refine wpAnyH_ready (rs := [1]) (by kernel_rfl) (by simp) ?_
         refine AllReadyH.cons rfl (fun K hK => ?_) AllReadyH.nil
         go_simp
         refine hK.out _ _ (keep1 _ K2) (fun hHeld => ?_)
         clear hK K
         try simp only [Act.put, put1, put2, put3]
         refine wpAnyH_ready (rs := [12]) (by kernel_rfl) (by simp) ?_
         refine AllReadyH.cons rfl (fun K hK => ?_) AllReadyH.nil
         refine step_append_of rfl _ _ rfl rfl rfl q2 ?_
         refine hK.out _ _ (keep1 _ q5) (fun hHeld => ?_)
         clear hK K
         try simp only [Act.put, put1, put2, put3]
         refine tkY 13 (.pointer (some ⟨hb, 1, none⟩)) 86 rfl rfl (fun w' hw' => ?_) hHeld ?_
         ·first | (go_simp; done) | (obtain ⟨s0, s1⟩ := hw'; go_simp)
         try simp only [Act.put, put1, put2, put3]
         refine wpAnyH_ready (rs := [14]) (by kernel_rfl) (by simp) ?_
         refine AllReadyH.cons rfl (fun K hK => ?_) AllReadyH.nil
         go_simp
         refine hK.out _ _ (keep1 _ K6) (fun hHeld => ?_)
         clear hK K
         try simp only [Act.put, put1, put2, put3]
         refine wpAnyH_done (by kernel_rfl) ?_ _
         go_wp2
         go_roundw
         case rel => exact ⟨k + 1, by omega, by go_num, by rw [hE.out, ← List.append_assoc]; exact Q6.out⟩
         case measure => simp [intOf]; omega
      ·obtain rfl : k = p.assume.length := by omega
       obtain ⟨y0, y1, y2, y3, y4, y5, y6, y7⟩ := cells8 (CP5 wr hKp)
       have tF := tw wr hKp
       obtain ⟨v1, D, hP, _, hDb, _, hG, _⟩ := hF
       have hP00 := hP
       obtain ⟨_, _, hr00, _⟩ := hP00
       obtain ⟨av, nv, hv0⟩ := hr00.form
       obtain ⟨nT, hnT⟩ : ∃ nT : Nat, nT = ((p.rules ++ extR p) ++ asmR p).length := ⟨_, rfl⟩
       have hv : v1 = .slice av nT nv := by rw [hv0, hnT]; rfl
       clear hv0
       subst hv
       have hFB : foldB p = decide (nT ≤ 60) := by rw [HB.out, hnT, List.length_append, List.length_append, asmR_len]
       have hbr := (hKp.block (w.heap.size + 1) (by omega) (fun hd => by have := hDlo _ hd; omega) (by omega)).trans hbr4
       have hfz := fun j => frozen_of_row wr (w.heap.size + 1) j _ _ hbr
       have hfb := fun j => frozen_of_row wr hb j _ _ hG
       have CZ : Cells wr (w.heap.size + 1) 0 [.int .i64 0, .slice none 0 0, .slice none 0 0, .bool false, .slice none 0 0, .slice none 0 0, .slice none 0 0, .slice none 0 0] := fun j v hv => by
        rw [Nat.zero_add, cell_of_row wr (w.heap.size + 1) j _ _ _ hbr]; simpa using hv
       have CG : Cells wr hb 0 [.int .i64 p.atoms, .slice av nT nv, c2, .bool p.projOn, c4, c5, c6, c7] := fun j v hv => by
        rw [Nat.zero_add, cell_of_row wr hb j _ _ _ hG]; simpa using hv
       obtain ⟨x0, x1, x2, x3, x4, x5, x6, x7⟩ := cells8 CG
       obtain ⟨z0, z1, z2, z3, z4, z5, z6, z7⟩ := cells8 CZ
       have one1 := Rd.one hP.own.rd
       have st2 := sto Tryz.prog (one1 c2 (by simp))
       have st4 := sto Tryz.prog (one1 c4 (by simp))
       have st5 := sto Tryz.prog (one1 c5 (by simp))
       have hPf := Lib.hid (OwnPR.folded hP)
       have hnr : w.heap.size + 1 ≠ hb := by omega
       have hnD : ¬ D (w.heap.size + 1) := fun hd => by
        obtain ⟨_, _, _, _, _, hlo5⟩ := hP
        have := hlo5 _ hd
        omega
       have hnb : ¬ D hb := fun hd => hDb _ hd rfl
       have HNT := Lib.hid hnT
       clear hnT hr00 CG CZ hG hbr hP one1 CP5 tw hKp h7 hbr4 CP4
       by_cases hl : 60 < nT
       ·have hb2 : foldB p = false := by rw [hFB]; exact decide_eq_false (by omega)
        have hr := Lib.hid (foldR_no hb2)
        have HB2 := Lib.hid hb2
        have hl1 : (60 : Int) < (nT : Int) := by omega
        clear hFB hl hb2
        go_wp2
        exact bodyPost_ret (v := .tuple #[.agg #[.int .i64 0, .slice none 0 0, .slice none 0 0, .bool false, .slice none 0 0, .slice none 0 0, .slice none 0 0, .slice none 0 0], .bool false])
         (by simp [results, Tryz.results24, go_sem, z0, z1, z2, z3, z4, z5, z6, z7]) rfl ⟨_, by rw [HB2.out], by rw [hr.out]; exact own_zero _ _, by
         repeat (refine Below.setCell ?_ (by simp; try omega) _)
         exact tF⟩
       ·have hb2 : foldB p = true := by rw [hFB]; exact decide_eq_true (by omega)
        have hr := Lib.hid (foldR_yes hb2)
        have HB2 := Lib.hid hb2
        have hl1 : (nT : Int) ≤ 60 := by omega
        clear hFB hl hb2
        go_wp2
        refine bodyPost_ret (v := .tuple #[.agg #[.int .i64 p.atoms, .slice av nT nv, c2, .bool p.projOn, c4, c5, .slice none 0 0, .slice none 0 0], .bool true])
         (by simp [results, Tryz.results24, go_sem, z0, z1, z2, z3, z4, z5, z6, z7]) rfl ⟨_, by rw [HB2.out], ?_, ?_⟩
        ·rw [hr.out]
         have e1 := (hPf.out.far (q := ⟨hb, 6, none⟩) hnb (.inr (Nat.le_refl _)) (.slice none 0 0)).far (q := ⟨hb, 7, none⟩) hnb (.inr (Nat.le_refl _)) (.slice none 0 0)
         have e2 := e1.chg (put_chg (w.heap.size + 1) [.int .i64 p.atoms, .slice av nT nv, c2, .bool p.projOn, c4, c5, .slice none 0 0, .slice none 0 0] _ 0) hnD (.inl hlw)
         exact e2.own.mono (by omega)
        ·exact (Below.setCell (Below.setCell tF (p := ⟨hb, 6, none⟩) (by show w.heap.size ≤ hb; omega) (.slice none 0 0)) (p := ⟨hb, 7, none⟩) (by show w.heap.size ≤ hb; omega) (.slice none 0 0)).trans ((put_chg (w.heap.size + 1) [.int .i64 p.atoms, .slice av nT nv, c2, .bool p.projOn, c4, c5, .slice none 0 0, .slice none 0 0] _ 0).below fun g hg => by simp at hg; omega)

end Go.Proofs.YthikhkeofcjdfaaGreat
