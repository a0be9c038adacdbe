/-
  Tidy: what it answers. No condition of its own.
-/
import Derived.Test.YtmndmhnhcoblnaaGreatTidyRS
import Derived.Test.YtmndmhnhcoblnaaGreatTidyB
import Derived.Test.YtmndmhnhcoblnaaGreatCopyM
import Derived.Test.YtmndmhnhcoblnaaGreatSpecProg
import Derived.Test.YtmndmhnhcoblnaaGreatBothI
import Derived.IntWalk
namespace Go.Proofs.YtmndmhnhcoblnaaGreat
open Go.RowKit
set_option maxRecDepth 100000

/-- A program whose rules are being put together, in its box. -/
def FS (lo hi hb B : Nat) (D0 : Nat → Prop) (wb : World) (c2 c4 c5 c6 c7 : Value) (p : ProgD) (R : List RuleD) (w : World) : Prop :=
  ∃ v1 D, OwnPR lo hi D w v1 c2 c4 c5 c6 c7 { p with rules := R } ∧ (∀ f, D f → f < w.heap.size) ∧ (∀ f, D f → f ≠ hb) ∧ (∀ f, D f → D0 f ∨ B ≤ f) ∧
    w.heap[hb]? = some (.cells #[.int .i64 p.atoms, v1, c2, .bool p.projOn, c4, c5, c6, c7] 35 (0, 0)) ∧ Kp B D0 hb wb w
theorem FS.later {lo hi hb B : Nat} {D0 : Nat → Prop} {wb w w' : World} {c2 c4 c5 c6 c7 : Value} {p : ProgD} {R : List RuleD} (h : FS lo hi hb B D0 wb c2 c4 c5 c6 c7 p R w) (hB : B ≤ wb.heap.size) (b : Below w.heap.size w w') : FS lo hi hb B D0 wb c2 c4 c5 c6 c7 p R w' := by
  obtain ⟨v1, D, h1, h2, h3, h4, h5, h6⟩ := h
  exact ⟨v1, D, h1.later b, fun f hf => Nat.lt_of_lt_of_le (h2 f hf) b.size, h3, h4, (b.block hb (block_lt h5)).trans h5, h6.step (Nat.le_trans hB h6.size) b⟩
theorem FS.kp {lo hi hb B : Nat} {D0 : Nat → Prop} {wb w : World} {c2 c4 c5 c6 c7 : Value} {p : ProgD} {R : List RuleD} (h : FS lo hi hb B D0 wb c2 c4 c5 c6 c7 p R w) : Kp B D0 hb wb w := by
  obtain ⟨_, _, _, _, _, _, _, h⟩ := h
  exact h
theorem FS.append {lo hi hb B g : Nat} {D0 : Nat → Prop} {wb w w5 : World} {c2 c4 c5 c6 c7 : Value} {p : ProgD} {R : List RuleD} {r : RuleD} {ecs : List Value} (h : FS lo hi hb B D0 wb c2 c4 c5 c6 c7 p R w)
    (hB : B ≤ wb.heap.size) (hlo : lo ≤ hb) (hhi : hi ≤ hb) (b5 : Below w.heap.size w w5) (hc : Cells w5 g 0 ecs) (ho : Own w.heap.size w5 ecs r) (hl : R.length ≤ 1000)
    (i : TypeInfo) (z : Value) (hin : Tryz.prog.info? 49 = some i) (hz : i.zero = some z) (hsize : i.size = Rd.k RuleD) (hby : i.bytes = 72) (hzs : z.cells.size = Rd.k RuleD) :
    ∃ a1 n1 a2 n2 w6, w.cell? ⟨hb, 1, none⟩ = some (.slice a1 R.length n1) ∧ (Builtin.append_ #[30, 30] 30 #[.slice a1 R.length n1, .slice (some ⟨g, 0, none⟩) 1 1]).run Tryz.prog w5 = .ok (.slice a2 (R.length + 1) n2) w6 ∧
      (∃ x, w6.cell? ⟨hb, 1, none⟩ = some x) ∧ w6.frozen? ⟨hb, 1, none⟩ = false ∧ Kp B D0 hb wb w6 ∧ FS lo hi hb B D0 wb c2 c4 c5 c6 c7 p (R ++ [r]) (w6.setCell ⟨hb, 1, none⟩ (.slice a2 (R.length + 1) n2)) := by
  obtain ⟨v1, D, hP, hD, hDb, hDD, hG, hK⟩ := h
  obtain ⟨fp, of, hfp⟩ := ho
  have hP00 := hP
  obtain ⟨_, _, hr00, _⟩ := hP00
  obtain ⟨a1, n1, rfl⟩ := hr00.form
  have hBw := Nat.le_trans hB hK.size
  have hbl := block_lt hG
  obtain ⟨v4, w4, r4, hP4, b4, hk4, a4, n4, rfl⟩ := hP.append_run (P := Tryz.prog) (zs := [r]) (t := 30) (ty := 30) (ad := ⟨g, 0, none⟩) (c := 1) (fps2 := [fp]) i _ 72 Tryz.underlying30 hin hz hsize hby hzs b5 hD (by omega) ⟨g, 0, rfl, rfl, by simpa using Ow.nodup of, fun j hj => by
    have : j = 0 := by simp at hj; omega
    subst this
    exact ⟨_, by rw [Nat.zero_mul]; exact hc, of⟩⟩ (fun f hf => by simp at hf; exact hfp f hf) (by show (R.length + 1) * 72 ≤ _; omega) (by show R.length + 1 ≤ _; omega)
  have hK5 := hK.step hBw b5
  have hB5 : B ≤ w5.heap.size := Nat.le_trans hBw b5.size
  have hG5 := (b5.block hb hbl).trans hG
  have hG4 := (hk4 hb (Nat.lt_of_lt_of_le hbl b5.size) (fun hd => hDb hb hd rfl)).trans hG5
  have hK4 : Kp B D0 hb wb w4 := hK5.app hB5 hDD b4 hk4
  have hcell : ∀ {W : World} {x0 x1 x2 x3 x4 x5 x6 x7 : Value}, W.heap[hb]? = some (.cells #[x0, x1, x2, x3, x4, x5, x6, x7] 35 (0, 0)) → W.cell? ⟨hb, 1, none⟩ = some x1 := fun {W} _ _ _ _ _ _ _ _ hh => by rw [cell_of_row W hb 1 _ _ _ hh]; rfl
  have hln : (({ p with rules := R } : ProgD).rules ++ [r]).length = R.length + 1 := by simp
  rw [hln] at r4 hP4
  refine ⟨a1, n1, a4, n4, w4, hcell hG, r4, ⟨_, hcell hG4⟩, frozen_of_row w4 hb 1 _ _ hG4, hK4, ?_⟩
  · refine ⟨_, _, hP4.far (q := ⟨hb, 1, none⟩) (fun hd => by rcases hd.1 with hd | hd; exact hDb hb hd rfl; have hd : w.heap.size ≤ hb := hd; omega) (.inr hhi) _, fun f hf => by simp [World.setCell]; exact hf.2, fun f hf e => by
      rcases hf.1 with hd | hd
      · exact hDb f hd e
      · omega, fun f hf => by
      rcases hf.1 with hd | hd
      · exact hDD f hd
      · exact .inr (by omega), heap_setCell_same w4 hb 1 _ _ _ hG4, hK4.set 1 _⟩

theorem OwnPR.norules {lo hi : Nat} {D : Nat → Prop} {w : World} {c1 c2 c4 c5 c6 c7 : Value} {p : ProgD} (h : OwnPR lo hi D w c1 c2 c4 c5 c6 c7 p) : OwnPR lo hi D w (.slice none 0 0) c2 c4 c5 c6 c7 { p with rules := [] } := by
  obtain ⟨fp, h1, _, h3, h4, h5⟩ := h
  exact ⟨fp, h1, ⟨[], [], World.ownsRow_nil _ _ _ _, Els.nil _ _, by simp, fun g hg => by simp [Value.ownBlock] at hg⟩, h3, h4, h5⟩
/-- The rules that stay, tidied. -/
def tidTo (rs : List RuleD) : Nat → List RuleD
  | 0 => []
  | k + 1 => if tidyB (nth rs k) then tidTo rs k ++ [tidyRR (nth rs k)] else tidTo rs k
theorem tidTo_yes {rs : List RuleD} {k : Nat} (h : tidyB (nth rs k) = true) : tidTo rs (k + 1) = tidTo rs k ++ [tidyRR (nth rs k)] := by simp [tidTo, h]
theorem tidTo_no {rs : List RuleD} {k : Nat} (h : tidyB (nth rs k) = false) : tidTo rs (k + 1) = tidTo rs k := by simp [tidTo, h]
theorem tidTo_len (rs : List RuleD) : ∀ k, (tidTo rs k).length ≤ k
  | 0 => by simp [tidTo]
  | k + 1 => by have := tidTo_len rs k; unfold tidTo; split <;> simp <;> omega
theorem tidTo_mem {rs : List RuleD} {r : RuleD} : ∀ {k : Nat}, r ∈ tidTo rs k → ∃ x, r = tidyRR x
  | 0, h => by simp [tidTo] at h
  | k + 1, h => by
    unfold tidTo at h
    split at h
    · rcases List.mem_append.1 h with h | h
      · exact tidTo_mem h
      · exact ⟨_, List.mem_singleton.1 h⟩
    · exact tidTo_mem h
def tidD (p : ProgD) : ProgD := { p with rules := tidTo p.rules p.rules.length }
def tidR (p : ProgD) : ProgD := if progOkB p then tidD p else default
theorem tidR_no {p : ProgD} (h : progOkB p = false) : tidR p = default := by simp [tidR, h]
theorem tidR_yes {p : ProgD} (h : progOkB p = true) : tidR p = tidD p := by simp [tidR, h]


set_option maxHeartbeats 6000000 in
theorem specTidy_calls {cs : List Value} {p : ProgD} {w : World} (h : Rd.R w cs p) :
    Calls Tryz.prog 5 #[.agg cs.toArray] w fun e w' => ∃ cs', e = .returned (.agg cs'.toArray) ∧ Own w.heap.size w' cs' (tidR p) ∧ Below w.heap.size w w' := by
  have h0 := h
  obtain ⟨i3, hi3, hz30, hz31, hz32⟩ := info_parts info_copiesRule
  obtain ⟨p1, p2, p4, p5, p6, p7, rfl, hfa, g1, g2, g4, g5, g6, g7⟩ := h0
  obtain ⟨ar, kr, rfl, _, h1⟩ := g1.sl
  have hm1 := h1.1
  have sp2 := sto Tryz.prog g2.one1
  have sp4 := sto Tryz.prog g4.one1
  have sp5 := sto Tryz.prog g5.one1
  have sp6 := sto Tryz.prog g6.one1
  have sp7 := sto Tryz.prog g7.one1
  have t0 : Below w.heap.size w ((w.alloc (.cells #[.int .i64 p.atoms, .slice ar p.rules.length kr, p2, .bool p.projOn, p4, p5, p6, p7] 35)).alloc (.cells #[.int .i64 0, .slice none 0 0, .slice none 0 0, .bool false, .slice none 0 0, .slice none 0 0, .slice none 0 0, .slice none 0 0] 35)) := ((Below.refl _ _).alloc (by simp) _).alloc (by simp) _
  have CP := (Cells.new w [.int .i64 p.atoms, .slice ar p.rules.length kr, p2, .bool p.projOn, p4, p5, p6, p7] 35).alloc (.cells #[.int .i64 0, .slice none 0 0, .slice none 0 0, .bool false, .slice none 0 0, .slice none 0 0, .slice none 0 0, .slice none 0 0] 35)
  have hb0 := alloc_block (w.alloc (.cells #[.int .i64 p.atoms, .slice ar p.rules.length kr, p2, .bool p.projOn, p4, p5, p6, p7] 35)) #[.int .i64 0, .slice none 0 0, .slice none 0 0, .bool false, .slice none 0 0, .slice none 0 0, .slice none 0 0, .slice none 0 0] 35
  rw [World.size_alloc] at hb0
  cases hp : progOkB p
  · have hr := Lib.hid (tidR_no hp)
    obtain ⟨y0, y1, y2, y3, y4, y5, y6, y7⟩ := cells8 CP
    go_enter Tryz.func5, Tryz.ntmps5
    go_wp2_with fail
    refine (specProgOk_calls (Rd.mono t0 h)).mono ?_
    rintro e w1 ⟨he, b1⟩
    rw [hp] at he
    subst he
    clear y0 y1 y2 y3 y4 y5 y6 y7
    have hZ1 := (b1.block (w.heap.size + 1) (by simp)).trans hb0
    obtain ⟨z0, z1, z2, z3, z4, z5, z6, z7⟩ := cells8 (cellsOf hZ1)
    have hfz := fun j => frozen_of_row w1 (w.heap.size + 1) j _ _ hZ1
    have hz1 : w.heap.size + 1 < w1.heap.size := by have := b1.size; simp at this; omega
    have t1 := Lib.hid (t0.step b1)
    clear CP hp hZ1 hb0 t0 b1
    go_wp2
    exact bodyPost_ret (v := .agg #[.int .i64 0, .slice none 0 0, .slice none 0 0, .bool false, .slice none 0 0, .slice none 0 0, .slice none 0 0, .slice none 0 0])
      (by simp [results, Tryz.results5, go_sem, z0, z1, z2, z3, z4, z5, z6, z7]) rfl ⟨_, rfl, by rw [hr.out]; exact own_zero _ _, by
      repeat (refine Below.setCell ?_ (by simp; try omega) _)
      exact t1.out⟩
  have sp := szP_ok hp
  have nr := (progOk_rules hp).1
  have HB := Lib.hid (tidR_yes hp)
  obtain ⟨y0, y1, y2, y3, y4, y5, y6, y7⟩ := cells8 CP
  go_enter Tryz.func5, Tryz.ntmps5
  go_wp2_with fail
  refine (specProgOk_calls (Rd.mono t0 h)).mono ?_
  rintro e w1 ⟨he, b1⟩
  rw [hp] at he
  subst he
  clear y0 y1 y2 y3 y4 y5 y6 y7
  have CP1 := CP.later b1
  have t1 := t0.step b1
  have hs1 : w.heap.size + 1 + 1 ≤ w1.heap.size := by have := b1.size; simpa using this
  obtain ⟨y0, y1, y2, y3, y4, y5, y6, y7⟩ := cells8 CP1
  clear hp
  go_wp2_with fail
  clear y0 y1 y2 y3 y4 y5 y6 y7
  refine (l02Copy_calls (Rd.mono t1 h) sp).mono ?_
  rintro e w2 ⟨c1, c2, c4, c5, c6, c7, D0, rfl, hP0, hD0, b2⟩
  have hs2 : w1.heap.size ≤ w2.heap.size := b2.size
  have b12 := b1.step b2
  have t2 := t1.step b2
  have one := Rd.one hP0.own.rd
  have CP2 := CP1.later b2
  have st1 := sto Tryz.prog (one c1 (by simp))
  have st2 := sto Tryz.prog (one c2 (by simp))
  have st4 := sto Tryz.prog (one c4 (by simp))
  have st5 := sto Tryz.prog (one c5 (by simp))
  have st6 := sto Tryz.prog (one c6 (by simp))
  have st7 := sto Tryz.prog (one c7 (by simp))
  go_upto_region 4 with fail
  have b23 := (Below.refl w2.heap.size w2).alloc (Nat.le_refl _) (.cells #[.int .i64 p.atoms, c1, c2, .bool p.projOn, c4, c5, c6, c7] 35)
  have t3 := t2.alloc t2.size (.cells #[.int .i64 p.atoms, c1, c2, .bool p.projOn, c4, c5, c6, c7] 35)
  have hPa := hP0.later b23
  have hGa := alloc_block w2 #[.int .i64 p.atoms, c1, c2, .bool p.projOn, c4, c5, c6, c7] 35
  have CP3 := CP2.later b23
  have hbr3 := ((b23.block (w.heap.size + 1) (by omega)).trans (b12.block _ (by simp))).trans hb0
  have hza := World.size_alloc w2 (.cells #[.int .i64 p.atoms, c1, c2, .bool p.projOn, c4, c5, c6, c7] 35)
  generalize w2.alloc (.cells #[.int .i64 p.atoms, c1, c2, .bool p.projOn, c4, c5, c6, c7] 35) = wa at b23 t3 hPa hGa CP3 hbr3 hza ⊢
  obtain ⟨hb, hhb⟩ : ∃ hb, hb = w2.heap.size := ⟨_, rfl⟩
  obtain ⟨lo, hlo⟩ : ∃ lo, lo = w1.heap.size := ⟨_, rfl⟩
  rw [← hlo, ← hhb] at hPa
  rw [← hhb] at hGa hza hD0 ⊢
  have hlb : lo ≤ hb := by omega
  have hDb0 : ∀ f, D0 f → f ≠ hb := fun f hf => by have := hD0 f hf; omega
  have hlw : w.heap.size + 1 < lo := by omega
  have hza' : wa.heap.size = hb + 1 := hza
  have hDlo : ∀ f, D0 f → lo ≤ f := by obtain ⟨_, _, _, _, _, h⟩ := hPa; exact h
  have hfb := fun j => frozen_of_row wa hb j _ _ hGa
  have x1 : wa.cell? ⟨hb, 1, none⟩ = some c1 := by rw [cell_of_row wa hb 1 _ _ _ hGa]; rfl
  obtain ⟨wb, hwb⟩ : ∃ wb, wb = wa.setCell ⟨hb, 1, none⟩ (.slice none 0 0) := ⟨_, rfl⟩
  have hzb : wb.heap.size = hb + 1 := by rw [hwb]; simpa [World.setCell] using hza'
  have FS0 : FS lo hb hb wb.heap.size D0 wb c2 c4 c5 c6 c7 p (tidTo p.rules 0) wb := by
    refine ⟨.slice none 0 0, D0, ?_, fun f hf => by have := hD0 f hf; omega, hDb0, fun f hf => .inl hf, by rw [hwb]; exact heap_setCell_same wa hb 1 _ _ _ hGa, Kp.refl _ _ _ _⟩
    rw [hwb]
    exact (hPa.norules).far (q := ⟨hb, 1, none⟩) (fun hd => hDb0 _ hd rfl) (.inr (Nat.le_refl _)) _
  have t4 : Below w.heap.size w wb := by rw [hwb]; exact Below.setCell t3 (p := ⟨hb, 1, none⟩) (by show w.heap.size ≤ hb; omega) _
  have CP4 : Cells wb w.heap.size 0 [.int .i64 p.atoms, .slice ar p.rules.length kr, p2, .bool p.projOn, p4, p5, p6, p7] := by
    rw [hwb]; exact CP3.kept (Below.heap_setCell _ _ _ _ (by show w.heap.size ≠ hb; omega))
  have hbr4 : wb.heap[w.heap.size + 1]? = some (.cells #[.int .i64 0, .slice none 0 0, .slice none 0 0, .bool false, .slice none 0 0, .slice none 0 0, .slice none 0 0, .slice none 0 0] 35 (0, 0)) := by rw [hwb]; exact (Below.heap_setCell _ _ _ _ (by show w.heap.size + 1 ≠ hb; omega)).trans hbr3
  have y1 : (wa.setCell ⟨hb, 1, none⟩ (.slice none 0 0)).cell? ⟨w.heap.size, 1, none⟩ = some (.slice ar p.rules.length kr) := by rw [← hwb]; exact CP4.c1'
  have HWB : Hid (wb = wa.setCell ⟨hb, 1, none⟩ (.slice none 0 0)) := hwb
  clear hhb hlo hza hP0 CP CP1 CP2 CP3 b1 b2 b12 b23 t0 t1 t2 t3 st1 st2 st4 st5 st6 st7 one hwb hGa hPa hbr3 hza' hD0 hb0
  go_wp2
  clear y1 x1 hfb
  go_loopw [4, 5, 6] (fun i _ _ wr => ∃ k : Nat, k ≤ p.rules.length ∧ i = .int .i64 k ∧ FS lo hb hb wb.heap.size D0 wb c2 c4 c5 c6 c7 p (tidTo p.rules k) wr) (fun i _ _ _ => p.rules.length - (intOf i).toNat)
  case atStart => exact ⟨0, Nat.zero_le _, rfl, by rw [← HWB.out]; exact FS0⟩
  case round =>
    obtain ⟨k, hk, rfl, hF⟩ := hrel
    clear FS0
    have hKp := hF.kp
    have hszr := hKp.size
    have CPr := CP4.kept (hKp.block w.heap.size (by omega) (fun hd => by have := hDlo _ hd; omega) (by omega))
    have y1 := CPr.c1'
    have tw : Below w.heap.size w wr := t4.trans (hKp.below (by omega) (by omega) fun f hf => by have := hDlo f hf; omega)
    by_cases hlt : k < p.rules.length
    · obtain ⟨b, off, rfl, hc⟩ := h1.base (by omega)
      obtain ⟨ecs, hC, hR⟩ := hc k hlt
      have hC := hC.later tw
      have hR := Rd.mono tw hR
      have hR0 := hR
      obtain ⟨d1, d4, rfl, hf', r1, r4⟩ := hR0
      have so1 := sto Tryz.prog r1.one1
      have so4 := sto Tryz.prog r4.one1
      have u0 := hC.c0
      have u1 := hC.c1
      have u2 := hC.c2
      have u3 := hC.c3
      have u4 := hC.c4
      rw [show Rd.k RuleD = 5 from rfl] at u0 u1 u2 u3 u4
      have hlx := tidTo_len p.rules k
      have HEY := Lib.hid (tidTo_yes (rs := p.rules) (k := k))
      have HEN := Lib.hid (tidTo_no (rs := p.rules) (k := k))
      clear hC hc h1 r1 r4 hf' tw CPr hKp
      go_wp2_with fail
      clear u0 u1 u2 u3 u4 y1 so1 so4
      obtain ⟨wq, rfl⟩ : ∃ wq : World, wq = wr := ⟨_, rfl⟩
      refine (specTidyRule_calls hR).mono ?_
      rintro e w5 ⟨cs5, rfl, o5, b5⟩
      obtain ⟨e0, e1, e2, e3, e4, rfl⟩ := list5 (Rd.len o5.rd)
      have lx := Rd.one o5.rd
      have st0 := sto Tryz.prog (lx e0 (by simp))
      have st1 := sto Tryz.prog (lx e1 (by simp))
      have st2 := sto Tryz.prog (lx e2 (by simp))
      have st3 := sto Tryz.prog (lx e3 (by simp))
      have st4 := sto Tryz.prog (lx e4 (by simp))
      have bA := (Below.refl w5.heap.size w5).alloc (Nat.le_refl _) (.cells #[e0, e1, e2, e3, e4] 49)
      have bq := b5.step bA
      cases hB : tidyB (nth p.rules k)
      case false =>
        have hE := Lib.hid (HEN.out hB)
        have hF2 := hF.later (Nat.le_refl _) bq
        clear hF o5 lx b5 bA bq
        go_wp2
        go_roundw
        case rel => exact ⟨k + 1, by omega, by go_num, by rw [hE.out]; exact hF2⟩
        case measure => simp [intOf]; omega
      case true =>
        have hE := Lib.hid (HEY.out hB)
        have bB := bA.alloc (by simp) (.cells #[e0, e1, e2, e3, e4] 49)
        have hcn := Cells.new (w5.alloc (.cells #[e0, e1, e2, e3, e4] 49)) [e0, e1, e2, e3, e4] 49
        have hcb := cells5 (Cells.new w5 [e0, e1, e2, e3, e4] 49)
        obtain ⟨v0, v1, v2, v3, v4⟩ := hcb
        rw [World.size_alloc] at hcn
        obtain ⟨a1, n1, a2, n2, w6, q1, q2, q3, q4, q5, q6⟩ := hF.append (Nat.le_refl _) hlb (Nat.le_refl _) (b5.step bB) hcn ((o5.alloc _).alloc _) (by omega) i3 _ hi3 hz30 hz31 hz32 rfl
        have hq1 : (w5.alloc (.cells #[e0, e1, e2, e3, e4] 49)).cell? ⟨hb, 1, none⟩ = some (.slice a1 (tidTo p.rules k).length n1) := cell_kept bq q1
        obtain ⟨x6, q3⟩ := q3
        have Q6 := Lib.hid q6
        obtain ⟨nT, hnT⟩ : ∃ nT : Nat, nT = (tidTo p.rules k).length := ⟨_, rfl⟩
        rw [← hnT] at q1 q2 hq1 Q6
        clear hnT hcn hF q5 q6 o5 lx b5 bA bq bB
        go_wp2_with (at_builtin; refine wpList_append_of rfl _ _ rfl rfl rfl q2 ?_)
        go_roundw
        case rel => exact ⟨k + 1, by omega, by go_num, by rw [hE.out]; exact Q6.out⟩
        case measure => simp [intOf]; omega
    · obtain rfl : k = p.rules.length := by omega
      have hbr := (hKp.block (w.heap.size + 1) (by omega) (fun hd => by have := hDlo _ hd; omega) (by omega)).trans hbr4
      obtain ⟨v1, D, hP, _, hDb, _, hG, _⟩ := hF
      have hP00 := hP
      obtain ⟨_, _, hr00, _⟩ := hP00
      obtain ⟨av, nv, hv0⟩ := hr00.form
      obtain ⟨nT, hnT⟩ : ∃ nT : Nat, nT = (tidTo p.rules p.rules.length).length := ⟨_, rfl⟩
      have hv : v1 = .slice av nT nv := by rw [hv0, hnT]
      clear hv0
      subst hv
      have hfz := fun j => frozen_of_row wr (w.heap.size + 1) j _ _ hbr
      obtain ⟨x0, x1, x2, x3, x4, x5, x6, x7⟩ := cells8 (cellsOf hG)
      obtain ⟨z0, z1, z2, z3, z4, z5, z6, z7⟩ := cells8 (cellsOf hbr)
      have one1 := Rd.one hP.own.rd
      have st2 := sto Tryz.prog (one1 c2 (by simp))
      have st4 := sto Tryz.prog (one1 c4 (by simp))
      have st5 := sto Tryz.prog (one1 c5 (by simp))
      have st6 := sto Tryz.prog (one1 c6 (by simp))
      have st7 := sto Tryz.prog (one1 c7 (by simp))
      have hnD : ¬ D (w.heap.size + 1) := fun hd => by
        obtain ⟨_, _, _, _, _, hlo5⟩ := hP
        have := hlo5 _ hd
        omega
      have HF : Hid (Own w.heap.size (put wr (w.heap.size + 1) 0 [.int .i64 p.atoms, .slice av nT nv, c2, .bool p.projOn, c4, c5, c6, c7]) [.int .i64 p.atoms, .slice av nT nv, c2, .bool p.projOn, c4, c5, c6, c7] (tidD p)) :=
        (OwnPR.own (hP.chg (put_chg (w.heap.size + 1) [.int .i64 p.atoms, .slice av nT nv, c2, .bool p.projOn, c4, c5, c6, c7] wr 0) hnD (.inl hlw))).mono (by omega)
      have HT := Lib.hid (tw.trans ((put_chg (w.heap.size + 1) [.int .i64 p.atoms, .slice av nT nv, c2, .bool p.projOn, c4, c5, c6, c7] wr 0).below (lo := w.heap.size) fun g hg => by simp at hg; omega))
      clear hnT hr00 hG hbr hP one1 hKp hbr4 CP4 CPr tw
      go_wp2
      exact bodyPost_ret (v := .agg #[.int .i64 p.atoms, .slice av nT nv, c2, .bool p.projOn, c4, c5, c6, c7])
        (by simp [results, Tryz.results5, go_sem, z0, z1, z2, z3, z4, z5, z6, z7]) rfl ⟨_, rfl, by rw [HB.out]; exact HF.out, HT.out⟩

set_option maxHeartbeats 6000000 in
theorem implTidy_calls {cs : List Value} {p : ProgD} {w : World} (h : Rd.R w cs p) :
    Calls Tryz.prog 7 #[.agg cs.toArray] w fun e w' => ∃ cs', e = .returned (.agg cs'.toArray) ∧ Own w.heap.size w' cs' (tidR p) ∧ Below w.heap.size w w' := by
  have h0 := h
  obtain ⟨i3, hi3, hz30, hz31, hz32⟩ := info_parts info_copiesRule
  obtain ⟨p1, p2, p4, p5, p6, p7, rfl, hfa, g1, g2, g4, g5, g6, g7⟩ := h0
  obtain ⟨ar, kr, rfl, _, h1⟩ := g1.sl
  have hm1 := h1.1
  have sp2 := sto Tryz.prog g2.one1
  have sp4 := sto Tryz.prog g4.one1
  have sp5 := sto Tryz.prog g5.one1
  have sp6 := sto Tryz.prog g6.one1
  have sp7 := sto Tryz.prog g7.one1
  have t0 : Below w.heap.size w ((w.alloc (.cells #[.int .i64 p.atoms, .slice ar p.rules.length kr, p2, .bool p.projOn, p4, p5, p6, p7] 35)).alloc (.cells #[.int .i64 0, .slice none 0 0, .slice none 0 0, .bool false, .slice none 0 0, .slice none 0 0, .slice none 0 0, .slice none 0 0] 35)) := ((Below.refl _ _).alloc (by simp) _).alloc (by simp) _
  have CP := (Cells.new w [.int .i64 p.atoms, .slice ar p.rules.length kr, p2, .bool p.projOn, p4, p5, p6, p7] 35).alloc (.cells #[.int .i64 0, .slice none 0 0, .slice none 0 0, .bool false, .slice none 0 0, .slice none 0 0, .slice none 0 0, .slice none 0 0] 35)
  have hb0 := alloc_block (w.alloc (.cells #[.int .i64 p.atoms, .slice ar p.rules.length kr, p2, .bool p.projOn, p4, p5, p6, p7] 35)) #[.int .i64 0, .slice none 0 0, .slice none 0 0, .bool false, .slice none 0 0, .slice none 0 0, .slice none 0 0, .slice none 0 0] 35
  rw [World.size_alloc] at hb0
  cases hp : progOkB p
  · have hr := Lib.hid (tidR_no hp)
    obtain ⟨y0, y1, y2, y3, y4, y5, y6, y7⟩ := cells8 CP
    go_enter Tryz.func7, Tryz.ntmps7
    go_wp2_with fail
    refine (implProgOk_calls (Rd.mono t0 h)).mono ?_
    rintro e w1 ⟨he, b1⟩
    rw [hp] at he
    subst he
    clear y0 y1 y2 y3 y4 y5 y6 y7
    have hZ1 := (b1.block (w.heap.size + 1) (by simp)).trans hb0
    obtain ⟨z0, z1, z2, z3, z4, z5, z6, z7⟩ := cells8 (cellsOf hZ1)
    have hfz := fun j => frozen_of_row w1 (w.heap.size + 1) j _ _ hZ1
    have hz1 : w.heap.size + 1 < w1.heap.size := by have := b1.size; simp at this; omega
    have t1 := Lib.hid (t0.step b1)
    clear CP hp hZ1 hb0 t0 b1
    go_wp2
    exact bodyPost_ret (v := .agg #[.int .i64 0, .slice none 0 0, .slice none 0 0, .bool false, .slice none 0 0, .slice none 0 0, .slice none 0 0, .slice none 0 0])
      (by simp [results, Tryz.results7, go_sem, z0, z1, z2, z3, z4, z5, z6, z7]) rfl ⟨_, rfl, by rw [hr.out]; exact own_zero _ _, by
      repeat (refine Below.setCell ?_ (by simp; try omega) _)
      exact t1.out⟩
  have sp := szP_ok hp
  have nr := (progOk_rules hp).1
  have HB := Lib.hid (tidR_yes hp)
  obtain ⟨y0, y1, y2, y3, y4, y5, y6, y7⟩ := cells8 CP
  go_enter Tryz.func7, Tryz.ntmps7
  go_wp2_with fail
  refine (implProgOk_calls (Rd.mono t0 h)).mono ?_
  rintro e w1 ⟨he, b1⟩
  rw [hp] at he
  subst he
  clear y0 y1 y2 y3 y4 y5 y6 y7
  have CP1 := CP.later b1
  have t1 := t0.step b1
  have hs1 : w.heap.size + 1 + 1 ≤ w1.heap.size := by have := b1.size; simpa using this
  obtain ⟨y0, y1, y2, y3, y4, y5, y6, y7⟩ := cells8 CP1
  clear hp
  go_wp2_with fail
  clear y0 y1 y2 y3 y4 y5 y6 y7
  refine (progCopied_calls (Rd.mono t1 h) sp).mono ?_
  rintro e w2 ⟨c1, c2, c4, c5, c6, c7, D0, rfl, hP0, hD0, b2⟩
  have hs2 : w1.heap.size ≤ w2.heap.size := b2.size
  have b12 := b1.step b2
  have t2 := t1.step b2
  have one := Rd.one hP0.own.rd
  have CP2 := CP1.later b2
  have st1 := sto Tryz.prog (one c1 (by simp))
  have st2 := sto Tryz.prog (one c2 (by simp))
  have st4 := sto Tryz.prog (one c4 (by simp))
  have st5 := sto Tryz.prog (one c5 (by simp))
  have st6 := sto Tryz.prog (one c6 (by simp))
  have st7 := sto Tryz.prog (one c7 (by simp))
  go_upto_region 4 with fail
  have b23 := (Below.refl w2.heap.size w2).alloc (Nat.le_refl _) (.cells #[.int .i64 p.atoms, c1, c2, .bool p.projOn, c4, c5, c6, c7] 35)
  have t3 := t2.alloc t2.size (.cells #[.int .i64 p.atoms, c1, c2, .bool p.projOn, c4, c5, c6, c7] 35)
  have hPa := hP0.later b23
  have hGa := alloc_block w2 #[.int .i64 p.atoms, c1, c2, .bool p.projOn, c4, c5, c6, c7] 35
  have CP3 := CP2.later b23
  have hbr3 := ((b23.block (w.heap.size + 1) (by omega)).trans (b12.block _ (by simp))).trans hb0
  have hza := World.size_alloc w2 (.cells #[.int .i64 p.atoms, c1, c2, .bool p.projOn, c4, c5, c6, c7] 35)
  generalize w2.alloc (.cells #[.int .i64 p.atoms, c1, c2, .bool p.projOn, c4, c5, c6, c7] 35) = wa at b23 t3 hPa hGa CP3 hbr3 hza ⊢
  obtain ⟨hb, hhb⟩ : ∃ hb, hb = w2.heap.size := ⟨_, rfl⟩
  obtain ⟨lo, hlo⟩ : ∃ lo, lo = w1.heap.size := ⟨_, rfl⟩
  rw [← hlo, ← hhb] at hPa
  rw [← hhb] at hGa hza hD0 ⊢
  have hlb : lo ≤ hb := by omega
  have hDb0 : ∀ f, D0 f → f ≠ hb := fun f hf => by have := hD0 f hf; omega
  have hlw : w.heap.size + 1 < lo := by omega
  have hza' : wa.heap.size = hb + 1 := hza
  have hDlo : ∀ f, D0 f → lo ≤ f := by obtain ⟨_, _, _, _, _, h⟩ := hPa; exact h
  have hfb := fun j => frozen_of_row wa hb j _ _ hGa
  have x1 : wa.cell? ⟨hb, 1, none⟩ = some c1 := by rw [cell_of_row wa hb 1 _ _ _ hGa]; rfl
  obtain ⟨wb, hwb⟩ : ∃ wb, wb = wa.setCell ⟨hb, 1, none⟩ (.slice none 0 0) := ⟨_, rfl⟩
  have hzb : wb.heap.size = hb + 1 := by rw [hwb]; simpa [World.setCell] using hza'
  have FS0 : FS lo hb hb wb.heap.size D0 wb c2 c4 c5 c6 c7 p (tidTo p.rules 0) wb := by
    refine ⟨.slice none 0 0, D0, ?_, fun f hf => by have := hD0 f hf; omega, hDb0, fun f hf => .inl hf, by rw [hwb]; exact heap_setCell_same wa hb 1 _ _ _ hGa, Kp.refl _ _ _ _⟩
    rw [hwb]
    exact (hPa.norules).far (q := ⟨hb, 1, none⟩) (fun hd => hDb0 _ hd rfl) (.inr (Nat.le_refl _)) _
  have t4 : Below w.heap.size w wb := by rw [hwb]; exact Below.setCell t3 (p := ⟨hb, 1, none⟩) (by show w.heap.size ≤ hb; omega) _
  have CP4 : Cells wb w.heap.size 0 [.int .i64 p.atoms, .slice ar p.rules.length kr, p2, .bool p.projOn, p4, p5, p6, p7] := by
    rw [hwb]; exact CP3.kept (Below.heap_setCell _ _ _ _ (by show w.heap.size ≠ hb; omega))
  have hbr4 : wb.heap[w.heap.size + 1]? = some (.cells #[.int .i64 0, .slice none 0 0, .slice none 0 0, .bool false, .slice none 0 0, .slice none 0 0, .slice none 0 0, .slice none 0 0] 35 (0, 0)) := by rw [hwb]; exact (Below.heap_setCell _ _ _ _ (by show w.heap.size + 1 ≠ hb; omega)).trans hbr3
  have y1 : (wa.setCell ⟨hb, 1, none⟩ (.slice none 0 0)).cell? ⟨w.heap.size, 1, none⟩ = some (.slice ar p.rules.length kr) := by rw [← hwb]; exact CP4.c1'
  have HWB : Hid (wb = wa.setCell ⟨hb, 1, none⟩ (.slice none 0 0)) := hwb
  clear hhb hlo hza hP0 CP CP1 CP2 CP3 b1 b2 b12 b23 t0 t1 t2 t3 st1 st2 st4 st5 st6 st7 one hwb hGa hPa hbr3 hza' hD0 hb0
  go_wp2
  clear y1 x1 hfb
  go_loopw [5, 6, 7, 18] (fun _ _ _ i wr => ∃ k : Nat, k ≤ p.rules.length ∧ i = .int .i64 k ∧ FS lo hb hb wb.heap.size D0 wb c2 c4 c5 c6 c7 p (tidTo p.rules k) wr) (fun _ _ _ i _ => p.rules.length - (intOf i).toNat)
  case atStart => exact ⟨0, Nat.zero_le _, rfl, by rw [← HWB.out]; exact FS0⟩
  case round =>
    obtain ⟨k, hk, rfl, hF⟩ := hrel
    clear FS0
    have hKp := hF.kp
    have hszr := hKp.size
    have CPr := CP4.kept (hKp.block w.heap.size (by omega) (fun hd => by have := hDlo _ hd; omega) (by omega))
    have y1 := CPr.c1'
    have tw : Below w.heap.size w wr := t4.trans (hKp.below (by omega) (by omega) fun f hf => by have := hDlo f hf; omega)
    by_cases hlt : k < p.rules.length
    · obtain ⟨b, off, rfl, hc⟩ := h1.base (by omega)
      obtain ⟨ecs, hC, hR⟩ := hc k hlt
      have hC := hC.later tw
      have hR := Rd.mono tw hR
      have hR0 := hR
      obtain ⟨d1, d4, rfl, hf', r1, r4⟩ := hR0
      have so1 := sto Tryz.prog r1.one1
      have so4 := sto Tryz.prog r4.one1
      have u0 := hC.c0
      have u1 := hC.c1
      have u2 := hC.c2
      have u3 := hC.c3
      have u4 := hC.c4
      rw [show Rd.k RuleD = 5 from rfl] at u0 u1 u2 u3 u4
      have hlx := tidTo_len p.rules k
      have HEY := Lib.hid (tidTo_yes (rs := p.rules) (k := k))
      have HEN := Lib.hid (tidTo_no (rs := p.rules) (k := k))
      clear hC hc h1 r1 r4 hf' tw CPr hKp
      go_wp2_with fail
      clear u0 u1 u2 u3 u4 y1 so1 so4
      have bX := (Below.refl wr.heap.size wr).alloc (Nat.le_refl _) (.cells #[.bool (nth p.rules k).choice, d1, .bool (nth p.rules k).weight, .int .i64 (nth p.rules k).bound, d4] 49)
      replace hF := hF.later (Nat.le_refl _) bX
      replace hR := Rd.mono bX hR
      clear bX
      generalize wr.alloc (.cells #[.bool (nth p.rules k).choice, d1, .bool (nth p.rules k).weight, .int .i64 (nth p.rules k).bound, d4] 49) = wq at hF hR ⊢
      refine (implTidyRule_calls hR).mono ?_
      rintro e w5 ⟨cs5, rfl, o5, b5⟩
      obtain ⟨e0, e1, e2, e3, e4, rfl⟩ := list5 (Rd.len o5.rd)
      have lx := Rd.one o5.rd
      have st0 := sto Tryz.prog (lx e0 (by simp))
      have st1 := sto Tryz.prog (lx e1 (by simp))
      have st2 := sto Tryz.prog (lx e2 (by simp))
      have st3 := sto Tryz.prog (lx e3 (by simp))
      have st4 := sto Tryz.prog (lx e4 (by simp))
      have bA := (Below.refl w5.heap.size w5).alloc (Nat.le_refl _) (.cells #[e0, e1, e2, e3, e4] 49)
      have bq := b5.step bA
      cases hB : tidyB (nth p.rules k)
      case false =>
        have hE := Lib.hid (HEN.out hB)
        have hF2 := hF.later (Nat.le_refl _) bq
        clear hF o5 lx b5 bA bq
        go_wp2
        go_roundw
        case rel => exact ⟨k + 1, by omega, by go_num, by rw [hE.out]; exact hF2⟩
        case measure => simp [intOf]; omega
      case true =>
        have hE := Lib.hid (HEY.out hB)
        have bB := bA.alloc (by simp) (.cells #[e0, e1, e2, e3, e4] 49)
        have hcn := Cells.new (w5.alloc (.cells #[e0, e1, e2, e3, e4] 49)) [e0, e1, e2, e3, e4] 49
        have hcb := cells5 (Cells.new w5 [e0, e1, e2, e3, e4] 49)
        obtain ⟨v0, v1, v2, v3, v4⟩ := hcb
        rw [World.size_alloc] at hcn
        obtain ⟨a1, n1, a2, n2, w6, q1, q2, q3, q4, q5, q6⟩ := hF.append (Nat.le_refl _) hlb (Nat.le_refl _) (b5.step bB) hcn ((o5.alloc _).alloc _) (by omega) i3 _ hi3 hz30 hz31 hz32 rfl
        have hq1 : (w5.alloc (.cells #[e0, e1, e2, e3, e4] 49)).cell? ⟨hb, 1, none⟩ = some (.slice a1 (tidTo p.rules k).length n1) := cell_kept bq q1
        obtain ⟨x6, q3⟩ := q3
        have Q6 := Lib.hid q6
        obtain ⟨nT, hnT⟩ : ∃ nT : Nat, nT = (tidTo p.rules k).length := ⟨_, rfl⟩
        rw [← hnT] at q1 q2 hq1 Q6
        clear hnT hcn hF q5 q6 o5 lx b5 bA bq bB
        go_wp2_with (at_builtin; refine wpList_append_of rfl _ _ rfl rfl rfl q2 ?_)
        go_roundw
        case rel => exact ⟨k + 1, by omega, by go_num, by rw [hE.out]; exact Q6.out⟩
        case measure => simp [intOf]; omega
    · obtain rfl : k = p.rules.length := by omega
      have hbr := (hKp.block (w.heap.size + 1) (by omega) (fun hd => by have := hDlo _ hd; omega) (by omega)).trans hbr4
      obtain ⟨v1, D, hP, _, hDb, _, hG, _⟩ := hF
      have hP00 := hP
      obtain ⟨_, _, hr00, _⟩ := hP00
      obtain ⟨av, nv, hv0⟩ := hr00.form
      obtain ⟨nT, hnT⟩ : ∃ nT : Nat, nT = (tidTo p.rules p.rules.length).length := ⟨_, rfl⟩
      have hv : v1 = .slice av nT nv := by rw [hv0, hnT]
      clear hv0
      subst hv
      have hfz := fun j => frozen_of_row wr (w.heap.size + 1) j _ _ hbr
      obtain ⟨x0, x1, x2, x3, x4, x5, x6, x7⟩ := cells8 (cellsOf hG)
      obtain ⟨z0, z1, z2, z3, z4, z5, z6, z7⟩ := cells8 (cellsOf hbr)
      have one1 := Rd.one hP.own.rd
      have st2 := sto Tryz.prog (one1 c2 (by simp))
      have st4 := sto Tryz.prog (one1 c4 (by simp))
      have st5 := sto Tryz.prog (one1 c5 (by simp))
      have st6 := sto Tryz.prog (one1 c6 (by simp))
      have st7 := sto Tryz.prog (one1 c7 (by simp))
      have hnD : ¬ D (w.heap.size + 1) := fun hd => by
        obtain ⟨_, _, _, _, _, hlo5⟩ := hP
        have := hlo5 _ hd
        omega
      have HF : Hid (Own w.heap.size (put wr (w.heap.size + 1) 0 [.int .i64 p.atoms, .slice av nT nv, c2, .bool p.projOn, c4, c5, c6, c7]) [.int .i64 p.atoms, .slice av nT nv, c2, .bool p.projOn, c4, c5, c6, c7] (tidD p)) :=
        (OwnPR.own (hP.chg (put_chg (w.heap.size + 1) [.int .i64 p.atoms, .slice av nT nv, c2, .bool p.projOn, c4, c5, c6, c7] wr 0) hnD (.inl hlw))).mono (by omega)
      have HT := Lib.hid (tw.trans ((put_chg (w.heap.size + 1) [.int .i64 p.atoms, .slice av nT nv, c2, .bool p.projOn, c4, c5, c6, c7] wr 0).below (lo := w.heap.size) fun g hg => by simp at hg; omega))
      clear hnT hr00 hG hbr hP one1 hKp hbr4 CP4 CPr tw
      go_wp2
      exact bodyPost_ret (v := .agg #[.int .i64 p.atoms, .slice av nT nv, c2, .bool p.projOn, c4, c5, c6, c7])
        (by simp [results, Tryz.results7, go_sem, z0, z1, z2, z3, z4, z5, z6, z7]) rfl ⟨_, rfl, by rw [HB.out]; exact HF.out, HT.out⟩

end Go.Proofs.YtmndmhnhcoblnaaGreat
