/-
  A heap of levels: the first one goes out. No condition of its own.
-/
import Derived.Test.YtiemlklngmifdaaGreatHeap
import Derived.Shelf.RegionOpen
import Derived.Deep.CutRange
import Derived.Deep.CutBlock
import Derived.Deep.DeepCutAuto
namespace Go.Proofs.YtiemlklngmifdaaGreat
set_option linter.unusedVariables false
set_option linter.unusedSimpArgs false
open Go.RowKit
set_option maxRecDepth 100000

/-- The place of the greatest so far: of i and those below it that lie ahead of b. -/
structure Mx (ys : List LvC) (i b n : Nat) : Prop where
  up : ky ys i ≤ ky ys n
  all : ∀ j, j < b → 2 * i + 1 ≤ j → j < ys.length → ky ys j ≤ ky ys n
  is : n = i ∨ (2 * i + 1 ≤ n ∧ n ≤ 2 * i + 2 ∧ n < ys.length)
theorem Mx.start {ys : List LvC} {i : Nat} : Mx ys i (2 * i + 1) i := ⟨Int.le_refl _, fun j h1 h2 _ => by omega, .inl rfl⟩
theorem Mx.keep {ys : List LvC} {i b n : Nat} (h : Mx ys i b n) (hk : ¬ ky ys n < ky ys b) : Mx ys i (b + 1) n :=
  ⟨h.up, fun j h1 h2 h3 => by
    by_cases e : j = b
    · subst e; omega
    · exact h.all j (by omega) h2 h3, h.is⟩
theorem Mx.take {ys : List LvC} {i b n : Nat} (h : Mx ys i b n) (hb : 2 * i + 1 ≤ b) (hb2 : b ≤ 2 * i + 2) (hl : b < ys.length) (hk : ky ys n < ky ys b) : Mx ys i (b + 1) b :=
  ⟨Int.le_trans h.up (Int.le_of_lt hk), fun j h1 h2 h3 => by
    by_cases e : j = b
    · subst e; exact Int.le_refl _
    · exact Int.le_trans (h.all j (by omega) h2 h3) (Int.le_of_lt hk), .inr ⟨hb, hb2, hl⟩⟩
theorem Mx.kids {ys : List LvC} {i b n : Nat} (h : Mx ys i b n) (hb : b = 2 * i + 3 ∨ ys.length ≤ b) : ∀ j, 0 < j → j < ys.length → (j - 1) / 2 = i → ky ys j ≤ ky ys n :=
  fun j h0 hl hp => h.all j (by omega) (by omega) hl

set_option maxHeartbeats 4000000 in
theorem sink_calls {lo Bh m cap0 : Nat} {a0 : Option Addr} {zs : List LvC} {w : World} (h : HM lo w Bh (.slice a0 m cap0) zs) (hs : HpS zs 0) :
    Calls Tryz.prog 185 #[.pointer (some ⟨Bh, 0, none⟩)] w fun e w' => (∃ r, e = .returned r) ∧
      ∃ ys, HM lo w' Bh (.slice a0 m cap0) ys ∧ ys.Perm zs ∧ Hp ys ∧ Ch (fun g => (Value.slice a0 m cap0).ownBlock = some g) w w' := by
  have HMM : Hid (m = zs.length) := by
    obtain ⟨a', c', e⟩ := h.sl
    exact (Value.slice.inj e).2.1
  have hsm : m ≤ 1048576 := by rw [HMM.out]; exact h.small
  go_enter Tryz.func185, Tryz.ntmps185
  go_wp2
  go_loopw [2, 3] (fun p q wr => ∃ (i : Nat) (ys : List LvC), p = .int .i64 (i : Int) ∧ q = .int .i64 (i : Int) ∧ (i < m ∨ i = 0) ∧ HM lo wr Bh (.slice a0 m cap0) ys ∧ ys.Perm zs ∧ HpS ys i ∧ Ch (fun g => (Value.slice a0 m cap0).ownBlock = some g) w wr) (fun p _ _ => m - (intOf p).toNat)
  case atStart => exact ⟨0, zs, rfl, rfl, .inr rfl, h, List.Perm.refl _, hs, Ch.refl _ _⟩
  case round =>
    obtain ⟨i, ys, rfl, rfl, hi, hM, hpm, hu, hch⟩ := hrel
    have hI : i ≤ 1048576 := by omega
    have HL : Hid (ys.length = m) := hpm.length_eq.trans HMM.out.symm
    obtain ⟨wo, rfl⟩ : ∃ wo, wo = wr := ⟨_, rfl⟩
    go_upto_region 3 with fail
    go_loopw [3, 4] (fun q r wr => ∃ (n b : Nat), q = .int .i64 (n : Int) ∧ r = .int .i64 (b : Int) ∧ (2 * i + 1 ≤ b ∧ b ≤ 2 * i + 3) ∧ Mx ys i b n ∧ HM lo wr Bh (.slice a0 m cap0) ys ∧ Ch (fun g => (Value.slice a0 m cap0).ownBlock = some g) w wr) (fun _ r _ => 2 * i + 3 - (intOf r).toNat)
    case atStart => exact ⟨i, 2 * i + 1, rfl, by go_num, ⟨by omega, by omega⟩, Mx.start, hM, hch⟩
    case round =>
      obtain ⟨n, b, rfl, rfl, ⟨hb1, hb2⟩, hmx, hM, hch⟩ := hrel
      obtain ⟨c0, c1, cf⟩ := hM.c
      by_cases hb3 : b ≤ 2 * i + 2
      · have hb3' : (b : Int) ≤ 2 * (i : Int) + 2 := by omega
        by_cases hb4 : b < m
        · have hb4' : (b : Int) < (m : Int) := by omega
          have hHM := hM.op (by rw [HL.out]; omega)
          obtain ⟨g2, cap2, hv2, hg2, _, _, _, hcell⟩ := hHM
          obtain ⟨ev1, ev2, ev3⟩ := Value.slice.inj hv2
          subst ev1
          have hnn : n < m := by rcases hmx.is with h | h <;> omega
          have hnn' : (n : Int) < (m : Int) := by omega
          obtain ⟨p0, p1⟩ := hcell b (by rw [HL.out]; exact hb4)
          obtain ⟨q0, q1⟩ := hcell n (by rw [HL.out]; exact hnn)
          have hkk : Hid (ky ys b = (nth ys b).p ∧ ky ys n = (nth ys n).p) := ⟨rfl, rfl⟩
          have hlb : Hid (b < ys.length) := by show b < ys.length; rw [HL.out]; exact hb4
          clear hcell hv2 ev2 ev3
          generalize nth ys b = x at *
          generalize nth ys n = y at *
          obtain ⟨ap, aa, an, ac⟩ := x
          obtain ⟨bp, ba, bn, bc⟩ := y
          dsimp only at p0 p1 q0 q1
          go_wp2_with fail
          go_still_tail 18, (by kernel_rfl)
          go_wp2_with fail
          refine (ahead_calls _ _ _ _ _ _ _ _ _).mono ?_
          rintro e w2 ⟨rfl, hb⟩
          have hb : Below wr.heap.size wr w2 := (Below.refl _ _).drew.trans hb
          have hM2 := hM.ch (D := fun _ => False) (Ch.of hb) id (fun _ _ _ => id)
          have hch2 := hch.trans (Ch.of hb)
          clear p0 p1 q0 q1 c0 c1 cf
          by_cases hgt : bp < ap
          · have hmx2 := hmx.take hb1 hb3 hlb.out (by rw [hkk.out.1, hkk.out.2]; exact hgt)
            go_wp2
            go_roundw
            case rel => exact ⟨b, b + 1, rfl, by go_num, ⟨by omega, by omega⟩, hmx2, hM2, hch2⟩
            case measure => simp [intOf]; omega
          · have hmx2 := hmx.keep (by rw [hkk.out.1, hkk.out.2]; exact hgt)
            go_wp2
            go_roundw
            case rel => exact ⟨n, b + 1, rfl, by go_num, ⟨by omega, by omega⟩, hmx2, hM2, hch2⟩
            case measure => simp [intOf]; omega
        · have hb4' : (m : Int) ≤ (b : Int) := by omega
          have hx : b = 2 * i + 3 ∨ ys.length ≤ b := .inr (by rw [HL.out]; omega)
          by_cases e : n = i
          · subst e
            have hD := Lib.hid (hpS_done hu (hmx.kids hx))
            clear hx hmx hu
            go_wp2
            refine bodyPost_ret (results_none rfl _ _ _) rfl ?_
            exact ⟨⟨_, rfl⟩, ys, hM, hpm, hD.out, hch⟩
          · have eb : ((n : Int) == (i : Int)) = false := beq_eq_false_iff_ne.2 (by omega)
            have ebn : (n == i) = false := by simpa using e
            obtain ⟨hn1, hn2, hn3⟩ : 2 * i + 1 ≤ n ∧ n ≤ 2 * i + 2 ∧ n < ys.length := by rcases hmx.is with h | h; exact absurd h e; exact h
            have hU2 : Hid (HpS (swp ys i n) n) := hpS_swap hu (by omega) hn3 (by omega) (by omega) hmx.up (hmx.kids hx)
            have hsw := Lib.hid (fun (w' : World) (h' : HM lo w' Bh (.slice a0 m cap0) ys) => swap_calls h' (show i < ys.length by omega) hn3 (fun h => e h.symm))
            have hpm2 : Hid ((swp ys i n).Perm zs) := (swp_perm (by omega) hn3).trans hpm
            have hnm : n < m := by rw [← HL.out]; exact hn3
            clear hx hmx hu hn3 e
            go_wp2_with fail
            refine (hsw.out _ hM).mono ?_
            rintro e w3 ⟨⟨r, rfl⟩, hM3, hch3⟩
            have hch4 := hch.trans hch3
            clear c0 c1 cf
            go_wp2
            go_roundw
            case rel => exact ⟨n, _, rfl, rfl, .inl hnm, hM3, hpm2.out, hU2.out, hch4⟩
            case measure => simp [intOf]; omega
      · have hb3' : 2 * (i : Int) + 2 < (b : Int) := by omega
        have hx : b = 2 * i + 3 ∨ ys.length ≤ b := .inl (by omega)
        by_cases e : n = i
        · subst e
          have hD := Lib.hid (hpS_done hu (hmx.kids hx))
          clear hx hmx hu
          go_wp2
          refine bodyPost_ret (results_none rfl _ _ _) rfl ?_
          exact ⟨⟨_, rfl⟩, ys, hM, hpm, hD.out, hch⟩
        · have eb : ((n : Int) == (i : Int)) = false := beq_eq_false_iff_ne.2 (by omega)
          have ebn : (n == i) = false := by simpa using e
          obtain ⟨hn1, hn2, hn3⟩ : 2 * i + 1 ≤ n ∧ n ≤ 2 * i + 2 ∧ n < ys.length := by rcases hmx.is with h | h; exact absurd h e; exact h
          have hU2 : Hid (HpS (swp ys i n) n) := hpS_swap hu (by omega) hn3 (by omega) (by omega) hmx.up (hmx.kids hx)
          have hsw := Lib.hid (fun (w' : World) (h' : HM lo w' Bh (.slice a0 m cap0) ys) => swap_calls h' (show i < ys.length by omega) hn3 (fun h => e h.symm))
          have hpm2 : Hid ((swp ys i n).Perm zs) := (swp_perm (by omega) hn3).trans hpm
          have hnm : n < m := by rw [← HL.out]; exact hn3
          clear hx hmx hu hn3 e
          go_wp2_with fail
          refine (hsw.out _ hM).mono ?_
          rintro e w3 ⟨⟨r, rfl⟩, hM3, hch3⟩
          have hch4 := hch.trans hch3
          clear c0 c1 cf
          go_wp2
          go_roundw
          case rel => exact ⟨n, _, rfl, rfl, .inl hnm, hM3, hpm2.out, hU2.out, hch4⟩
          case measure => simp [intOf]; omega

theorem takeE {P : Program} {ops : Array Oper} {Q : Exit → Act → World → Prop} {md : Region.Mode} {S : World → Prop} {i : Nat} {oi : Oper} {v : Value} (d : Option Tmp) {fuel : Nat} {listed : Array Bool} {a : Act} {w : World} (hi : ops[i]? = some oi) (hd : oi.dst = d)
    (hs : Region.noSelect ops = true) (hf : Region.free md ops listed i = true) (hr : (Region.ready md ops listed).contains i = true)
    (hQ : ∀ c a w, Q (.panic c) (a.put oi.dst v) w → Q (.panic c) a w) (hy : YieldsIf P ops S oi v a) (hS : S w)
    (h : wpAnyH P md ops Q S fuel (listed.setIfInBounds i true) (a.put d v) w) : wpAnyH P md ops Q S (fuel + 1) listed a w := by
  subst hd
  exact wpAnyH_take hi hs hf hr hQ hy hS h
set_option maxHeartbeats 4000000 in
theorem pop_calls {lo Bh g m cap : Nat} {zs : List LvC} {w : World} (h : HM lo w Bh (.slice (some ⟨g, 0, none⟩) (m + 1) cap) zs) (hp : Hp zs) :
    Calls Tryz.prog 161 #[.pointer (some ⟨Bh, 0, none⟩)] w fun e w' => e = .returned (.agg #[.int .i64 (nth zs 0).p, .slice (nth zs 0).a (nth zs 0).n (nth zs 0).c]) ∧
      ∃ ys, HM lo w' Bh (.slice (some ⟨g, 0, none⟩) m cap) ys ∧ ys.Perm (popL zs) ∧ Hp ys ∧ Ch (fun k => k = Bh ∨ k = g) w w' := by
  have HMM : Hid (zs.length = m + 1) := by
    obtain ⟨a', c', e⟩ := h.sl
    exact (Value.slice.inj e).2.1.symm
  have hlt := h.lt
  obtain ⟨g2, cap2, hv2, hg2, hcc, _, hfr, hcell⟩ := h.op (by rw [HMM.out]; omega)
  obtain ⟨ev1, ev2, ev3⟩ := Value.slice.inj hv2
  cases ev1
  cases ev3
  rw [HMM.out] at hcc
  obtain ⟨p0, p1⟩ := hcell 0 (by rw [HMM.out]; omega)
  obtain ⟨q0, q1⟩ := hcell m (by rw [HMM.out]; omega)
  have hfz := h.row.2 _ (nth_mem (show m < zs.length by rw [HMM.out]; omega))
  have hsm : m ≤ 1048576 := by have := h.small; rw [HMM.out] at this; omega
  obtain ⟨c0, c1, cf⟩ := h.c
  have f0 := hfr 0
  have f1 := hfr 1
  rw [Nat.zero_mul] at p0
  rw [Nat.zero_mul, Nat.zero_add] at p1
  have hgB : g ≠ Bh := by omega
  have hBs := block_lt h.box
  have hgs : g < w.heap.size := cell_lt (p := ⟨g, 0, none⟩) p0
  -- the worlds
  have HP : Hid (∀ W : World, Below w.heap.size w W → ∃ W2, W2 = (put W g 0 (nth zs m).enc).setCell ⟨Bh, 0, none⟩ (.slice (some ⟨g, 0, none⟩) m cap) ∧ HM lo W2 Bh (.slice (some ⟨g, 0, none⟩) m cap) (popL zs) ∧ Ch (fun k => k = Bh ∨ k = g) W W2) := fun W hb => by
    have h1 := h.ch (D := fun _ => False) (Ch.of hb) id (fun _ _ _ => id)
    have r1 := h1.row.putE (i := 0) (by rw [HMM.out]; omega) hfz
    rw [show 0 * Rd.k LvC = 0 from rfl] at r1
    have r2 := r1.takeE (k := m) (by rw [List.length_set, HMM.out]; omega)
    have k1 := put_chg g (nth zs m).enc W 0
    have hbx := (k1.block Bh (by simp; omega)).trans h1.box
    refine ⟨_, rfl, ⟨?_, ?_, hlt, ?_⟩, ?_⟩
    · rw [heap_setCell_same _ Bh 0 _ _ _ hbx]; simp
    · have e : popL zs = (zs.set 0 (nth zs m)).take m := by unfold popL; rw [HMM.out]; rfl
      rw [e]
      exact ⟨ownsRow_setCell_below r2.1 (show Bh < lo from hlt) _, r2.2⟩
    · rw [popL_len, HMM.out]; omega
    · exact (show Ch (fun k => k = Bh ∨ k = g) W (put W g 0 (nth zs m).enc) from ⟨k1.os, k1.tape, k1.output, Nat.le_of_eq k1.size.symm, fun k _ hn => k1.block k (fun hm => hn (.inr (by simpa using hm)))⟩).set 0 _ (.inl rfl)
  have hs0 := popL_hp hp
  clear hcell hfr hv2 ev2 hfz
  have HH := Lib.hid h
  clear h
  generalize nth zs 0 = x at *
  generalize nth zs m = y at *
  obtain ⟨xp, xa, xn, xc⟩ := x
  obtain ⟨yp, ya, yn, yc⟩ := y
  dsimp only at p0 p1 q0 q1
  go_enter Tryz.func161, Tryz.ntmps161
  go_wp2
  have tA : Below w.heap.size w (w.alloc (.cells #[.int .i64 0, .slice none 0 0] 102)) := (Below.refl _ _).alloc (by simp) _
  have CR := alloc_block w #[.int .i64 0, .slice none 0 0] 102
  have zA : (w.alloc (.cells #[.int .i64 0, .slice none 0 0] 102)).heap.size = w.heap.size + 1 := by simp
  generalize w.alloc (.cells #[.int .i64 0, .slice none 0 0] 102) = wA at *
  have hA := HH.out.ch (D := fun _ => False) (Ch.of tA) id (fun _ _ _ => id)
  obtain ⟨k0, _, kf⟩ := hA.c
  obtain ⟨bc, bf⟩ := bcell tA
  have p0' : wA.cell? ⟨g, 0, none⟩ = _ := (bc g 0 hgs).trans p0
  have p1' : wA.cell? ⟨g, 1, none⟩ = _ := (bc g 1 hgs).trans p1
  have hwm : IntKind.i64.wrap (m : Int) = (m : Int) := IntWalk.i64_in _ (by omega)
  have tB := tA.alloc tA.size (.cells #[.int .i64 xp, .slice xa xn xc] 102)
  have CF := alloc_block wA #[.int .i64 xp, .slice xa xn xc] 102
  have CR2 := (Below.heap_alloc wA (.cells #[.int .i64 xp, .slice xa xn xc] 102) w.heap.size (by omega)).trans CR
  rw [zA] at CF
  have tZ := (Below.refl wA.heap.size wA).alloc (Nat.le_refl _) (.cells #[.int .i64 0, .slice none 0 0] 102)
  have tX := (Below.refl wA.heap.size wA).alloc (Nat.le_refl _) (.cells #[.int .i64 xp, .slice xa xn xc] 102)
  obtain ⟨bz, _⟩ := bcell tZ
  obtain ⟨bx, _⟩ := bcell tX
  have hBA : Bh < wA.heap.size := by omega
  have hgA : g < wA.heap.size := by omega
  have zZ := (alloc_block wA #[.int .i64 0, .slice none 0 0] 102)
  refine wp_region_held_drew (S := fun w' => w'.cell? ⟨Bh, 0, none⟩ = some (.slice (some ⟨g, 0, none⟩) (m + 1) cap) ∧ w'.cell? ⟨g, 0, none⟩ = some (.int .i64 xp) ∧ w'.cell? ⟨g, 1, none⟩ = some (.slice xa xn xc)) (by kernel_rfl) ⟨k0, p0', p1'⟩ (fun hHeld => ?_)
  refine wpAnyH_take (i := 0) (v := .pointer (some ⟨Bh, 0, none⟩)) rfl (by kernel_rfl) (by kernel_rfl) (by kernel_rfl) (fun _ _ _ h => h) (Or.inl ⟨by rfl, fun w' hw' => ?_⟩) hHeld ?_
  · first | (go_simp; done) | (obtain ⟨s0, s1, s2⟩ := hw'; go_simp)
  try simp only [Act.put, List.setIfInBounds_toArray, List.set_cons_zero, List.set_cons_succ]
  refine wpAnyH_take (i := 1) (v := .pointer (some ⟨Bh, 0, none⟩)) rfl (by kernel_rfl) (by kernel_rfl) (by kernel_rfl) (fun _ _ _ h => h) (Or.inl ⟨by rfl, fun w' hw' => ?_⟩) hHeld ?_
  · first | (go_simp; done) | (obtain ⟨s0, s1, s2⟩ := hw'; go_simp)
  try simp only [Act.put, List.setIfInBounds_toArray, List.set_cons_zero, List.set_cons_succ]
  refine wpAnyH_take (i := 2) (v := .pointer (some ⟨Bh, 0, none⟩)) rfl (by kernel_rfl) (by kernel_rfl) (by kernel_rfl) (fun _ _ _ h => h) (Or.inl ⟨by rfl, fun w' hw' => ?_⟩) hHeld ?_
  · first | (go_simp; done) | (obtain ⟨s0, s1, s2⟩ := hw'; go_simp)
  try simp only [Act.put, List.setIfInBounds_toArray, List.set_cons_zero, List.set_cons_succ]
  refine wpAnyH_take (i := 3) (v := .slice (some ⟨g, 0, none⟩) (m + 1) cap) rfl (by kernel_rfl) (by kernel_rfl) (by kernel_rfl) (fun _ _ _ h => h) (Or.inl ⟨by rfl, fun w' hw' => ?_⟩) hHeld ?_
  · first | (go_simp; done) | (obtain ⟨s0, s1, s2⟩ := hw'; go_simp)
  try simp only [Act.put, List.setIfInBounds_toArray, List.set_cons_zero, List.set_cons_succ]
  refine wpAnyH_take (i := 4) (v := .pointer (some ⟨g, 0, none⟩)) rfl (by kernel_rfl) (by kernel_rfl) (by kernel_rfl) (fun _ _ _ h => h) (Or.inl ⟨by rfl, fun w' hw' => ?_⟩) hHeld ?_
  · first | (go_simp; done) | (obtain ⟨s0, s1, s2⟩ := hw'; go_simp)
  try simp only [Act.put, List.setIfInBounds_toArray, List.set_cons_zero, List.set_cons_succ]
  refine wpAnyH_take (i := 5) (v := .agg #[.int .i64 xp, .slice xa xn xc]) rfl (by kernel_rfl) (by kernel_rfl) (by kernel_rfl) (fun _ _ _ h => h) (Or.inl ⟨by rfl, fun w' hw' => ?_⟩) hHeld ?_
  · first | (go_simp; done) | (obtain ⟨s0, s1, s2⟩ := hw'; go_simp)
  try simp only [Act.put, List.setIfInBounds_toArray, List.set_cons_zero, List.set_cons_succ]
  refine wpAnyH_take (i := 6) (v := .pointer (some ⟨Bh, 0, none⟩)) rfl (by kernel_rfl) (by kernel_rfl) (by kernel_rfl) (fun _ _ _ h => h) (Or.inl ⟨by rfl, fun w' hw' => ?_⟩) hHeld ?_
  · first | (go_simp; done) | (obtain ⟨s0, s1, s2⟩ := hw'; go_simp)
  try simp only [Act.put, List.setIfInBounds_toArray, List.set_cons_zero, List.set_cons_succ]
  refine wpAnyH_take (i := 7) (v := .pointer (some ⟨Bh, 0, none⟩)) rfl (by kernel_rfl) (by kernel_rfl) (by kernel_rfl) (fun _ _ _ h => h) (Or.inl ⟨by rfl, fun w' hw' => ?_⟩) hHeld ?_
  · first | (go_simp; done) | (obtain ⟨s0, s1, s2⟩ := hw'; go_simp)
  try simp only [Act.put, List.setIfInBounds_toArray, List.set_cons_zero, List.set_cons_succ]
  refine wpAnyH_take (i := 8) (v := .pointer (some ⟨Bh, 0, none⟩)) rfl (by kernel_rfl) (by kernel_rfl) (by kernel_rfl) (fun _ _ _ h => h) (Or.inl ⟨by rfl, fun w' hw' => ?_⟩) hHeld ?_
  · first | (go_simp; done) | (obtain ⟨s0, s1, s2⟩ := hw'; go_simp)
  try simp only [Act.put, List.setIfInBounds_toArray, List.set_cons_zero, List.set_cons_succ]
  refine wpAnyH_take (i := 9) (v := .slice (some ⟨g, 0, none⟩) (m + 1) cap) rfl (by kernel_rfl) (by kernel_rfl) (by kernel_rfl) (fun _ _ _ h => h) (Or.inl ⟨by rfl, fun w' hw' => ?_⟩) hHeld ?_
  · first | (go_simp; done) | (obtain ⟨s0, s1, s2⟩ := hw'; go_simp)
  try simp only [Act.put, List.setIfInBounds_toArray, List.set_cons_zero, List.set_cons_succ]
  refine wpAnyH_take (i := 10) (v := .int .i64 ((m : Int) + 1)) rfl (by kernel_rfl) (by kernel_rfl) (by kernel_rfl) (fun _ _ _ h => h) (Or.inl ⟨by rfl, fun w' hw' => ?_⟩) hHeld ?_
  · first | (go_simp; done) | (obtain ⟨s0, s1, s2⟩ := hw'; go_simp)
  try simp only [Act.put, List.setIfInBounds_toArray, List.set_cons_zero, List.set_cons_succ]
  refine wpAnyH_take (i := 11) (v := .int .i64 (m : Int)) rfl (by kernel_rfl) (by kernel_rfl) (by kernel_rfl) (fun _ _ _ h => h) (Or.inl ⟨by rfl, fun w' hw' => ?_⟩) hHeld ?_
  · first | (go_simp; done) | (obtain ⟨s0, s1, s2⟩ := hw'; go_simp)
  try simp only [Act.put, List.setIfInBounds_toArray, List.set_cons_zero, List.set_cons_succ]
  refine wpAnyH_ready (rs := [12]) (by kernel_rfl) (by simp) ?_
  refine AllReadyH.cons rfl (fun K hK => ?_) AllReadyH.nil
  go_simp
  refine hK.out _ _ ⟨(bz _ _ hBA).trans k0, (bz _ _ hgA).trans p0', (bz _ _ hgA).trans p1'⟩ (fun hHeld => ?_)
  clear hK K
  try simp only [Act.put, List.setIfInBounds_toArray, List.set_cons_zero, List.set_cons_succ]
  refine wpAnyH_ready (rs := [13]) (by kernel_rfl) (by simp) ?_
  refine AllReadyH.cons rfl (fun K hK => ?_) AllReadyH.nil
  go_simp
  refine hK.out _ _ ⟨(bx _ _ hBA).trans k0, (bx _ _ hgA).trans p0', (bx _ _ hgA).trans p1'⟩ (fun hHeld => ?_)
  clear hK K
  try simp only [Act.put, List.setIfInBounds_toArray, List.set_cons_zero, List.set_cons_succ]
  refine takeE (i := 14) (v := .int .i64 (m : Int)) (some 4) rfl rfl (by kernel_rfl) (by kernel_rfl) (by kernel_rfl) (fun _ _ _ h => h) (Or.inl ⟨by rfl, fun w' hw' => ?_⟩) hHeld ?_
  · go_simp
  try simp only [Act.put, List.setIfInBounds_toArray, List.set_cons_zero, List.set_cons_succ]
  refine wpAnyH_done (by kernel_rfl) ?_ _
  go_wp2_with fail
  clear p0' p1' k0 kf bc bf hA tZ tX bz bx
  have hN : ∀ W : World, W = (wA.alloc (.cells #[.int .i64 xp, .slice xa xn xc] 102)).drew → Below w.heap.size w W ∧ W.heap[w.heap.size + 1]? = some (.cells #[.int .i64 xp, .slice xa xn xc] 102 (0, 0)) ∧ W.heap[w.heap.size]? = some (.cells #[.int .i64 0, .slice none 0 0] 102 (0, 0)) ∧ W.heap.size = w.heap.size + 2 := fun W e => by
    subst e
    exact ⟨tB.drew, CF, CR2, by show (wA.alloc _).heap.size = _; rw [World.size_alloc, zA]⟩
  obtain ⟨tC, CF, CR, zC⟩ := hN _ rfl
  clear hN CR2 tB
  generalize (wA.alloc (.cells #[.int .i64 xp, .slice xa xn xc] 102)).drew = wC at *
  have hC := HH.out.ch (D := fun _ => False) (Ch.of tC) id (fun _ _ _ => id)
  obtain ⟨k0, _, kf⟩ := hC.c
  obtain ⟨bc, bf⟩ := bcell tC
  have hqs : g < w.heap.size := hgs
  have p0' : wC.cell? ⟨g, 0, none⟩ = _ := (bc g 0 hgs).trans p0
  have p1' : wC.cell? ⟨g, 1, none⟩ = _ := (bc g 1 hgs).trans p1
  have q0' : wC.cell? ⟨g, m * 2, none⟩ = _ := (bc g _ hgs).trans q0
  have q1' : wC.cell? ⟨g, m * 2 + 1, none⟩ = _ := (bc g _ hgs).trans q1
  have f0' : wC.frozen? ⟨g, 0, none⟩ = false := (bf g _ hgs).trans f0
  have f1' : wC.frozen? ⟨g, 1, none⟩ = false := (bf g _ hgs).trans f1
  have kf0 := kf 0
  have hm1 : (m : Int) < (m : Int) + 1 := by omega
  have hm2 : (m : Int) ≤ (cap : Int) := by omega
  have hBg : Bh ≠ g := Ne.symm hgB
  clear q0 q1 f0 f1 bc bf p0 p1
  go_still_tail 12, (by kernel_rfl)
  obtain ⟨W2, hW2, hM2, hch2⟩ := HP.out wC tC
  subst hW2
  go_wp2_with fail
  refine (sink_calls (show HM lo ((((wC.setCell ⟨g, 0, none⟩ (.int .i64 yp)).setCell ⟨g, 1, none⟩ (.slice ya yn yc)).setCell ⟨Bh, 0, none⟩ (.slice (some ⟨g, 0, none⟩) m cap)).drew) Bh (.slice (some ⟨g, 0, none⟩) m cap) (popL zs) from hM2.ch (D := fun _ => False) (Ch.refl _ _).drew id (fun _ _ _ => id)) hs0).mono ?_
  rintro e w5 ⟨⟨r, rfl⟩, ys, hM5, hpm, hHp, hch5⟩
  have hch6 : Ch (fun k => k = Bh ∨ k = g) wC w5 := hch2.drew.trans (hch5.more fun k hk => .inr (by simpa [Value.ownBlock] using hk.symm))
  have hBF := hch6.at CF (by omega)
  have hBR := hch6.at CR (by omega)
  have hRlt := block_lt hBR
  have x0 : w5.cell? ⟨w.heap.size + 1, 0, none⟩ = some (.int .i64 xp) := by rw [cell_of_row w5 _ 0 _ _ _ hBF]; rfl
  have x1 : w5.cell? ⟨w.heap.size + 1, 1, none⟩ = some (.slice xa xn xc) := by rw [cell_of_row w5 _ 1 _ _ _ hBF]; rfl
  have y0 : w5.cell? ⟨w.heap.size, 0, none⟩ = some (.int .i64 0) := by rw [cell_of_row w5 _ 0 _ _ _ hBR]; rfl
  have y1 : w5.cell? ⟨w.heap.size, 1, none⟩ = some (.slice none 0 0) := by rw [cell_of_row w5 _ 1 _ _ _ hBR]; rfl
  have yf0 := frozen_of_row w5 w.heap.size 0 _ _ hBR
  have yf1 := frozen_of_row w5 w.heap.size 1 _ _ hBR
  have hch7 : Ch (fun k => k = Bh ∨ k = g) w w5 := (Ch.of tC).trans hch6
  clear hM2 hch2 hch5 k0 kf kf0 f0' f1' p0' p1' q0' q1' hC
  go_wp2
  have b7 := heap_setCell_same _ _ 1 _ _ (.slice xa xn xc) (heap_setCell_same w5 w.heap.size 0 _ _ (.int .i64 xp) hBR)
  have v0 : ((w5.setCell ⟨w.heap.size, 0, none⟩ (.int .i64 xp)).setCell ⟨w.heap.size, 1, none⟩ (.slice xa xn xc)).cell? ⟨w.heap.size, 0, none⟩ = some (.int .i64 xp) := by rw [cell_of_row _ _ 0 _ _ _ b7]; rfl
  have v1 : ((w5.setCell ⟨w.heap.size, 0, none⟩ (.int .i64 xp)).setCell ⟨w.heap.size, 1, none⟩ (.slice xa xn xc)).cell? ⟨w.heap.size, 1, none⟩ = some (.slice xa xn xc) := by rw [cell_of_row _ _ 1 _ _ _ b7]; rfl
  have k8 : Ch (fun k => k = w.heap.size) w5 ((w5.setCell ⟨w.heap.size, 0, none⟩ (.int .i64 xp)).setCell ⟨w.heap.size, 1, none⟩ (.slice xa xn xc)) := ((Ch.refl (fun k => k = w.heap.size) _).set 0 _ rfl).set 1 _ rfl
  have hD8 : ∀ k, lo ≤ k → (Value.slice (some ⟨g, 0, none⟩) m cap).ownBlock = some k → ¬ k = w.heap.size := fun k _ hk => by
    have e : g = k := by simpa [Value.ownBlock] using hk
    omega
  have hM8 := hM5.ch k8 (by omega) hD8
  have hch8 : Ch (fun k => k = Bh ∨ k = g) w ((w5.setCell ⟨w.heap.size, 0, none⟩ (.int .i64 xp)).setCell ⟨w.heap.size, 1, none⟩ (.slice xa xn xc)) :=
    ⟨k8.os.trans hch7.os, k8.tape.trans hch7.tape, k8.output.trans hch7.output, Nat.le_trans hch7.size k8.size, fun k hk hn => (k8.block k (Nat.lt_of_lt_of_le hk hch7.size) (by omega)).trans (hch7.block k hk hn)⟩
  refine bodyPost_ret (v := .agg #[.int .i64 xp, .slice xa xn xc]) (by simp [results, Tryz.results161, go_sem, v0, v1]) rfl ?_
  exact ⟨rfl, ys, hM8, hpm, hHp, hch8⟩

end Go.Proofs.YtiemlklngmifdaaGreat
