/-
  The levels of a program by rank: what the heap makes of them. No condition of its own.
-/
import Derived.Test.YtiemlklngmifdaaGreatHeapR
namespace Go.Proofs.YtiemlklngmifdaaGreat
set_option linter.unusedVariables false
set_option linter.unusedSimpArgs false
open Go.RowKit
set_option maxRecDepth 100000

theorem choose_list {α : Type} [Inhabited α] {P : Nat → α → Prop} : ∀ n, (∀ i, i < n → ∃ x, P i x) → ∃ cl : List α, cl.length = n ∧ ∀ i, i < n → P i (nth cl i)
  | 0, _ => ⟨[], rfl, fun i hi => absurd hi (by omega)⟩
  | n + 1, h => by
    obtain ⟨cl, hl, hc⟩ := choose_list n fun i hi => h i (by omega)
    obtain ⟨x, hx⟩ := h n (by omega)
    refine ⟨cl ++ [x], by rw [List.length_append, hl]; rfl, fun i hi => ?_⟩
    by_cases e : i < n
    · rw [nth_eq (by rw [List.length_append]; omega), List.getElem_append_left (by omega), ← nth_eq (by omega)]
      exact hc i e
    · have e : i = cl.length := by omega
      subst e
      rw [nth_eq (by rw [List.length_append]; simp), List.getElem_append_right (by omega)]
      simp only [Nat.sub_self, List.getElem_cons_zero]
      rw [hl]; exact hx

/-- A level's cells, and what it reads as. -/
def LvR (w : World) (x : LvC) (l : LevelD) : Prop := x.p = l.p ∧ RdL w [.slice x.a x.n x.c] l.lits
theorem LvR.later {w w' : World} {x : LvC} {l : LevelD} (h : LvR w x l) (hb : Below w.heap.size w w') : LvR w' x l := ⟨h.1, Rd.mono (α := List (Int × Int)) hb h.2⟩

theorem rd_lv {B : Nat} {e : TypeId} {w : World} {v : Value} {xs : List LvC} {ls : List LevelD} (h : OwnF B e w v xs) (hsm : xs.length ≤ 9223372036854775807) (hl : ls.length = xs.length) (hr : ∀ i, i < xs.length → LvR w (nth xs i) (nth ls i)) : RdL w [v] ls := by
  obtain ⟨a, cap, he, h1, h2, h3⟩ := h.own.rd
  simp at he
  subst he
  refine ⟨a, cap, by rw [hl], by rw [hl]; exact h1, h2, by omega, fun i hi => ?_⟩
  rw [hl] at hi
  obtain ⟨b, off, cs, ha, hc, hcs⟩ := h3.2 i hi
  obtain ⟨rfl, hf⟩ := hcs
  obtain ⟨hp, hlit⟩ := hr i hi
  refine ⟨b, off, _, ha, hc, ⟨_, ?_, ?_, hlit⟩⟩
  · show LvC.enc (nth xs i) = _
    unfold LvC.enc
    rw [hp]
  · rw [← hp]; exact hf

theorem levels_cells {w : World} {b off : Nat} {ls : List LevelD} (h : ∀ i, i < ls.length → ∃ cs, Cells w b (off + i * Rd.k LevelD) cs ∧ Rd.R w cs (nth ls i)) :
    ∃ cl : List LvC, cl.length = ls.length ∧ ∀ i, i < ls.length → (w.cell? ⟨b, off + i * 2, none⟩ = some (.int .i64 (nth cl i).p) ∧ w.cell? ⟨b, off + i * 2 + 1, none⟩ = some (.slice (nth cl i).a (nth cl i).n (nth cl i).c)) ∧ Fits (nth cl i).p ∧ LvR w (nth cl i) (nth ls i) := by
  refine choose_list (α := LvC) (P := fun i x => (w.cell? ⟨b, off + i * 2, none⟩ = some (.int .i64 x.p) ∧ w.cell? ⟨b, off + i * 2 + 1, none⟩ = some (.slice x.a x.n x.c)) ∧ Fits x.p ∧ LvR w x (nth ls i)) _ fun i hi => ?_
  obtain ⟨cs, hc, hr⟩ := h i hi
  obtain ⟨c1, rfl, hf, hl⟩ := hr
  obtain ⟨a, cap, rfl, _, _⟩ := hl.sl
  have k : Rd.k LevelD = 2 := rfl
  rw [k] at hc
  exact ⟨⟨(nth ls i).p, a, (nth ls i).lits.length, cap⟩, ⟨hc.c0, hc.c1⟩, hf, rfl, hl⟩

theorem nth_rev {α : Type} [Inhabited α] {xs : List α} {i : Nat} (hi : i < xs.length) : nth xs.reverse i = nth xs (xs.length - 1 - i) := by
  rw [nth_eq (by rw [List.length_reverse]; exact hi), List.getElem_reverse, ← nth_eq (by omega)]

theorem ranked_end {w0 : World} {xs cl : List LvC} {ls : List LevelD} (hpp : Popped cl xs []) (hcl : cl.length = ls.length) (hrel : ∀ i, i < ls.length → LvR w0 (nth cl i) (nth ls i)) :
    ∃ lv : List LevelD, (∀ i, i < xs.length → LvR w0 (nth xs i) (nth lv i)) ∧ lv.length = xs.length ∧ lv.length = ls.length ∧ (ls.Pairwise (fun a b => a.p < b.p) → lv = ls.reverse) := by
  have hxl : xs.length = cl.length := by have := hpp.perm.length_eq; rw [List.append_nil] at this; exact this
  by_cases hasc : ls.Pairwise (fun a b => a.p < b.p)
  · have hc : cl.Pairwise (fun a b => a.p < b.p) := by
      rw [List.pairwise_iff_getElem] at hasc ⊢
      intro i j hi hj hij
      have h1 := (hrel i (by omega)).1
      have h2 := (hrel j (by omega)).1
      rw [nth_eq hi, nth_eq (by omega)] at h1
      rw [nth_eq hj, nth_eq (by omega)] at h2
      rw [h1, h2]
      exact hasc i j (by omega) (by omega) hij
    have hx := hpp.done hc
    refine ⟨ls.reverse, fun i hi => ?_, by rw [List.length_reverse]; omega, by rw [List.length_reverse], fun _ => rfl⟩
    rw [hx, nth_rev (by omega), nth_rev (by omega), hcl]
    exact hrel _ (by omega)
  · obtain ⟨lv, hl1, hl2⟩ := choose_list (α := LevelD) (P := fun i l => LvR w0 (nth xs i) l) xs.length (fun i hi => by
      have hm : nth xs i ∈ cl := by
        have := hpp.perm
        rw [List.append_nil] at this
        exact this.subset (nth_mem hi)
      obtain ⟨j, hj, he⟩ := List.getElem_of_mem hm
      have h1 := hrel j (by omega)
      rw [nth_eq hj, he] at h1
      exact ⟨_, h1⟩)
    exact ⟨lv, hl2, hl1, by omega, fun h => absurd h hasc⟩

set_option maxHeartbeats 4000000 in
theorem ranked_callsO {cs : List Value} {p : ProgD} {w0 w : World} (h : Rd.R w0 cs p) (hb0 : Below w0.heap.size w0 w) (hl : p.levels.length ≤ 1048576) :
    Calls Tryz.prog 47 #[.agg cs.toArray] w fun e w' => ∃ v zs lv, e = .returned v ∧ OwnF w.heap.size 102 w' v zs ∧ (∀ i, i < zs.length → LvR w0 (nth zs i) (nth lv i)) ∧ lv.length = zs.length ∧ Below w.heap.size w w' ∧ lv.length = p.levels.length ∧ (p.levels.Pairwise (fun a b => a.p < b.p) → lv = p.levels.reverse) := by
  obtain ⟨c1, c2, c4, c5, c6, c7, rfl, hf, g1, g2, g4, g5, g6, g7⟩ := h
  obtain ⟨a2, q2, rfl, _, h2⟩ := g2.sl
  have hm2 := h2.1
  have o1 := g1.one1
  have o4 := g4.one1
  have o5 := g5.one1
  have o6 := g6.one1
  have o7 := g7.one1
  clear g1 g2 g4 g5 g6 g7 hf
  have stF := sto Tryz.prog (v := .func (.func 100) #[] #[]) rfl
  -- the worlds ahead of the loop
  have HW : Hid (∀ W : World, W = (w.alloc (.cells #[.int .i64 p.atoms, c1, .slice a2 p.levels.length q2, .bool p.projOn, c4, c5, c6, c7] 40)).alloc (.cells #[.slice none 0 0, .func (.func 100) #[] #[]] 151) →
      HM (w.heap.size + 2) W (w.heap.size + 1) (.slice none 0 0) [] ∧ Below w.heap.size w W ∧ W.heap.size = w.heap.size + 2) := fun W e => by
    subst e
    have hb := alloc_block (w.alloc (.cells #[.int .i64 p.atoms, c1, .slice a2 p.levels.length q2, .bool p.projOn, c4, c5, c6, c7] 40)) #[.slice none 0 0, .func (.func 100) #[] #[]] 151
    rw [World.size_alloc] at hb
    exact ⟨⟨hb, ⟨⟨rfl, .inl ⟨rfl, rfl⟩⟩, by simp⟩, by omega, by simp⟩, ((Below.refl _ _).alloc (Nat.le_refl _) _).alloc (by simp) _, by rw [World.size_alloc, World.size_alloc]⟩
  by_cases hne : 0 < p.levels.length
  · obtain ⟨b, off, rfl, hcb⟩ := h2.base hne
    obtain ⟨cl, hcl, hcc⟩ := levels_cells hcb
    have HC := Lib.hid hcc
    have HCL := Lib.hid hcl
    clear h2 hcb hcc hcl
    go_enter Tryz.func47, Tryz.ntmps47
    go_wp2_with fail
    obtain ⟨wb, hwb⟩ : ∃ wb, wb = (w.alloc (.cells #[.int .i64 p.atoms, c1, .slice (some ⟨b, off, none⟩) p.levels.length q2, .bool p.projOn, c4, c5, c6, c7] 40)).alloc (.cells #[.slice none 0 0, .func (.func 100) #[] #[]] 151) := ⟨_, rfl⟩
    obtain ⟨hMb, hBb, hzb⟩ := HW.out wb hwb
    go_loopw [10] (fun i wr => ∃ (k : Nat) (v : Value) (ys : List LvC), k ≤ p.levels.length ∧ i = .int .i64 (k : Int) ∧ HM (w.heap.size + 2) wr (w.heap.size + 1) v ys ∧ ys.Perm (cl.take k) ∧ Hp ys ∧ Below w.heap.size w wr ∧ w.heap.size + 2 ≤ wr.heap.size) (fun i _ => p.levels.length - (intOf i).toNat)
    case atStart => rw [← hwb]; exact ⟨0, _, [], Nat.zero_le _, rfl, hMb, by simp, fun j _ h => absurd h (by simp), hBb, by omega⟩
    case round =>
      obtain ⟨k, v, ys, hk, rfl, hM, hpm, hHp, hB, hzr⟩ := hrel
      have hyl : Hid (ys.length = k) := by
        have := hpm.length_eq
        rw [List.length_take, HCL.out] at this
        show ys.length = k
        omega
      have HPM := Lib.hid hpm
      clear hpm
      by_cases hlt : k < p.levels.length
      · obtain ⟨⟨u0, u1⟩, hfx, _⟩ := HC.out k hlt
        obtain ⟨bc, _⟩ := bcell (hb0.trans (hB.mono hb0.size))
        have hbs : b < w0.heap.size := cell_lt (p := ⟨b, off + k * 2, none⟩) u0
        have u0' : wr.cell? ⟨b, off + k * 2, none⟩ = _ := (bc b _ hbs).trans u0
        have u1' : wr.cell? ⟨b, off + k * 2 + 1, none⟩ = _ := (bc b _ hbs).trans u1
        have HT : Hid (cl.take (k + 1) = cl.take k ++ [nth cl k]) := take_nth (by rw [HCL.out]; exact hlt)
        have hys : ys.length < 1048576 := by rw [hyl.out]; omega
        clear u0 u1 bc
        generalize nth cl k = x at *
        obtain ⟨xp, xa, xn, xc⟩ := x
        dsimp only at u0' u1' hfx
        have hM2 := hM.ch (D := fun _ => False) ((Ch.refl _ wr).alloc (.cells #[.int .i64 xp, .slice xa xn xc] 102)) id (fun _ _ _ => id)
        have hB2 := hB.alloc hB.size (.cells #[.int .i64 xp, .slice xa xn xc] 102)
        have HQ := Lib.hid (push_calls hM2 hys ⟨xp, xa, xn, xc⟩ hfx (by rw [World.size_alloc]; omega) hHp)
        clear hys
        go_wp2_with fail
        refine HQ.out.mono ?_
        rintro e w3 ⟨⟨r, rfl⟩, v', zs, hM3, hpm3, hHp3, hch3⟩
        have hB3 := hB2.trans (hch3.below (fun g hg => by omega) hB2.size)
        have hz3 := hch3.size
        rw [World.size_alloc] at hz3
        have hpmN : Hid (zs.Perm (cl.take (k + 1))) := by
          show zs.Perm _
          rw [HT.out]
          exact hpm3.trans (HPM.out.append_right _)
        clear hpm3
        go_wp2
        go_roundw
        case rel => exact ⟨k + 1, v', zs, by omega, by go_num, hM3, hpmN.out, hHp3, hB3, by omega⟩
        case measure => simp [intOf]; omega
      · have hkx : k = p.levels.length := by omega
        have HPC : Hid (ys.Perm cl) := by
          have := HPM.out
          rw [List.take_of_length_le (by rw [HCL.out]; omega)] at this
          exact this
        obtain ⟨a0, cap0, hvs⟩ := hM.sl
        subst hvs
        have hown : ∀ k, (Value.slice a0 ys.length cap0).ownBlock = some k → k < wr.heap.size := fun k hk => by
          rcases hM.row.1.2 with ⟨hv9, _⟩ | ⟨g9, _, _, hv9, hg9, hh9, _⟩
          · rw [hv9] at hk; cases hk
          · rw [hv9] at hk
            have e9 : g9 = k := by simpa [Value.ownBlock] using hk
            rw [← e9]; exact block_lt hh9
        have hM4 := hM.ch (D := fun _ => False) ((Ch.refl _ wr).alloc (.cells #[.pointer (some ⟨w.heap.size + 1, 0, none⟩)] 195)) id (fun _ _ _ => id)
        have hb4 := alloc_block wr #[.pointer (some ⟨w.heap.size + 1, 0, none⟩)] 195
        have hB4 := hB.alloc hB.size (.cells #[.pointer (some ⟨w.heap.size + 1, 0, none⟩)] 195)
        have HQ := Lib.hid (collectL_calls hM4 (Popped.start hHp HPC.out) hb4 (fun k hk => by rw [World.size_alloc]; have := hown k hk; omega) (by omega) (fun k hk => by have := hown k hk; omega) (by rw [HCL.out]; exact hl))
        clear hown
        go_wp2_with fail
        refine (poppedL_calls _ _).mono ?_
        rintro e w4 ⟨rfl, rfl⟩
        go_wp2_with fail
        refine HQ.out.mono ?_
        rintro e w5 ⟨v5, xs, rfl, hpp, hrow, hch⟩
        have hB5 := hB4.trans (hch.below (fun g hg => by
          rcases hg with (hg | hg) | hg
          · omega
          · rcases hM.row.1.2 with ⟨hv9, _⟩ | ⟨g9, _, _, hv9, hg9, hh9, _⟩
            · rw [hv9] at hg; cases hg
            · rw [hv9] at hg
              have e9 : g9 = g := by simpa [Value.ownBlock] using hg
              omega
          · rw [World.size_alloc] at hg; omega) hB4.size)
        obtain ⟨lv, hr1, hr2, hr4, hr3⟩ := ranked_end hpp HCL.out (fun i hi => (HC.out i hi).2.2)
        have HR1 := Lib.hid hr1
        have HR2 := Lib.hid hr2
        have HR4 := Lib.hid hr4
        have HROW : Hid (OwnF w.heap.size 102 w5 v5 xs) := ⟨⟨hrow.1.1, hrow.1.2.imp id fun ⟨g, c, cur, e, hb9, hr9⟩ => ⟨g, c, cur, e, Nat.le_trans hB4.size hb9, hr9⟩⟩, hrow.2⟩
        obtain ⟨a5, c5, hv5⟩ : ∃ a c, v5 = .slice a xs.length c := by
          rcases hrow.1.2 with ⟨hv, hn⟩ | ⟨g, cap, cur, hv, _⟩
          · exact ⟨none, 0, by rw [hv, hn]⟩
          · exact ⟨_, _, hv⟩
        clear hr2 hr1 hr4 hrow
        subst hv5
        go_wp2
        go_ret
        exact ⟨_, xs, lv, rfl, HROW.out, HR1.out, HR2.out, hB5, HR4.out, hr3⟩
  · have hpl : p.levels = [] := List.eq_nil_of_length_eq_zero (by omega)
    have hl0 : (p.levels.length : Int) = 0 := by omega
    have HCL : Hid (([] : List LvC).length = p.levels.length) := by show _ = _; rw [hpl]; rfl
    have HC : Hid (∀ i, i < p.levels.length → True ∧ True ∧ LvR w0 (nth ([] : List LvC) i) (nth p.levels i)) := fun i hi => absurd hi (by omega)
    have HPC : Hid (([] : List LvC).Perm []) := List.Perm.refl _
    clear h2 hpl
    go_enter Tryz.func47, Tryz.ntmps47
    go_wp2_with fail
    obtain ⟨hMb, hBb, hzb⟩ := HW.out _ rfl
    generalize (w.alloc (.cells #[.int .i64 p.atoms, c1, .slice a2 p.levels.length q2, .bool p.projOn, c4, c5, c6, c7] 40)).alloc (.cells #[.slice none 0 0, .func (.func 100) #[] #[]] 151) = wr at *
    refine wp_loop_rounds 1 ?_
    rw [rounds_succ]
    obtain ⟨v, hv⟩ : ∃ v, v = Value.slice none 0 0 := ⟨_, rfl⟩
    have hM : HM (w.heap.size + 2) wr (w.heap.size + 1) v [] := by rw [hv]; exact hMb
    have hB := hBb
    have hHp : Hp [] := fun j _ h => absurd h (by simp)
    have hzr : w.heap.size + 2 ≤ wr.heap.size := by omega
    generalize hys : ([] : List LvC) = ys at *
    clear hMb hzb
    obtain ⟨a0, cap0, hvs⟩ := hM.sl
    subst hvs
    have hown : ∀ k, (Value.slice a0 ys.length cap0).ownBlock = some k → k < wr.heap.size := fun k hk => by
      rcases hM.row.1.2 with ⟨hv9, _⟩ | ⟨g9, _, _, hv9, hg9, hh9, _⟩
      · rw [hv9] at hk; cases hk
      · rw [hv9] at hk
        have e9 : g9 = k := by simpa [Value.ownBlock] using hk
        rw [← e9]; exact block_lt hh9
    have hM4 := hM.ch (D := fun _ => False) ((Ch.refl _ wr).alloc (.cells #[.pointer (some ⟨w.heap.size + 1, 0, none⟩)] 195)) id (fun _ _ _ => id)
    have hb4 := alloc_block wr #[.pointer (some ⟨w.heap.size + 1, 0, none⟩)] 195
    have hB4 := hB.alloc hB.size (.cells #[.pointer (some ⟨w.heap.size + 1, 0, none⟩)] 195)
    have HQ := Lib.hid (collectL_calls hM4 (Popped.start hHp HPC.out) hb4 (fun k hk => by rw [World.size_alloc]; have := hown k hk; omega) (by omega) (fun k hk => by have := hown k hk; omega) (by rw [HCL.out]; exact hl))
    clear hown
    go_wp2_with fail
    refine (poppedL_calls _ _).mono ?_
    rintro e w4 ⟨rfl, rfl⟩
    go_wp2_with fail
    refine HQ.out.mono ?_
    rintro e w5 ⟨v5, xs, rfl, hpp, hrow, hch⟩
    have hB5 := hB4.trans (hch.below (fun g hg => by
      rcases hg with (hg | hg) | hg
      · omega
      · rcases hM.row.1.2 with ⟨hv9, _⟩ | ⟨g9, _, _, hv9, hg9, hh9, _⟩
        · rw [hv9] at hg; cases hg
        · rw [hv9] at hg
          have e9 : g9 = g := by simpa [Value.ownBlock] using hg
          omega
      · rw [World.size_alloc] at hg; omega) hB4.size)
    obtain ⟨lv, hr1, hr2, hr4, hr3⟩ := ranked_end hpp HCL.out (fun i hi => (HC.out i hi).2.2)
    have HR1 := Lib.hid hr1
    have HR2 := Lib.hid hr2
    have HR4 := Lib.hid hr4
    have HROW : Hid (OwnF w.heap.size 102 w5 v5 xs) := ⟨⟨hrow.1.1, hrow.1.2.imp id fun ⟨g, c, cur, e, hb9, hr9⟩ => ⟨g, c, cur, e, Nat.le_trans hB4.size hb9, hr9⟩⟩, hrow.2⟩
    obtain ⟨a5, c5, hv5⟩ : ∃ a c, v5 = .slice a xs.length c := by
      rcases hrow.1.2 with ⟨hv, hn⟩ | ⟨g, cap, cur, hv, _⟩
      · exact ⟨none, 0, by rw [hv, hn]⟩
      · exact ⟨_, _, hv⟩
    clear hr2 hr1 hr4 hrow
    subst hv5
    go_wp2
    go_ret
    exact ⟨_, xs, lv, rfl, HROW.out, HR1.out, HR2.out, hB5, HR4.out, hr3⟩

theorem ranked_calls {cs : List Value} {p : ProgD} {w : World} (h : Rd.R w cs p) (hl : p.levels.length ≤ 1048576) :
    Calls Tryz.prog 47 #[.agg cs.toArray] w fun e w' => ∃ v lv, e = .returned v ∧ RdL w' [v] lv ∧ Below w.heap.size w w' ∧ lv.length = p.levels.length ∧ (p.levels.Pairwise (fun a b => a.p < b.p) → lv = p.levels.reverse) :=
  (ranked_callsO h (Below.refl _ _) hl).mono fun _ _ ⟨v, zs, lv, he, ho, hr, hlz, hb, hlv, hrev⟩ =>
    ⟨v, lv, he, rd_lv ho (by omega) hlz (fun i hi => (hr i hi).later hb), hb, hlv, hrev⟩

end Go.Proofs.YtiemlklngmifdaaGreat
