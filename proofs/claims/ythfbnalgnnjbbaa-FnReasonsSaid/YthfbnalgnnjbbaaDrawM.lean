/-
  What is drawn beside a program; programs drawn with a set; programs drawn without Choice. No condition of its own.
-/
import Derived.Test.YthfbnalgnnjbbaaAny
import Derived.Test.YthfbnalgnnjbbaaAnsU
import Derived.Test.YthfbnalgnnjbbaaBody
import Derived.Deep.RegionHeld3
import Derived.Test.YthfbnalgnnjbbaaDraw
namespace Go.Proofs.Ythfbnalgnnjbbaa
set_option linter.unusedVariables false
set_option linter.unusedSimpArgs false
open Go.RowKit
set_option maxRecDepth 100000

/-! ### DrawN -/
/-! ### Near -/
/-- What is said of any, as a word of its own. -/
def AnyOk : Prop := ∀ (c N : Nat) (w : World), Cur w c N → N ≤ 100000 → Calls Try.prog 23 #[.pointer (some ⟨c, 0, none⟩)] w (AnyPost w c (N + 6000))

/-- One element of a row that is owned. -/
theorem own_elem {α : Type} [Ow α] {lo n cap : Nat} {w : World} {a : Option Addr} {xs : List α} (h : Own (α := List α) lo w [.slice a n cap] xs) {k : Nat} (hk : k < xs.length) :
    ∃ g ecs, a = some ⟨g, 0, none⟩ ∧ n = xs.length ∧ Cells w g (k * Rd.k α) ecs ∧ Own lo w ecs (nth xs k) := by
  obtain ⟨fp, ⟨a', cap', he, _, _, hrow⟩, hl⟩ := h
  simp only [List.cons.injEq, and_true, Value.slice.injEq] at he
  obtain ⟨rfl, rfl, rfl⟩ := he
  rcases hrow with ⟨rfl, _⟩ | ⟨g, e, cur, fps, rfl, hh, hcs, hfl, rfl, hnd, hx⟩
  · simp at hk
  · obtain ⟨ecs, hC, hO⟩ := hx k hk
    exact ⟨g, ecs, rfl, rfl, hC, _, hO, fun b hb => hl b (List.mem_cons_of_mem _ (mem_flat hb))⟩
theorem Own.wrote {α : Type} [Ow α] {lo c : Nat} {w w' : World} {cs : List Value} {x : α} (h : Own lo w cs x) (hw : Wrote c w w') (hc : c < lo) : Own lo w' cs x :=
  h.cg (Cg.wrote (S := fun g => g = c) hw rfl) fun g hg e => by omega
theorem Rd.wrote {α : Type} [Ow α] {lo c : Nat} {w w' : World} {cs : List Value} {x : α} (h : Own lo w cs x) (hw : Wrote c w w') (hc : c < lo) : Rd.R w' cs x := (h.wrote hw hc).rd

theorem Own.mono' {α : Type} [Ow α] {lo lo' : Nat} {w : World} {cs : List Value} {x : α} (h : Own lo w cs x) (hl : lo' ≤ lo) : Own lo' w cs x := by
  obtain ⟨fp, h1, h2⟩ := h
  exact ⟨fp, h1, fun g hg => Nat.le_trans hl (h2 g hg)⟩
theorem row_of_own {lo n cap : Nat} {w : World} {a : Option Addr} {xs : List Int} (h : Own lo w [.slice a n cap] xs) : Row w a xs := by
  obtain ⟨a', c', e, _, hr⟩ := h.rd.sl
  simp only [Value.slice.injEq] at e
  obtain ⟨rfl, _, _⟩ := e
  exact hr
theorem one_ints (w : World) {x : Int} (hx : Fits x) : Ints (w.alloc (.cells #[.int .i64 x] 3)) (some ⟨w.heap.size, 0, none⟩) [x] := by
  have : OwnI w.heap.size (w.alloc (.cells #[.int .i64 x] 3)) (.slice (some ⟨w.heap.size, 0, none⟩) 1 1) [x] :=
    ⟨World.ownsRow_lit (e := 3) (size := 1) (base := w.heap.size) w #[.int .i64 x] 1 (Nat.le_refl _) (by simp [maxLen]) (by simp), by simp, by simpa using hx⟩
  exact this.ints
theorem ans_len (p : ProgD) : (answersL p).length ≤ 4096 := by
  unfold answersL
  split
  · rename_i hF
    have h1 := ansTo_len (foldD p) (2 ^ p.atoms.toNat)
    obtain ⟨h2, h3⟩ := progOk_atoms (foldR_ok hF)
    have h4 : (foldD p).atoms = p.atoms := rfl
    have : 2 ^ p.atoms.toNat ≤ 2 ^ 12 := Nat.pow_le_pow_right (by omega) (by omega)
    omega
  · simp
set_option maxHeartbeats 4000000 in
theorem near_calls {cs : List Value} {p : ProgD} (c N : Nat) (w : World) (h : Cur w c N) (hN : N ≤ 200000) (hp : Rd.R w cs p) :
    Calls Try.prog 24 #[.pointer (some ⟨c, 0, none⟩), .agg cs.toArray] w fun e w' => ∃ v xs, e = .returned v ∧ xs.length ≤ 4096 ∧ Own w.heap.size w' [v] (xs : List Int) ∧ Cur w' c (N + 100) ∧ Wrote c w w' := by
  have hcw := h.lt
  obtain ⟨x0, x1, x2, x3, x4, x5, x6, x7, rfl⟩ := list8 (Rd.len hp)
  have t0 : Below w.heap.size w (w.alloc (.cells #[x0, x1, x2, x3, x4, x5, x6, x7] 30)) := (Below.refl _ _).alloc (by simp) _
  have hlen : ∀ x ∈ answersL p, x.length ≤ 12 := fun x hx => by
    unfold answersL at hx
    split at hx
    · obtain ⟨k, _, rfl, _⟩ := mem_ansTo.1 hx
      unfold setN setOfS
      split
      · exact pickTo_len _ _
      · simp
    · cases hx
  have hL12 := ans_len p
  go_enter Try.func24, Try.ntmps24
  go_wp2_with fail
  refine (specAnswers_calls (Rd.mono t0 hp)).mono ?_
  rintro e w1 ⟨u, rfl, o1, b1⟩
  obtain ⟨a1, q1, rfl, hq1, hr1⟩ := o1.rd.sl
  have t1 := t0.step b1
  have o1 := o1.mono' (lo' := w.heap.size) t0.size
  have c1 := h.kept t1
  have W1 : Wrote c w w1 := Wrote.below t1
  generalize hLe : answersL p = L at *
  replace hLe := Lib.hid hLe
  clear hp t0 b1
  by_cases hz : L.length = 0
  · have hzi : (L.length : Int) = 0 := by omega
    have hzb : ((L.length : Int) == 0) = true := beq_iff_eq.2 hzi
    clear hz
    go_wp2_with fail
    refine (set_calls _ _ 8 _ (c1) (by omega) (by omega)).mono ?_
    rintro e w9 ⟨v, xs, rfl, hlx, ho9, hc9, hw9⟩
    go_wp2
    go_ret
    exact ⟨_, xs, rfl, by omega, ho9.own.mono' t1.size, hc9.mono (by omega), W1.trans hw9⟩
  · have hzi : ¬ (L.length : Int) = 0 := by omega
    have hzb : ((L.length : Int) == 0) = false := beq_eq_false_iff_ne.2 hzi
    go_wp2_with fail
    refine (pick_calls c N 4 _ c1 (by omega) ⟨by omega, by omega⟩).mono ?_
    rintro e w2 ⟨r, ⟨hr0, hr1', _⟩, rfl, c2, k2⟩
    have hsz := t1.size
    have o2 := o1.wrote k2 hcw
    have W2 := W1.trans k2
    have hz2 := W2.size
    by_cases hr : r = 0
    · subst hr
      go_wp2_with fail
      refine (set_calls _ _ 8 _ (c2) (by omega) (by omega)).mono ?_
      rintro e w9 ⟨v, xs, rfl, hlx, ho9, hc9, hw9⟩
      go_wp2
      go_ret
      exact ⟨_, xs, rfl, by omega, ho9.own.mono' (by omega), hc9.mono (by omega), W2.trans hw9⟩
    · have hrb : (r == 0) = false := beq_eq_false_iff_ne.2 hr
      go_wp2_with fail
      refine (pick_calls c (N + 1) (L.length : Int) _ c2 (by omega) ⟨by omega, by omega⟩).mono ?_
      rintro e w3 ⟨k, ⟨hk0, hk1, hk2⟩, rfl, c3, k3⟩
      obtain ⟨k, rfl⟩ := Int.eq_ofNat_of_zero_le hk0
      have hk : k < L.length := by
        by_cases h9 : (L.length : Int) < 2
        · have := hk2 h9; omega
        · have := hk1 (by omega); omega
      have o3 := o2.wrote k3 hcw
      have W3 := W2.trans k3
      have hz3 := W3.size
      obtain ⟨g, ecs, rfl, -, hC, hO⟩ := own_elem o3 hk
      have hx12 := hlen _ (nth_mem hk)
      obtain ⟨ax, qx, rfl, _⟩ : RdL w3 ecs (nth L k) := hO.rd
      have u0 := hC.c0
      rw [show Rd.k (List Int) = 1 from rfl, Nat.mul_one] at u0
      have hki : (k : Int) < (L.length : Int) := by omega
      clear hC
      generalize nth L k = y at *
      go_wp2_with fail
      refine (pick_calls c (N + 2) 3 _ c3 (by omega) ⟨by omega, by omega⟩).mono ?_
      rintro e w4 ⟨r4, ⟨hr40, hr41, _⟩, rfl, c4, k4⟩
      have W4 := W3.trans k4
      have hz4 := W4.size
      have O4 := hO.wrote k4 hcw
      have hxi := (RdL.sl O4.rd)
      obtain ⟨ax', qx', e9, _, hxi⟩ := hxi
      injection e9 with e91 _ e93
      subst e91
      subst e93
      by_cases hr4 : r4 = 0
      · subst hr4
        go_wp2_with fail
        refine (pick_calls c (N + 3) 8 _ c4 (by omega) ⟨by omega, by omega⟩).mono ?_
        rintro e w5 ⟨a, ⟨ha0, ha1, _⟩, rfl, c5, k5⟩
        have ha1 := ha1 (by omega)
        have W5 := W4.trans k5
        have hz5 := W5.size
        have O5 := O4.wrote k5 hcw
        have hI5 : Ints w5 ax y := (row_of_own O5).ints
        have hfa : Fits (1 + a) := ⟨by omega, by omega⟩
        cases hh : hasB y (1 + a)
        · go_wp2_with (go_at_call 28; refine (SetHas_calls _ _ _ _ _ hI5).mono ?_; rintro e w' ⟨he, rfl⟩; rw [hh] at he; subst he)
          refine (specSetJoin_calls _ _ _ _ _ _ _ (hI5.later ((Below.refl _ _).alloc (Nat.le_refl _) _)) (one_ints w5 hfa)).mono ?_
          rintro e w6 ⟨v6, rfl, o6, b6⟩
          go_wp2
          go_ret
          have ta : Below w5.heap.size w5 w6 := ((Below.refl w5.heap.size w5).alloc (Nat.le_refl _) _).step b6
          exact ⟨_, _, rfl, by have := pickTo_len (pickJ y [1 + a]) 12; omega, o6.own.mono' (by rw [World.size_alloc]; omega), (c5.kept ta).mono (by omega), W5.trans (Wrote.below ta)⟩
        · go_wp2_with (go_at_call 28; refine (SetHas_calls _ _ _ _ _ hI5).mono ?_; rintro e w' ⟨he, rfl⟩; rw [hh] at he; subst he)
          refine (specSetLess_calls _ _ _ _ _ _ _ (hI5.later ((Below.refl _ _).alloc (Nat.le_refl _) _)) (one_ints w5 hfa)).mono ?_
          rintro e w6 ⟨v6, rfl, o6, b6⟩
          go_wp2
          go_ret
          have ta : Below w5.heap.size w5 w6 := ((Below.refl w5.heap.size w5).alloc (Nat.le_refl _) _).step b6
          exact ⟨_, _, rfl, by have := pickTo_len (pickL y [1 + a]) 12; omega, o6.own.mono' (by rw [World.size_alloc]; omega), (c5.kept ta).mono (by omega), W5.trans (Wrote.below ta)⟩
      · have hr4b : (r4 == 0) = false := beq_eq_false_iff_ne.2 hr4
        go_wp2
        go_ret
        exact ⟨_, y, rfl, by omega, O4, c4.mono (by omega), W4⟩

/-! ### DrawS -/
/-- What is drawn beside a program. -/
def SetDr (B c : Nat) (W : World) (e : Ending) (w' : World) : Prop := ∃ v xs, e = .returned v ∧ xs.length ≤ 4096 ∧ Own B w' [v] (xs : List Int) ∧ Cur w' c 100000 ∧ Wrote c W w'
/-- What is drawn: a program and a set. -/
def PairPost (w : World) (e : Ending) (w' : World) : Prop := ∃ cs p v xs, e = .returned (.tuple #[.agg (List.toArray cs), v]) ∧ Rd.R (α := ProgD) w' cs p ∧ RdL (α := Int) w' [v] xs ∧ Wee p ∧ xs.length ≤ 4096 ∧ Below w.heap.size w w'
theorem cells_putN {W : World} {b g : Nat} {cs vs : List Value} (h : Cells W b 0 cs) (hne : b ≠ g) : Cells (put W g 0 vs) b 0 cs := fun j v hv => by
  have := h j v hv
  rw [← this]
  exact World.cell?_of_block (a := ⟨b, 0 + j, none⟩) ((put_chg g vs W 0).block b (by simpa using hne))
theorem put_cg (W : World) (g : Nat) (vs : List Value) : Cg (fun x => x = g) W (put W g 0 vs) :=
  ⟨(put_chg g vs W 0).os, (put_chg g vs W 0).tape, (put_chg g vs W 0).output, Nat.le_of_eq (put_chg g vs W 0).size.symm, fun x _ hn => (put_chg g vs W 0).block x (by simpa using hn)⟩
/-- The end of a drawing: the result's box written, the set drawn. -/
theorem pair_end {w w1 w2 w3 : World} {c : Nat} {x0 x1 x2 x3 x4 x5 x6 x7 v : Value} {p : ProgD} {xs : List Int} {o : Obj} (hc : w.heap.size < c) (hc1 : c < w1.heap.size) (hb : Below (w.heap.size + 1) (w.alloc (.cells zP.toArray 30)) w1)
    (hL : Lent w1.heap.size (fun x => x < w1.heap.size) w2 [x0, x1, x2, x3, x4, x5, x6, x7] p) (h2 : Wrote c w1 w2) (ho : Own (w2.alloc o).heap.size w3 [v] xs) (h3 : Wrote c (w2.alloc o).drew w3) :
    Rd.R (α := ProgD) (put w3 w.heap.size 0 [x0, x1, x2, x3, x4, x5, x6, x7]) [x0, x1, x2, x3, x4, x5, x6, x7] p ∧ RdL (α := Int) (put w3 w.heap.size 0 [x0, x1, x2, x3, x4, x5, x6, x7]) [v] xs ∧ Below w.heap.size w (put w3 w.heap.size 0 [x0, x1, x2, x3, x4, x5, x6, x7]) := by
  have k3 : Cg (fun x => x = c) w2 w3 := (((Cg.refl _ w2).alloc o).drew).trans (Cg.wrote h3 rfl)
  have kp := put_cg w3 w.heap.size [x0, x1, x2, x3, x4, x5, x6, x7]
  have hz2 := h2.size
  have hz3 := h3.size
  refine ⟨(hL.cg ((k3.more fun x _ hx => by omega).trans (kp.more fun x _ hx => by omega))).rd, (ho.cg kp fun g hg e => by rw [World.size_alloc] at hg; omega).rd, ?_⟩
  have t1 : Below w.heap.size w w1 := ((Below.refl w.heap.size w).alloc (Nat.le_refl _) _).trans (hb.mono (Nat.le_succ _))
  have t2 : Below w.heap.size w w2 := Wrote.mark t1 h2 (by omega)
  have t3 : Below w.heap.size w w3 := Wrote.mark ((t2.alloc t2.size o).drew) h3 (by omega)
  refine ⟨kp.os.trans t3.os, kp.tape.trans t3.tape, kp.output.trans t3.output, Nat.le_trans t3.size kp.size, fun k hk => (kp.block k (Nat.lt_of_lt_of_le hk t3.size) (by omega)).trans (t3.block k hk)⟩



set_option maxHeartbeats 8000000 in
theorem DrawWhy_calls (HA : AnyOk) (a : Option Addr) (bs : List Int) (cap : Nat) (w : World) (h : Bytes w a bs) :
    Calls Try.prog 6 #[.slice a bs.length cap] w (PairPost w) := by
  have tz : Below w.heap.size w (w.alloc (.cells zP.toArray 30)) := (Below.refl _ _).alloc (Nat.le_refl _) _
  have hB := h.later tz
  have hz0 := alloc_block w zP.toArray 30
  go_enter Try.func6, Try.ntmps6
  go_wp2_with fail
  refine (open_calls _ _ _ _ hB).mono ?_
  rintro e w1 ⟨rfl, hc, hb⟩
  rw [World.size_alloc] at hc hb
  have hcl := hc.lt
  have hz1 := (hb.block _ (Nat.lt_succ_self _)).trans hz0
  rw [World.size_alloc]
  go_wp2_with fail
  refine (HA (w.heap.size + 1) 0 w1 hc (by omega)).mono ?_
  rintro e w2 ⟨cs, p, rfl, hL, hwee, c2, k2⟩
  obtain ⟨x0, x1, x2, x3, x4, x5, x6, x7, rfl⟩ := list8 (Rd.len hL.rd)
  have l1 := Rd.one hL.rd
  have st0 := sto Try.prog (l1 x0 (by simp))
  have st1 := sto Try.prog (l1 x1 (by simp))
  have st2 := sto Try.prog (l1 x2 (by simp))
  have st3 := sto Try.prog (l1 x3 (by simp))
  have st4 := sto Try.prog (l1 x4 (by simp))
  have st5 := sto Try.prog (l1 x5 (by simp))
  have st6 := sto Try.prog (l1 x6 (by simp))
  have st7 := sto Try.prog (l1 x7 (by simp))
  have hz2 := k2.size
  have hr2 := (Cg.wrote (S := fun x => x = w.heap.size + 1) k2 rfl).at hz1 (by omega)
  go_upto_region 3 with fail
  have CX := (Cells.new w2 [x0, x1, x2, x3, x4, x5, x6, x7] 30).drew
  have c3 := c2.kept (((Below.refl w2.heap.size w2).alloc (Nat.le_refl _) (.cells #[x0, x1, x2, x3, x4, x5, x6, x7] 30)).drew)
  have hRp : Rd.R (w2.alloc (.cells #[x0, x1, x2, x3, x4, x5, x6, x7] 30)).drew [x0, x1, x2, x3, x4, x5, x6, x7] p := Rd.mono (((Below.refl w2.heap.size w2).alloc (Nat.le_refl _) _).drew) hL.rd
  refine wp_region_held_drew (S := fun W' => W'.cell? ⟨w2.heap.size, 0, none⟩ = some x0 ∧ W'.cell? ⟨w2.heap.size, 1, none⟩ = some x1 ∧ W'.cell? ⟨w2.heap.size, 2, none⟩ = some x2 ∧ W'.cell? ⟨w2.heap.size, 3, none⟩ = some x3 ∧ W'.cell? ⟨w2.heap.size, 4, none⟩ = some x4 ∧ W'.cell? ⟨w2.heap.size, 5, none⟩ = some x5 ∧ W'.cell? ⟨w2.heap.size, 6, none⟩ = some x6 ∧ W'.cell? ⟨w2.heap.size, 7, none⟩ = some x7) (by kernel_rfl) (cells8 CX) (fun hHeld => ?_)
  refine takeD (i := 0) (v := .agg #[x0, x1, x2, x3, x4, x5, x6, x7]) (some 10) rfl rfl (by kernel_rfl) (by kernel_rfl) (by kernel_rfl) (fun _ _ _ h => h) (Or.inl ⟨by rfl, fun w' hw' => ?_⟩) hHeld ?_
  · first | (go_simp; done) | (obtain ⟨s0, s1, s2, s3, s4, s5, s6, s7⟩ := hw'; go_simp; done)
  try simp only [Act.put, List.setIfInBounds_toArray, List.set_cons_zero, List.set_cons_succ]
  refine takeD (i := 1) (v := .pointer (some ⟨w.heap.size + 1, 0, none⟩)) (some 11) rfl rfl (by kernel_rfl) (by kernel_rfl) (by kernel_rfl) (fun _ _ _ h => h) (Or.inl ⟨by rfl, fun w' hw' => ?_⟩) hHeld ?_
  · first | (go_simp; done) | (obtain ⟨s0, s1, s2, s3, s4, s5, s6, s7⟩ := hw'; go_simp; done)
  try simp only [Act.put, List.setIfInBounds_toArray, List.set_cons_zero, List.set_cons_succ]
  refine takeD (i := 2) (v := .agg #[x0, x1, x2, x3, x4, x5, x6, x7]) (some 12) rfl rfl (by kernel_rfl) (by kernel_rfl) (by kernel_rfl) (fun _ _ _ h => h) (Or.inl ⟨by rfl, fun w' hw' => ?_⟩) hHeld ?_
  · first | (go_simp; done) | (obtain ⟨s0, s1, s2, s3, s4, s5, s6, s7⟩ := hw'; go_simp; done)
  try simp only [Act.put, List.setIfInBounds_toArray, List.set_cons_zero, List.set_cons_succ]
  refine wpAnyH_ready (rs := [3]) (by kernel_rfl) (by simp) ?_
  refine AllReadyH.cons rfl (fun K hK => ?_) AllReadyH.nil
  go_simp
  refine (show Calls _ _ _ _ (SetDr (w2.alloc (.cells #[x0, x1, x2, x3, x4, x5, x6, x7] 30)).heap.size (w.heap.size + 1) (w2.alloc (.cells #[x0, x1, x2, x3, x4, x5, x6, x7] 30)).drew) from (near_calls _ _ _ c3 (by omega) hRp).mono (fun e w' ⟨v, xs, h1, h2, h3, h4, h5⟩ => ⟨v, xs, h1, h2, h3, h4.mono (by omega), h5⟩)).mono ?_
  rintro e w3 ⟨v, xs, rfl, hlx, ho, c4, k3⟩
  have hz3 := k3.size
  have CX3 : Cells w3 w2.heap.size 0 [x0, x1, x2, x3, x4, x5, x6, x7] := CX.kept ((Cg.wrote (S := fun x => x = w.heap.size + 1) k3 rfl).block _ (by show w2.heap.size < (w2.alloc _).heap.size; simp) (by omega))
  have hr3 : w3.heap[w.heap.size]? = some (.cells zP.toArray 30 (0, 0)) := ((Cg.wrote (S := fun x => x = w.heap.size + 1) k3 rfl).block _ (by show w.heap.size < (w2.alloc _).heap.size; rw [World.size_alloc]; omega) (by omega)).trans ((Below.heap_alloc w2 _ w.heap.size (by omega)).trans hr2)
  have hE := Lib.hid (pair_end (o := .cells #[x0, x1, x2, x3, x4, x5, x6, x7] 30) (Nat.lt_succ_self _) hcl hb hL k2 ho k3)
  obtain ⟨z0, z1, z2, z3, z4, z5, z6, z7⟩ := cells8 (box_cells hr3)
  have hfz := fun j => frozen_of_row w3 w.heap.size j _ _ hr3
  have hzl := block_lt hr3
  refine hK.out _ _ (cells8 CX3) (fun hHeld => ?_)
  clear hK K
  try simp only [Act.put, List.setIfInBounds_toArray, List.set_cons_zero, List.set_cons_succ]
  refine wpAnyH_ready (rs := [4]) (by kernel_rfl) (by simp) ?_
  refine AllReadyH.cons rfl (fun K hK => ?_) AllReadyH.nil
  go_simp
  refine hK.out _ _ (cells8 (cells_putN (g := w.heap.size) (vs := [x0, x1, x2, x3, x4, x5, x6, x7]) CX3 (by omega))) (fun hHeld => ?_)
  clear hK K
  try simp only [Act.put, List.setIfInBounds_toArray, List.set_cons_zero, List.set_cons_succ]
  refine takeD (i := 5) (v := v) (some 3) rfl rfl (by kernel_rfl) (by kernel_rfl) (by kernel_rfl) (fun _ _ _ h => h) (Or.inl ⟨by rfl, fun w' hw' => ?_⟩) hHeld ?_
  · first | (go_simp; done) | (obtain ⟨s0, s1, s2, s3, s4, s5, s6, s7⟩ := hw'; go_simp; done)
  try simp only [Act.put, List.setIfInBounds_toArray, List.set_cons_zero, List.set_cons_succ]
  refine wpAnyH_done (by kernel_rfl) ?_ _
  go_wp2
  refine bodyPost_ret (v := .tuple #[.agg #[x0, x1, x2, x3, x4, x5, x6, x7], v])
    (by simp [results, Try.results6, go_sem, z0, z1, z2, z3, z4, z5, z6, z7]) rfl ⟨[x0, x1, x2, x3, x4, x5, x6, x7], p, v, xs, rfl, hE.out.1, hE.out.2.1, hwee, hlx, hE.out.2.2⟩







end Go.Proofs.Ythfbnalgnnjbbaa
