/-
  Why, Reasons: what the program answers. No condition of its own.
-/
import Derived.Test.YtleimijgpmoifaaGreatWhyV
import Derived.Test.YtleimijgpmoifaaGreatAppend
namespace Go.Proofs.YtleimijgpmoifaaGreat
set_option linter.unusedVariables false
set_option linter.unusedSimpArgs false
open Go.RowKit Go.Shelf
set_option maxRecDepth 100000

theorem rdl_one {w : World} {g : Nat} {q : Int × Int} (hC : Cells w g 0 [.int .i64 q.1, .int .i64 q.2]) (h1 : Fits q.1) (h2 : Fits q.2) : RdL w [.slice (some ⟨g, 0, none⟩) 1 1] [q] :=
  ⟨some ⟨g, 0, none⟩, 1, rfl, by simp, by omega, by simp, fun i hi => by
    have : i = 0 := by simp at hi; omega
    subst this
    exact ⟨g, 0, _, rfl, by rw [Nat.zero_mul]; exact hC, ⟨rfl, h1, h2⟩⟩⟩
theorem info_rs : (Tryz.prog.info? 103).map (fun i => (i.zero, i.size, i.bytes)) = some (some (.agg #[.int .i64 0, .int .i64 0]), 2, 16) := by kernel_rfl
theorem flat_keep {α : Type} [Fl α] {B : Nat} {e : TypeId} {w w' : World} {v : Value} {xs : List α} (h : OwnF B e w v xs) (hk : ∀ g, B ≤ g → g < w.heap.size → w'.heap[g]? = w.heap[g]?) : OwnF B e w' v xs := by
  obtain ⟨⟨h1, h2⟩, h3⟩ := h
  refine ⟨⟨h1, ?_⟩, h3⟩
  rcases h2 with h2 | ⟨g, cap, cur, e, hB, hh, hr⟩
  · exact .inl h2
  · exact .inr ⟨g, cap, cur, e, hB, (hk g hB (block_lt hh)).trans hh, hr⟩
theorem flat_mono {α : Type} [Fl α] {B B' : Nat} {e : TypeId} {w : World} {v : Value} {xs : List α} (h : OwnF B e w v xs) (hB : B' ≤ B) : OwnF B' e w v xs := by
  obtain ⟨⟨h1, h2⟩, h3⟩ := h
  refine ⟨⟨h1, ?_⟩, h3⟩
  rcases h2 with h2 | ⟨g, cap, cur, e, hg, hr⟩
  · exact .inl h2
  · exact .inr ⟨g, cap, cur, e, Nat.le_trans hB hg, hr⟩
theorem flat_sl {α : Type} [Fl α] {B : Nat} {e : TypeId} {w : World} {v : Value} {xs : List α} (h : OwnF B e w v xs) : ∃ a c, v = .slice a xs.length c ∧ ∀ g, v.ownBlock = some g → B ≤ g ∧ g < w.heap.size := by
  obtain ⟨⟨h1, h2⟩, h3⟩ := h
  rcases h2 with ⟨rfl, hn⟩ | ⟨g, cap, cur, rfl, hg, hh, hr⟩
  · exact ⟨none, 0, by rw [hn], fun g hg => by simp [Value.ownBlock] at hg⟩
  · exact ⟨_, _, rfl, fun g' hg' => by simp [Value.ownBlock] at hg'; subst hg'; exact ⟨hg, block_lt hh⟩⟩
def lenS : Value → Nat
  | .slice _ n _ => n
  | _ => 0

set_option maxHeartbeats 2000000 in
theorem take_calls {x0 x1 x2 x3 x4 x5 x6 x7 : Value} {b m : Nat} {w : World} (ts : List Int) (a i : Int) (fa : Fits a) (hB : w.heap[b]? = some (.cells #[x0, x1, x2, x3, x4, x5, x6, x7, .int .u16 (m : Int), .int .u16 (maskOf ts : Int)] 109 (0, 0))) :
    Calls Tryz.prog 79 #[.pointer (some ⟨b, 0, none⟩), .agg #[.int .i64 a, .int .i64 i]] w fun e w' => (∃ r, e = .returned r) ∧ w'.heap[b]? = some (.cells #[x0, x1, x2, x3, x4, x5, x6, x7, .int .u16 (m : Int), .int .u16 (maskOf (ts ++ [a]) : Int)] 109 (0, 0)) ∧ Below b w w' ∧ (∀ g, g ≠ b → g < w.heap.size → w'.heap[g]? = w.heap[g]?) ∧ w.heap.size ≤ w'.heap.size := by
  have hm := maskOf_lt ts
  have hbl := bitN_lt a
  have hlt := block_lt hB
  have bA := (Below.refl w.heap.size w).alloc (Nat.le_refl _) (.cells #[.int .i64 a, .int .i64 i] 103)
  have CY := Cells.new w [.int .i64 a, .int .i64 i] 103
  have hB1 := (Below.heap_alloc w (.cells #[.int .i64 a, .int .i64 i] 103) b hlt).trans hB
  have hsz : (w.alloc (.cells #[.int .i64 a, .int .i64 i] 103)).heap.size = w.heap.size + 1 := World.size_alloc _ _
  go_enter Tryz.func79, Tryz.ntmps79
  go_upto_region 1 with fail
  obtain ⟨z0, _⟩ := cells2 CY
  have y9 : (w.alloc (.cells #[.int .i64 a, .int .i64 i] 103)).cell? ⟨b, 9, none⟩ = some (.int .u16 (maskOf ts : Int)) := by rw [cell_of_row _ b 9 _ _ _ hB1]; rfl
  have f9 := frozen_of_row (w.alloc (.cells #[.int .i64 a, .int .i64 i] 103)) b 9 _ _ hB1
  generalize w.alloc (.cells #[.int .i64 a, .int .i64 i] 103) = wq at *
  have z0 : wq.drew.cell? ⟨w.heap.size, 0, none⟩ = some (.int .i64 a) := z0
  have y9 : wq.drew.cell? ⟨b, 9, none⟩ = some (.int .u16 (maskOf ts : Int)) := y9
  have f9 : wq.drew.frozen? ⟨b, 9, none⟩ = false := f9
  have hB1 : wq.drew.heap[b]? = _ := hB1
  have bA := bA.drew
  have hsz : wq.drew.heap.size = w.heap.size + 1 := hsz
  refine wp_region_held_drew (S := fun W' => W'.cell? ⟨w.heap.size, 0, none⟩ = some (.int .i64 a)) (by kernel_rfl) z0 (fun hHeld => ?_)
  generalize wq.drew = wp at *
  refine takeD (i := 0) (v := .pointer (some ⟨b, 0, none⟩)) (some 4) rfl rfl (by kernel_rfl) (by kernel_rfl) (by kernel_rfl) (fun _ _ _ h => h) (Or.inl ⟨by rfl, fun w' hw' => ?_⟩) hHeld ?_
  · first | (go_simp; done) | (obtain ⟨s0, s1⟩ := hw'; go_simp; done)
  try simp only [Act.put, List.setIfInBounds_toArray, List.set_cons_zero, List.set_cons_succ]
  refine takeD (i := 1) (v := .pointer (some ⟨b, 0, none⟩)) (some 5) rfl rfl (by kernel_rfl) (by kernel_rfl) (by kernel_rfl) (fun _ _ _ h => h) (Or.inl ⟨by rfl, fun w' hw' => ?_⟩) hHeld ?_
  · first | (go_simp; done) | (obtain ⟨s0, s1⟩ := hw'; go_simp; done)
  try simp only [Act.put, List.setIfInBounds_toArray, List.set_cons_zero, List.set_cons_succ]
  refine takeD (i := 2) (v := .pointer (some ⟨b, 0, none⟩)) (some 6) rfl rfl (by kernel_rfl) (by kernel_rfl) (by kernel_rfl) (fun _ _ _ h => h) (Or.inl ⟨by rfl, fun w' hw' => ?_⟩) hHeld ?_
  · first | (go_simp; done) | (obtain ⟨s0, s1⟩ := hw'; go_simp; done)
  try simp only [Act.put, List.setIfInBounds_toArray, List.set_cons_zero, List.set_cons_succ]
  refine takeD (i := 3) (v := .pointer (some ⟨b, 9, none⟩)) (some 7) rfl rfl (by kernel_rfl) (by kernel_rfl) (by kernel_rfl) (fun _ _ _ h => h) (Or.inl ⟨by rfl, fun w' hw' => ?_⟩) hHeld ?_
  · first | (go_simp; done) | (obtain ⟨s0, s1⟩ := hw'; go_simp; done)
  try simp only [Act.put, List.setIfInBounds_toArray, List.set_cons_zero, List.set_cons_succ]
  refine takeD (i := 5) (v := .pointer (some ⟨w.heap.size, 0, none⟩)) (some 9) rfl rfl (by kernel_rfl) (by kernel_rfl) (by kernel_rfl) (fun _ _ _ h => h) (Or.inl ⟨by rfl, fun w' hw' => ?_⟩) hHeld ?_
  · first | (go_simp; done) | (obtain ⟨s0, s1⟩ := hw'; go_simp; done)
  try simp only [Act.put, List.setIfInBounds_toArray, List.set_cons_zero, List.set_cons_succ]
  refine takeD (i := 6) (v := .int .i64 a) (some 10) rfl rfl (by kernel_rfl) (by kernel_rfl) (by kernel_rfl) (fun _ _ _ h => h) (Or.inl ⟨by rfl, fun w' hw' => ?_⟩) hHeld ?_
  · first | (go_simp; done) | (obtain ⟨s0, s1⟩ := hw'; go_simp; done)
  try simp only [Act.put, List.setIfInBounds_toArray, List.set_cons_zero, List.set_cons_succ]
  refine wpAnyH_ready (rs := [4, 7]) (by kernel_rfl) (by simp) ?_
  refine AllReadyH.cons rfl (fun K hK => ?_) (AllReadyH.cons rfl (fun K hK => ?_) AllReadyH.nil)
  · go_simp
    refine hK.out _ _ z0 (fun hHeld => ?_)
    clear hK K
    try simp only [Act.put, List.setIfInBounds_toArray, List.set_cons_zero, List.set_cons_succ]
    refine wpAnyH_ready (rs := [7]) (by kernel_rfl) (by simp) ?_
    refine AllReadyH.cons rfl (fun K hK => ?_) AllReadyH.nil
    go_simp
    refine (atomBit_calls a _ fa).mono ?_
    rintro e w' ⟨rfl, rfl⟩
    refine hK.out _ _ z0 (fun hHeld => ?_)
    clear hK K
    try simp only [Act.put, List.setIfInBounds_toArray, List.set_cons_zero, List.set_cons_succ]
    refine wpAnyH_ready (rs := [8]) (by kernel_rfl) (by simp) ?_
    refine AllReadyH.cons rfl (fun K hK => ?_) AllReadyH.nil
    go_simp
    refine (joinN_calls _ _ _ hm hbl).mono ?_
    rintro e w' ⟨rfl, rfl⟩
    refine hK.out _ _ z0 (fun hHeld => ?_)
    clear hK K
    try simp only [Act.put, List.setIfInBounds_toArray, List.set_cons_zero, List.set_cons_succ]
    refine takeD (i := 9) (v := .pointer (some ⟨b, 0, none⟩)) (some 13) rfl rfl (by kernel_rfl) (by kernel_rfl) (by kernel_rfl) (fun _ _ _ h => h) (Or.inl ⟨by rfl, fun w' hw' => ?_⟩) hHeld ?_
    · first | (go_simp; done) | (obtain ⟨s0, s1⟩ := hw'; go_simp; done)
    try simp only [Act.put, List.setIfInBounds_toArray, List.set_cons_zero, List.set_cons_succ]
    refine takeD (i := 10) (v := .pointer (some ⟨b, 9, none⟩)) (some 14) rfl rfl (by kernel_rfl) (by kernel_rfl) (by kernel_rfl) (fun _ _ _ h => h) (Or.inl ⟨by rfl, fun w' hw' => ?_⟩) hHeld ?_
    · first | (go_simp; done) | (obtain ⟨s0, s1⟩ := hw'; go_simp; done)
    try simp only [Act.put, List.setIfInBounds_toArray, List.set_cons_zero, List.set_cons_succ]
    refine wpAnyH_ready (rs := [11]) (by kernel_rfl) (by simp) ?_
    refine AllReadyH.cons rfl (fun K hK => ?_) AllReadyH.nil
    go_simp
    refine hK.out _ _ ((World.cell?_of_block (a := ⟨w.heap.size, 0, none⟩) (Below.heap_setCell _ _ _ _ (by simp; omega))).trans z0) (fun hHeld => ?_)
    clear hK K
    try simp only [Act.put, List.setIfInBounds_toArray, List.set_cons_zero, List.set_cons_succ]
    refine wpAnyH_done (by kernel_rfl) ?_ _
    go_wp2
    go_end0
    refine ⟨⟨_, rfl⟩, ?_, ?_, ?_, ?_⟩
    · rw [maskOf_snoc, heap_setCell_same _ b 9 _ _ _ hB1]; rfl
    · exact (bA.mono (show b ≤ w.heap.size by omega)).setCell (p := ⟨b, 9, none⟩) (show b ≤ b from Nat.le_refl _) _
    · intro g hg hgl
      exact (Below.heap_setCell _ _ _ _ (by simpa using hg)).trans (bA.block g hgl)
    · have hbs9 := bA.size
      rw [World.size_setCell]
      exact hbs9
  · go_simp
    refine (atomBit_calls a _ fa).mono ?_
    rintro e w' ⟨rfl, rfl⟩
    refine hK.out _ _ z0 (fun hHeld => ?_)
    clear hK K
    try simp only [Act.put, List.setIfInBounds_toArray, List.set_cons_zero, List.set_cons_succ]
    refine wpAnyH_ready (rs := [4]) (by kernel_rfl) (by simp) ?_
    refine AllReadyH.cons rfl (fun K hK => ?_) AllReadyH.nil
    go_simp
    refine hK.out _ _ z0 (fun hHeld => ?_)
    clear hK K
    try simp only [Act.put, List.setIfInBounds_toArray, List.set_cons_zero, List.set_cons_succ]
    refine wpAnyH_ready (rs := [8]) (by kernel_rfl) (by simp) ?_
    refine AllReadyH.cons rfl (fun K hK => ?_) AllReadyH.nil
    go_simp
    refine (joinN_calls _ _ _ hm hbl).mono ?_
    rintro e w' ⟨rfl, rfl⟩
    refine hK.out _ _ z0 (fun hHeld => ?_)
    clear hK K
    try simp only [Act.put, List.setIfInBounds_toArray, List.set_cons_zero, List.set_cons_succ]
    refine takeD (i := 9) (v := .pointer (some ⟨b, 0, none⟩)) (some 13) rfl rfl (by kernel_rfl) (by kernel_rfl) (by kernel_rfl) (fun _ _ _ h => h) (Or.inl ⟨by rfl, fun w' hw' => ?_⟩) hHeld ?_
    · first | (go_simp; done) | (obtain ⟨s0, s1⟩ := hw'; go_simp; done)
    try simp only [Act.put, List.setIfInBounds_toArray, List.set_cons_zero, List.set_cons_succ]
    refine takeD (i := 10) (v := .pointer (some ⟨b, 9, none⟩)) (some 14) rfl rfl (by kernel_rfl) (by kernel_rfl) (by kernel_rfl) (fun _ _ _ h => h) (Or.inl ⟨by rfl, fun w' hw' => ?_⟩) hHeld ?_
    · first | (go_simp; done) | (obtain ⟨s0, s1⟩ := hw'; go_simp; done)
    try simp only [Act.put, List.setIfInBounds_toArray, List.set_cons_zero, List.set_cons_succ]
    refine wpAnyH_ready (rs := [11]) (by kernel_rfl) (by simp) ?_
    refine AllReadyH.cons rfl (fun K hK => ?_) AllReadyH.nil
    go_simp
    refine hK.out _ _ ((World.cell?_of_block (a := ⟨w.heap.size, 0, none⟩) (Below.heap_setCell _ _ _ _ (by simp; omega))).trans z0) (fun hHeld => ?_)
    clear hK K
    try simp only [Act.put, List.setIfInBounds_toArray, List.set_cons_zero, List.set_cons_succ]
    refine wpAnyH_done (by kernel_rfl) ?_ _
    go_wp2
    go_end0
    refine ⟨⟨_, rfl⟩, ?_, ?_, ?_, ?_⟩
    · rw [maskOf_snoc, heap_setCell_same _ b 9 _ _ _ hB1]; rfl
    · exact (bA.mono (show b ≤ w.heap.size by omega)).setCell (p := ⟨b, 9, none⟩) (show b ≤ b from Nat.le_refl _) _
    · intro g hg hgl
      exact (Below.heap_setCell _ _ _ _ (by simpa using hg)).trans (bA.block g hgl)
    · have hbs9 := bA.size
      rw [World.size_setCell]
      exact hbs9


set_option maxHeartbeats 4000000 in
theorem implWhy_calls {cs : List Value} {p : ProgD} {w : World} {v : Value} {xs : List Int} (h : Rd.R w cs p) (gx : RdL w [v] xs) :
    Calls Tryz.prog 27 #[.agg cs.toArray, v] w fun e w' => ∃ u, e = .returned u ∧ OwnF w.heap.size 103 w' u (whyR p xs) ∧ Below w.heap.size w w' := by
  obtain ⟨p0, p1, p2, p3, p4, p5, p6, p7, rfl⟩ := list8 (Rd.len h)
  have t0 : Below w.heap.size w (w.alloc (.cells #[p0, p1, p2, p3, p4, p5, p6, p7] 36)) := (Below.refl _ _).alloc (by simp) _
  cases hW : whyB p xs
  · have hv := Lib.hid (whyR_no hW)
    go_enter Tryz.func27, Tryz.ntmps27
    go_wp2_with fail
    refine (viewOf_no (Rd.mono t0 h) (Rd.mono (α := List Int) t0 gx) hW).mono ?_
    rintro e w1 ⟨rfl, b1⟩
    go_wp2
    go_ret
    exact ⟨_, rfl, by rw [hv.out]; exact ⟨World.ownsRow_nil _ _ _ _, by simp⟩, (t0.step b1).alloc (t0.step b1).size _⟩
  · have hv := Lib.hid (whyR_yes hW)
    have hP := whyB_isP hW
    have hok : progOkB (foldD p) = true := foldR_ok (whyB_fold hW).1
    have hr12 := rules12 hok
    have hlen := (progOk_rules hok).1
    have hxl := hP.le
    obtain ⟨i0, hi, hz0, hz1, hz2⟩ := info_parts info_rs
    go_enter Tryz.func27, Tryz.ntmps27
    go_wp2_with fail
    refine (viewOf_yes (Rd.mono t0 h) (Rd.mono (α := List Int) t0 gx) hW).mono ?_
    rintro e w1 ⟨x0, x1, x2, x3, x4, x5, x6, x7, rfl, o1, b1⟩
    have hRd := o1.rd
    have l1 := Rd.one hRd
    have st0 := sto Tryz.prog (l1 x0 (by simp))
    have st1 := sto Tryz.prog (l1 x1 (by simp))
    have st2 := sto Tryz.prog (l1 x2 (by simp))
    have st3 := sto Tryz.prog (l1 x3 (by simp))
    have st4 := sto Tryz.prog (l1 x4 (by simp))
    have st5 := sto Tryz.prog (l1 x5 (by simp))
    have st6 := sto Tryz.prog (l1 x6 (by simp))
    have st7 := sto Tryz.prog (l1 x7 (by simp))
    have t1 := t0.step b1
    obtain ⟨y0, y1, y2, y3, y4, y5, y6, y7, y8⟩ := cells9 (Cells.new w1 [x0, x1, x2, x3, x4, x5, x6, x7, .int .u16 (maskOf xs : Int)] 105)
    have bV := (Below.refl w1.heap.size w1).alloc (Nat.le_refl _) (.cells #[x0, x1, x2, x3, x4, x5, x6, x7, .int .u16 (maskOf xs : Int)] 105)
    have bA := bV.alloc (by simp) (.cells #[x0, x1, x2, x3, x4, x5, x6, x7, .int .u16 (maskOf xs : Int), .int .u16 0] 109)
    have hA0 := alloc_block (w1.alloc (.cells #[x0, x1, x2, x3, x4, x5, x6, x7, .int .u16 (maskOf xs : Int)] 105)) #[x0, x1, x2, x3, x4, x5, x6, x7, .int .u16 (maskOf xs : Int), .int .u16 0] 109
    rw [World.size_alloc] at hA0
    go_wp2
    clear st0 st1 st2 st3 st4 st5 st6 st7 y0 y1 y2 y3 y4 y5 y6 y7 y8
    have hzA : ((w1.alloc (.cells #[x0, x1, x2, x3, x4, x5, x6, x7, .int .u16 (maskOf xs : Int)] 105)).alloc (.cells #[x0, x1, x2, x3, x4, x5, x6, x7, .int .u16 (maskOf xs : Int), .int .u16 0] 109)).heap.size = w1.heap.size + 2 := by simp
    generalize (w1.alloc (.cells #[x0, x1, x2, x3, x4, x5, x6, x7, .int .u16 (maskOf xs : Int)] 105)).alloc (.cells #[x0, x1, x2, x3, x4, x5, x6, x7, .int .u16 (maskOf xs : Int), .int .u16 0] 109) = wa at *
    go_loopw [8] (fun lv wr => ∃ k : Nat, (whyK (foldD p).rules xs k).length = k ∧ OwnF (w1.heap.size + 2) 103 wr lv (whyK (foldD p).rules xs k) ∧ wr.heap[w1.heap.size + 1]? = some (.cells #[x0, x1, x2, x3, x4, x5, x6, x7, .int .u16 (maskOf xs : Int), .int .u16 (maskOf (fsts (whyK (foldD p).rules xs k)) : Int)] 109 (0, 0)) ∧ Below w1.heap.size w1 wr ∧ w1.heap.size + 2 ≤ wr.heap.size) (fun lv _ => xs.length - lenS lv)
    case atStart => exact ⟨0, rfl, ⟨World.ownsRow_nil _ _ _ _, by simp [whyK]⟩, hA0, bA, by omega⟩
    case round =>
      obtain ⟨k, hkl, hO, hV, hB, hS⟩ := hrel
      clear hA0 bA bV hzA
      obtain ⟨la, lc, rfl, hob⟩ := flat_sl hO
      have hkl2 := whyK_le (rs := (foldD p).rules) (xs := xs) k
      have HKL := Lib.hid hkl
      obtain ⟨y0, y1, y2, y3, y4, y5, y6, y7, y8, y9⟩ := cells10 (cellsAtY (cs := [x0, x1, x2, x3, x4, x5, x6, x7, .int .u16 (maskOf xs : Int), .int .u16 (maskOf (fsts (whyK (foldD p).rules xs k)) : Int)]) hV)
      cases hn : nxt (foldD p).rules (fsts (whyK (foldD p).rules xs k)) xs
      · have he0 := Lib.hid (whyF_end hkl hn)
        have hNC := next_calls xs (fsts (whyK (foldD p).rules xs k)) (Rd.mono hB hRd) hr12 hlen hP
        rw [hn] at hNC
        have HNC := Lib.hid hNC
        clear hNC hn hkl
        go_wp2_with fail
        refine HNC.out.mono ?_
        rintro e w5 ⟨rfl, b5⟩
        go_wp2
        go_ret
        refine ⟨_, rfl, ?_, ((t1.trans (hB.mono t1.size)).step b5).alloc ((t1.trans (hB.mono t1.size)).step b5).size _⟩
        rw [hv.out, he0.out]
        exact flat_mono (flat_keep hO fun g _ hg => ((b5.alloc b5.size _).block g hg)) (by have := t1.size; omega)
      · rename_i q
        obtain ⟨hgl, hkx⟩ := whyK_go hkl hn
        obtain ⟨hm1, _, hm3, hm4, _⟩ := nxt_mem hn
        have hq12 : 1 ≤ q.1 ∧ q.1 ≤ 12 := by
          rw [hP] at hm1
          have := (mem_pickTo _ _ _).1 hm1
          omega
        have fq1 : Fits q.1 := ⟨by omega, by omega⟩
        have fq2 : Fits q.2 := ⟨by omega, by omega⟩
        have hK1 := Lib.hid (whyK_some hn)
        have hgl := Lib.hid hgl
        have hNC := next_calls xs (fsts (whyK (foldD p).rules xs k)) (Rd.mono hB hRd) hr12 hlen hP
        rw [hn] at hNC
        have HNC : Hid (Calls Tryz.prog 78 #[.agg #[x0, x1, x2, x3, x4, x5, x6, x7, .int .u16 (maskOf xs : Int), .int .u16 (maskOf (fsts (whyK (foldD p).rules xs k)) : Int)]] wr fun e w' => e = .returned (.tuple #[.agg #[.int .i64 q.1, .int .i64 q.2], .bool true]) ∧ Below wr.heap.size wr w') := hNC
        have hkl3 : (whyK (foldD p).rules xs k).length ≤ 12 := by omega
        clear hNC hn hm1 hm4 hkl
        go_wp2_with fail
        refine HNC.out.mono ?_
        rintro e w5 ⟨rfl, b5⟩
        have b6 := b5.alloc b5.size (.cells #[.int .i64 q.1, .int .i64 q.2] 103)
        have b7 := b6.alloc b6.size (.cells #[.int .i64 q.1, .int .i64 q.2] 103)
        have CY := Cells.new w5 [.int .i64 q.1, .int .i64 q.2] 103
        have CZ := Cells.new (w5.alloc (.cells #[.int .i64 q.1, .int .i64 q.2] 103)) [.int .i64 q.1, .int .i64 q.2] 103
        rw [World.size_alloc] at CZ
        have hr1 := rdl_one CZ fq1 fq2
        obtain ⟨z0, z1⟩ := cells2 CY
        have hO7 := flat_keep hO (w' := (w5.alloc (.cells #[.int .i64 q.1, .int .i64 q.2] 103)).alloc (.cells #[.int .i64 q.1, .int .i64 q.2] 103)) (fun g _ hg => b7.block g hg)
        have hs7 : w1.heap.size + 2 ≤ ((w5.alloc (.cells #[.int .i64 q.1, .int .i64 q.2] 103)).alloc (.cells #[.int .i64 q.1, .int .i64 q.2] 103)).heap.size := by have := b7.size; omega
        clear y0 y1 y2 y3 y4 y5 y6 y7 y8 y9
        go_wp2_with (at_builtin; refine wpList_append_flat (α := Int × Int) (B := w1.heap.size + 2) rfl _ _ 49 rfl i0 (.agg #[.int .i64 0, .int .i64 0]) 16 Tryz.underlying49 hi hz0 hz1 hz2 rfl rfl hO7 rfl hr1 (by simp; omega) (by simp; omega) hs7 ?_; intro v8 w8 hO8 hb8 hg8; obtain ⟨a8, c8, rfl, hob8⟩ := flat_sl hO8; have CY8 := CY.kept (w' := w8) ((hg8.block _ (by simp; omega) (by intro e; have := hob _ e.symm; have := b5.size; omega)).trans (Below.heap_alloc _ _ _ (by simp))); obtain ⟨q0, q1⟩ := cells2 CY8)
        have hV8 := (hb8.block (w1.heap.size + 1) (by omega)).trans ((b7.block _ (block_lt hV)).trans hV)
        have hB8 : Below w1.heap.size w1 w8 := (hB.step b7).trans (hb8.mono (by omega))
        refine (take_calls (fsts (whyK (foldD p).rules xs k)) q.1 q.2 fq1 hV8).mono ?_
        rintro e w9 ⟨⟨r9, rfl⟩, hV9, hb9, hk9, hs9⟩
        rw [← fsts_snoc, ← hK1.out] at hV9
        have hO9 := flat_keep hO8 (w' := w9) (fun g hg hgl => hk9 g (by omega) hgl)
        rw [← hK1.out] at hO9
        have HO9 := Lib.hid hO9
        have hlen9 : Hid ((whyK (foldD p).rules xs k ++ [q]).length = (whyK (foldD p).rules xs k).length + 1) := by show _ = _; simp
        have hB9 := hB8.trans (hb9.mono (by omega))
        have hS9 : w1.heap.size + 2 ≤ w9.heap.size := by have := hb8.size; omega
        have hmz : Hid (xs.length - lenS (.slice a8 (whyK (foldD p).rules xs k ++ [q]).length c8) < xs.length - lenS (.slice la (whyK (foldD p).rules xs k).length lc)) := by
          show xs.length - (whyK (foldD p).rules xs k ++ [q]).length < xs.length - (whyK (foldD p).rules xs k).length
          have e1 := hlen9.out
          have e2 := HKL.out
          omega
        have hxz : (whyK (foldD p).rules xs k ++ [q]).length = (whyK (foldD p).rules xs k).length + 1 := hlen9.out
        have hsl9 : Hid (OwnF (w1.heap.size + 2) 103 w9 (.slice a8 ((whyK (foldD p).rules xs k).length + 1) c8) (whyK (foldD p).rules xs (k + 1))) := by
          show OwnF _ _ _ _ _
          have e3 : (whyK (foldD p).rules xs (k + 1)).length = (whyK (foldD p).rules xs k).length + 1 := by rw [hK1.out]; exact hxz
          rw [← e3]; exact HO9.out
        have hmz9 : Hid (xs.length - lenS (.slice a8 ((whyK (foldD p).rules xs k).length + 1) c8) < xs.length - lenS (.slice la (whyK (foldD p).rules xs k).length lc)) := by
          show _ < _
          rw [← hxz]; exact hmz.out
        clear hxz
        clear hO9 hO8 hO7 hg8 hob8 q0 q1 z0 z1 CY8 CY CZ
        go_wp2
        go_roundw
        case rel => exact ⟨k + 1, hgl.out, hsl9.out, hV9, hB9, hS9⟩
        case measure => exact hmz9.out

end Go.Proofs.YtleimijgpmoifaaGreat
