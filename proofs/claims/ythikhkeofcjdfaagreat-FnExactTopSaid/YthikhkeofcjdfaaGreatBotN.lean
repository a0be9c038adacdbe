/-
  Bottom: impl's and spec's contracts (BotI, BotS). No condition of its own.
-/
import Derived.Test.YthikhkeofcjdfaaGreatBotP
import Derived.Test.YthikhkeofcjdfaaGreatSplA
import Derived.Test.YthikhkeofcjdfaaGreatSplS
namespace Go.Proofs.YthikhkeofcjdfaaGreat
set_option linter.unusedVariables false
set_option linter.unusedSimpArgs false
open Go.RowKit
set_option maxRecDepth 100000

/-! ### BotI -/

/-- What a step says of a rule: the rule as it is, and whether it stays. -/
def SayQ (w : World) (ecs : List Value) (b : Bool) (e : Ending) (w' : World) : Prop := e = .returned (.tuple #[.agg (List.toArray ecs), .bool b]) ∧ Below w.heap.size w w'
set_option maxHeartbeats 4000000 in
theorem ifBelow_calls {r : RuleD} {w : World} {m : Nat} {s0 s1 s2 s3 s4 s5 s6 s7 : Value} {ecs : List Value} (hR : Rd.R w ecs r) (hm : m < 4096) :
    Calls Tryz.prog 200 #[.agg #[s0, s1, s2, s3, s4, s5, s6, s7, .int .u16 (m : Int)], .agg ecs.toArray] w (SayQ w ecs (inM (evM r) m)) := by
  have hR0 := hR
  obtain ⟨d1, d4, rfl, hf, r1, r4⟩ := hR0
  have so1 := sto Tryz.prog r1.one1
  have so4 := sto Tryz.prog r4.one1
  have tA := (Below.refl w.heap.size w).alloc (Nat.le_refl _) (.cells #[s0, s1, s2, s3, s4, s5, s6, s7, .int .u16 (m : Int)] 145)
  have tB := tA.alloc tA.size (.cells #[.bool r.choice, d1, .bool r.weight, .int .i64 r.bound, d4] 34)
  have tC := tB.alloc tB.size (.cells #[.bool false, .slice none 0 0, .bool false, .int .i64 0, .slice none 0 0] 34)
  have zA : (w.alloc (.cells #[s0, s1, s2, s3, s4, s5, s6, s7, .int .u16 (m : Int)] 145)).heap.size = w.heap.size + 1 := World.size_alloc _ _
  have zB : ((w.alloc (.cells #[s0, s1, s2, s3, s4, s5, s6, s7, .int .u16 (m : Int)] 145)).alloc (.cells #[.bool r.choice, d1, .bool r.weight, .int .i64 r.bound, d4] 34)).heap.size = w.heap.size + 2 := by simp
  have CS := ((Cells.new w [s0, s1, s2, s3, s4, s5, s6, s7, .int .u16 (m : Int)] 145).alloc (.cells #[.bool r.choice, d1, .bool r.weight, .int .i64 r.bound, d4] 34)).alloc (.cells #[.bool false, .slice none 0 0, .bool false, .int .i64 0, .slice none 0 0] 34)
  have CR := (Cells.new (w.alloc (.cells #[s0, s1, s2, s3, s4, s5, s6, s7, .int .u16 (m : Int)] 145)) [.bool r.choice, d1, .bool r.weight, .int .i64 r.bound, d4] 34).alloc (.cells #[.bool false, .slice none 0 0, .bool false, .int .i64 0, .slice none 0 0] 34)
  have hz := alloc_block ((w.alloc (.cells #[s0, s1, s2, s3, s4, s5, s6, s7, .int .u16 (m : Int)] 145)).alloc (.cells #[.bool r.choice, d1, .bool r.weight, .int .i64 r.bound, d4] 34)) #[.bool false, .slice none 0 0, .bool false, .int .i64 0, .slice none 0 0] 34
  have zC : (((w.alloc (.cells #[s0, s1, s2, s3, s4, s5, s6, s7, .int .u16 (m : Int)] 145)).alloc (.cells #[.bool r.choice, d1, .bool r.weight, .int .i64 r.bound, d4] 34)).alloc (.cells #[.bool false, .slice none 0 0, .bool false, .int .i64 0, .slice none 0 0] 34)).heap.size = w.heap.size + 3 := by simp
  rw [zA] at CR
  rw [zB] at hz
  have hRC := Rd.mono tC hR
  have hev := evM_lt r
  clear r1 r4 hf hR tA tB
  go_enter Tryz.func200, Tryz.ntmps200
  go_upto_region 1 with fail
  generalize hW : World.alloc (World.alloc (World.alloc w _) _) _ = W at *
  have tD := tC.drew
  have hRD := Rd.mono (Below.refl W.heap.size W).drew hRC
  have CS := CS.drew
  have CR := CR.drew
  have hzd : W.drew.heap[w.heap.size + 2]? = _ := hz
  have zD : W.drew.heap.size = w.heap.size + 3 := zC
  have C8 : ∀ W : World, Cells W w.heap.size 0 [s0, s1, s2, s3, s4, s5, s6, s7, .int .u16 (m : Int)] → W.cell? ⟨w.heap.size, 8, none⟩ = some (.int .u16 (m : Int)) := fun W h => by simpa using h 8 _ rfl
  clear hz zC hRC tC hW zA zB
  refine wp_region_held_drew (S := fun W' => W'.cell? ⟨w.heap.size, 8, none⟩ = some (.int .u16 (m : Int)) ∧ W'.cell? ⟨w.heap.size + 1, 0, none⟩ = some (.bool r.choice) ∧ W'.cell? ⟨w.heap.size + 1, 1, none⟩ = some d1 ∧ W'.cell? ⟨w.heap.size + 1, 2, none⟩ = some (.bool r.weight) ∧ W'.cell? ⟨w.heap.size + 1, 3, none⟩ = some (.int .i64 r.bound) ∧ W'.cell? ⟨w.heap.size + 1, 4, none⟩ = some d4) (by kernel_rfl) ⟨C8 _ CS, cells5 CR⟩ (fun hHeld => ?_)
  generalize W.drew = wq at *
  refine takeD (i := 0) (v := .agg #[.bool r.choice, d1, .bool r.weight, .int .i64 r.bound, d4]) (some 6) rfl rfl (by kernel_rfl) (by kernel_rfl) (by kernel_rfl) (fun _ _ _ h => h) (Or.inl ⟨by rfl, fun w' hw' => ?_⟩) hHeld ?_
  · first | (go_simp; done) | (obtain ⟨s0, s1, s2, s3, s4, s5⟩ := hw'; go_simp; done)
  try simp only [Act.put, List.setIfInBounds_toArray, List.set_cons_zero, List.set_cons_succ]
  refine takeD (i := 1) (v := .agg #[.bool r.choice, d1, .bool r.weight, .int .i64 r.bound, d4]) (some 7) rfl rfl (by kernel_rfl) (by kernel_rfl) (by kernel_rfl) (fun _ _ _ h => h) (Or.inl ⟨by rfl, fun w' hw' => ?_⟩) hHeld ?_
  · first | (go_simp; done) | (obtain ⟨s0, s1, s2, s3, s4, s5⟩ := hw'; go_simp; done)
  try simp only [Act.put, List.setIfInBounds_toArray, List.set_cons_zero, List.set_cons_succ]
  refine takeD (i := 3) (v := .pointer (some ⟨w.heap.size, 8, none⟩)) (some 9) rfl rfl (by kernel_rfl) (by kernel_rfl) (by kernel_rfl) (fun _ _ _ h => h) (Or.inl ⟨by rfl, fun w' hw' => ?_⟩) hHeld ?_
  · first | (go_simp; done) | (obtain ⟨s0, s1, s2, s3, s4, s5⟩ := hw'; go_simp; done)
  try simp only [Act.put, List.setIfInBounds_toArray, List.set_cons_zero, List.set_cons_succ]
  refine takeD (i := 4) (v := .int .u16 (m : Int)) (some 10) rfl rfl (by kernel_rfl) (by kernel_rfl) (by kernel_rfl) (fun _ _ _ h => h) (Or.inl ⟨by rfl, fun w' hw' => ?_⟩) hHeld ?_
  · first | (go_simp; done) | (obtain ⟨s0, s1, s2, s3, s4, s5⟩ := hw'; go_simp; done)
  try simp only [Act.put, List.setIfInBounds_toArray, List.set_cons_zero, List.set_cons_succ]
  refine wpAnyH_ready (rs := [2]) (by kernel_rfl) (by simp) ?_
  refine AllReadyH.cons rfl (fun K hK => ?_) AllReadyH.nil
  go_simp
  refine (everyAtom_calls hRD).mono ?_
  rintro e w2 ⟨rfl, b2⟩
  have CS2 := CS.later b2
  have CR2 := CR.later b2
  have hz2 := (b2.block (w.heap.size + 2) (by omega)).trans hzd
  have t2 := tD.step b2
  have hs2 := b2.size
  obtain ⟨z0, z1, z2, z3, z4⟩ := cells5 (cellsAt hz2)
  have hfz := fun j => frozen_of_row _ (w.heap.size + 2) j _ _ hz2
  generalize evM r = E at *
  refine hK.out _ _ ⟨C8 _ CS2, cells5 CR2⟩ (fun hHeld => ?_)
  clear hK K
  try simp only [Act.put, List.setIfInBounds_toArray, List.set_cons_zero, List.set_cons_succ]
  refine wpAnyH_ready (rs := [5]) (by kernel_rfl) (by simp) ?_
  refine AllReadyH.cons rfl (fun K hK => ?_) AllReadyH.nil
  go_simp
  refine (inM_calls _ _ _ hev hm).mono ?_
  rintro e w' ⟨rfl, rfl⟩
  refine hK.out _ _ ⟨C8 _ CS2, cells5 CR2⟩ (fun hHeld => ?_)
  clear hK K
  try simp only [Act.put, List.setIfInBounds_toArray, List.set_cons_zero, List.set_cons_succ]
  refine wpAnyH_ready (rs := [6]) (by kernel_rfl) (by simp) ?_
  refine AllReadyH.cons rfl (fun K hK => ?_) AllReadyH.nil
  go_simp
  refine hK.out _ _ ⟨C8 _ (cells_putS (g := w.heap.size + 2) (vs := [.bool r.choice, d1, .bool r.weight, .int .i64 r.bound, d4]) CS2 (by omega)), cells5 (cells_putS (g := w.heap.size + 2) (vs := [.bool r.choice, d1, .bool r.weight, .int .i64 r.bound, d4]) CR2 (by omega))⟩ (fun hHeld => ?_)
  clear hK K
  try simp only [Act.put, List.setIfInBounds_toArray, List.set_cons_zero, List.set_cons_succ]
  refine takeD (i := 7) (v := .bool (inM E m)) (some 5) rfl rfl (by kernel_rfl) (by kernel_rfl) (by kernel_rfl) (fun _ _ _ h => h) (Or.inl ⟨by rfl, fun w' hw' => ?_⟩) hHeld ?_
  · first | (go_simp; done) | (obtain ⟨s0, s1, s2, s3, s4, s5⟩ := hw'; go_simp; done)
  try simp only [Act.put, List.setIfInBounds_toArray, List.set_cons_zero, List.set_cons_succ]
  refine wpAnyH_done (by kernel_rfl) ?_ _
  go_wp2
  refine bodyPost_ret (v := .tuple #[.agg #[.bool r.choice, d1, .bool r.weight, .int .i64 r.bound, d4], .bool (inM E m)])
    (by simp [results, Tryz.results200, go_sem, z0, z1, z2, z3, z4]) rfl ⟨rfl, ?_⟩
  repeat (refine Below.setCell ?_ (by simp; try omega) _)
  exact t2


set_option maxHeartbeats 8000000 in
theorem afterBot_calls {r : RuleD} {w : World} {us : List Int} {gs cp : Nat} {s0 s1 s2 s3 s4 s5 s6 s7 : Value} {ecs : List Value} {fp : List Nat} (hO : Ow.O w ecs r fp) (hfr : FitsR r)
    (hs : w.cell? ⟨gs, 0, none⟩ = some (.func (.func 200) #[.agg #[s0, s1, s2, s3, s4, s5, s6, s7, .int .u16 (maskOf us : Int)]] #[])) :
    Calls Tryz.prog 265 #[.agg ecs.toArray, .slice (some ⟨gs, 0, none⟩) 1 cp] w (StepQ w r fp (botS us)) := by
  have hR := Ow.rd hO
  have hR0 := hR
  obtain ⟨d1, d4, rfl, hf, r1, r4⟩ := hR0
  have so1 := sto Tryz.prog r1.one1
  have so4 := sto Tryz.prog r4.one1
  have tA := (Below.refl w.heap.size w).alloc (Nat.le_refl _) (.cells #[.bool r.choice, d1, .bool r.weight, .int .i64 r.bound, d4] 34)
  have tB := tA.alloc tA.size (.cells #[.bool false, .slice none 0 0, .bool false, .int .i64 0, .slice none 0 0] 34)
  have hb0 := (Below.heap_alloc (w.alloc (.cells #[.bool r.choice, d1, .bool r.weight, .int .i64 r.bound, d4] 34)) (.cells #[.bool false, .slice none 0 0, .bool false, .int .i64 0, .slice none 0 0] 34) w.heap.size (by simp)).trans (alloc_block w #[.bool r.choice, d1, .bool r.weight, .int .i64 r.bound, d4] 34)
  have hb1 := alloc_block (w.alloc (.cells #[.bool r.choice, d1, .bool r.weight, .int .i64 r.bound, d4] 34)) #[.bool false, .slice none 0 0, .bool false, .int .i64 0, .slice none 0 0] 34
  rw [World.size_alloc] at hb1
  have zB : ((w.alloc (.cells #[.bool r.choice, d1, .bool r.weight, .int .i64 r.bound, d4] 34)).alloc (.cells #[.bool false, .slice none 0 0, .bool false, .int .i64 0, .slice none 0 0] 34)).heap.size = w.heap.size + 2 := by simp
  have CX := (Cells.new w [.bool r.choice, d1, .bool r.weight, .int .i64 r.bound, d4] 34).alloc (.cells #[.bool false, .slice none 0 0, .bool false, .int .i64 0, .slice none 0 0] 34)
  obtain ⟨x0, x1, x2, x3, x4⟩ := cells5 CX
  have hOB := Ow.kept hO fun f hf => tB.block f (Ow.lt hO f hf)
  have hbe := bel_same (us := us) hfr
  have k3 := cell_kept tB hs
  have l3 := cell_lt hs
  clear hs r1 r4 hf CX hfr
  go_enter Tryz.func265, Tryz.ntmps265
  go_wp2
  refine wp_loop_rounds 2 ?_
  rw [rounds_succ]
  go_wp2_with fail
  go_at_call 200
  refine (ifBelow_calls (Ow.rd hOB) (maskOf_lt us)).mono ?_
  rintro e w5 ⟨rfl, b5⟩
  rw [← hbe]
  have hz5 := b5.size
  rw [zB] at hz5
  have hbp := (b5.block w.heap.size (by omega)).trans hb0
  have hbr := (b5.block (w.heap.size + 1) (by omega)).trans hb1
  have tw := tB.step b5
  clear x0 x1 x2 x3 x4 k3 hb0 hb1 b5 tA tB hbe
  cases hB : belB us r
  · have hG := botS_no hB
    have hbr8 := (Below.heap_alloc w5 (.cells #[.bool r.choice, d1, .bool r.weight, .int .i64 r.bound, d4] 34) (w.heap.size + 1) (by omega)).trans hbr
    obtain ⟨z0, z1, z2, z3, z4⟩ := cells5 (cellsAt hbr8)
    have hfz := fun j => frozen_of_row _ (w.heap.size + 1) j _ _ hbr8
    have HT := Lib.hid (tw.alloc tw.size (.cells #[.bool r.choice, d1, .bool r.weight, .int .i64 r.bound, d4] 34))
    have HG := Lib.hid hG
    clear hbp hbr hbr8 tw hG hO hR hOB hB
    go_wp2
    refine bodyPost_ret (v := .tuple #[.agg #[.bool false, .slice none 0 0, .bool false, .int .i64 0, .slice none 0 0], .bool false])
      (by simp [results, Tryz.results265, go_sem, z0, z1, z2, z3, z4]) rfl ⟨?_, .inr ⟨HG.out, rfl⟩⟩
    exact HT.out.trans ((put_chg (w.heap.size + 1) [.bool false, .slice none 0 0, .bool false, .int .i64 0, .slice none 0 0] _ 0).below fun g hg => by simp at hg; omega)
  · have hG := botS_yes hB
    have b8 := (Below.refl w5.heap.size w5).alloc (Nat.le_refl _) (.cells #[.bool r.choice, d1, .bool r.weight, .int .i64 r.bound, d4] 34)
    have hbp8 := (Below.heap_alloc w5 (.cells #[.bool r.choice, d1, .bool r.weight, .int .i64 r.bound, d4] 34) w.heap.size (by omega)).trans hbp
    have hbr8 := (Below.heap_alloc w5 (.cells #[.bool r.choice, d1, .bool r.weight, .int .i64 r.bound, d4] 34) (w.heap.size + 1) (by omega)).trans hbr
    have tw8 := tw.trans (b8.mono (by omega))
    have z8 : (w5.alloc (.cells #[.bool r.choice, d1, .bool r.weight, .int .i64 r.bound, d4] 34)).heap.size = w5.heap.size + 1 := World.size_alloc _ _
    have hO8 := Ow.kept hO (w' := w5.alloc (.cells #[.bool r.choice, d1, .bool r.weight, .int .i64 r.bound, d4] 34)) fun f hf => tw8.block f (Ow.lt hO f hf)
    have l8 : w5.heap.size < (w5.alloc (.cells #[.bool r.choice, d1, .bool r.weight, .int .i64 r.bound, d4] 34)).heap.size := by omega
    have hnf : ∀ f ∈ fp, f < w.heap.size := fun f hf => Ow.lt hO f hf
    obtain ⟨c0, c1, c2, c3, c4⟩ := cells5 (Cells.new w5 [.bool r.choice, d1, .bool r.weight, .int .i64 r.bound, d4] 34)
    obtain ⟨x0, x1, x2, x3, x4⟩ := cells5 (cellsAt hbp8)
    have hfx := fun j => frozen_of_row _ w.heap.size j _ _ hbp8
    obtain ⟨z0, z1, z2, z3, z4⟩ := cells5 (cellsAt hbr8)
    have hfz := fun j => frozen_of_row _ (w.heap.size + 1) j _ _ hbr8
    have HN := Lib.hid hnf
    have HO := Lib.hid hO8
    have HG := Lib.hid hG
    have HT := Lib.hid tw8
    clear hbp hbr hbp8 hbr8 tw tw8 hG hO hR hOB hB hO8 hnf b8
    go_wp2
    rw [rounds_succ]
    go_wp2
    refine bodyPost_ret (v := .tuple #[.agg #[.bool r.choice, d1, .bool r.weight, .int .i64 r.bound, d4], .bool true])
      (by simp [results, Tryz.results265, go_sem, z0, z1, z2, z3, z4]) rfl ⟨?_, .inl ⟨r, [.bool r.choice, d1, .bool r.weight, .int .i64 r.bound, d4], fp, HG.out, rfl, ?_, fun f hf => .inl hf⟩⟩
    · exact (HT.out.trans ((put_chg w.heap.size [.bool r.choice, d1, .bool r.weight, .int .i64 r.bound, d4] (w5.alloc (.cells #[.bool r.choice, d1, .bool r.weight, .int .i64 r.bound, d4] 34)) 0).below fun g hg => by simp at hg; omega)).trans ((put_chg (w.heap.size + 1) [.bool r.choice, d1, .bool r.weight, .int .i64 r.bound, d4] (put (w5.alloc (.cells #[.bool r.choice, d1, .bool r.weight, .int .i64 r.bound, d4] 34)) w.heap.size 0 [.bool r.choice, d1, .bool r.weight, .int .i64 r.bound, d4]) 0).below fun g hg => by simp at hg; omega)
    · exact Ow.kept HO.out (w' := put (put (w5.alloc (.cells #[.bool r.choice, d1, .bool r.weight, .int .i64 r.bound, d4] 34)) w.heap.size 0 [.bool r.choice, d1, .bool r.weight, .int .i64 r.bound, d4]) (w.heap.size + 1) 0 [.bool r.choice, d1, .bool r.weight, .int .i64 r.bound, d4]) fun f hf => ((put_chg (w.heap.size + 1) [.bool r.choice, d1, .bool r.weight, .int .i64 r.bound, d4] (put (w5.alloc (.cells #[.bool r.choice, d1, .bool r.weight, .int .i64 r.bound, d4] 34)) w.heap.size 0 [.bool r.choice, d1, .bool r.weight, .int .i64 r.bound, d4]) 0).block f (by have := HN.out f hf; simp; omega)).trans ((put_chg w.heap.size [.bool r.choice, d1, .bool r.weight, .int .i64 r.bound, d4] (w5.alloc (.cells #[.bool r.choice, d1, .bool r.weight, .int .i64 r.bound, d4] 34)) 0).block f (by have := HN.out f hf; simp; omega))

theorem own_part {q : ProgD} {rs : List RuleD} {w : World} {v : Value} {fp : List Nat} (hf : Fits q.atoms) (ho : OwL w [v] rs fp) :
    Ow.O w [.int .i64 q.atoms, v, .slice none 0 0, .bool false, .slice none 0 0, .slice none 0 0, .slice none 0 0, .slice none 0 0] (partD q rs) fp := by
  have hn : ∀ {β : Type} [Ow β], OwL (α := β) w [.slice none 0 0] [] [] := fun {β} _ => ⟨none, 0, rfl, Nat.le_refl _, by omega, .inl ⟨rfl, rfl, rfl⟩⟩
  exact ⟨_, _, _, _, _, _, fp, [], [], [], [], [], rfl, hf, ho, hn, hn, hn, hn, hn, by simp, Ow.nodup (α := List RuleD) ho⟩
set_option maxHeartbeats 8000000 in
theorem part_calls {lo m : Nat} {w00 w : World} {c1 c2 c4 c5 c6 c7 u : Value} {q : ProgD} {g : RuleD → Option RuleD} (o : Own lo w00 [.int .i64 q.atoms, c1, c2, .bool q.projOn, c4, c5, c6, c7] q) (h00 : Below w00.heap.size w00 w) (hn : q.rules.length ≤ 60)
    (HS : ∀ i, i < q.rules.length → ∀ fp w' ecs, Below w.heap.size w w' → Ow.O w' ecs (nth q.rules i) fp → Calls Tryz.prog 265 #[.agg ecs.toArray, u] w' (StepQ w' (nth q.rules i) fp g)) :
    Calls Tryz.prog 199 #[.agg #[.int .i64 q.atoms, c1, c2, .bool q.projOn, c4, c5, c6, c7, .int .u16 (m : Int)], u] w fun e w' => ∃ cs' fp, e = .returned (.agg (List.toArray cs')) ∧ Ow.O w' cs' (partD q (leftTo g q.rules q.rules.length)) fp ∧ (∀ f ∈ fp, (lo ≤ f ∧ f < w00.heap.size) ∨ w.heap.size ≤ f) ∧ Below w.heap.size w w' := by
  have hz00 := h00.size
  obtain ⟨a1, k1, gg, fps, fpR, rfl, ha, hnd, hfl, hel, -, -, hfa⟩ := own_rules o
  have tA := (Below.refl w.heap.size w).alloc (Nat.le_refl _) (.cells #[.int .i64 q.atoms, .slice a1 q.rules.length k1, c2, .bool q.projOn, c4, c5, c6, c7, .int .u16 (m : Int)] 145)
  have tB := tA.alloc tA.size (.cells #[.int .i64 0, .slice none 0 0, .slice none 0 0, .bool false, .slice none 0 0, .slice none 0 0, .slice none 0 0, .slice none 0 0] 30)
  have CS := (Cells.new w [.int .i64 q.atoms, .slice a1 q.rules.length k1, c2, .bool q.projOn, c4, c5, c6, c7, .int .u16 (m : Int)] 145).alloc (.cells #[.int .i64 0, .slice none 0 0, .slice none 0 0, .bool false, .slice none 0 0, .slice none 0 0, .slice none 0 0, .slice none 0 0] 30)
  have hz := alloc_block (w.alloc (.cells #[.int .i64 q.atoms, .slice a1 q.rules.length k1, c2, .bool q.projOn, c4, c5, c6, c7, .int .u16 (m : Int)] 145)) #[.int .i64 0, .slice none 0 0, .slice none 0 0, .bool false, .slice none 0 0, .slice none 0 0, .slice none 0 0, .slice none 0 0] 30
  rw [World.size_alloc] at hz
  have zB : ((w.alloc (.cells #[.int .i64 q.atoms, .slice a1 q.rules.length k1, c2, .bool q.projOn, c4, c5, c6, c7, .int .u16 (m : Int)] 145)).alloc (.cells #[.int .i64 0, .slice none 0 0, .slice none 0 0, .bool false, .slice none 0 0, .slice none 0 0, .slice none 0 0, .slice none 0 0] 30)).heap.size = w.heap.size + 2 := by simp
  clear tA o
  go_enter Tryz.func199, Tryz.ntmps199
  go_upto_region 1 with fail
  generalize hW : World.alloc (World.alloc w _) _ = W0 at *
  have tD := tB.drew
  have CS := CS.drew
  have hzd : W0.drew.heap[w.heap.size + 1]? = _ := hz
  have zD : W0.drew.heap.size = w.heap.size + 2 := zB
  have C2 : ∀ W : World, Cells W w.heap.size 0 [.int .i64 q.atoms, .slice a1 q.rules.length k1, c2, .bool q.projOn, c4, c5, c6, c7, .int .u16 (m : Int)] → W.cell? ⟨w.heap.size, 0, none⟩ = some (.int .i64 q.atoms) ∧ W.cell? ⟨w.heap.size, 1, none⟩ = some (.slice a1 q.rules.length k1) := fun W h => ⟨h 0 _ rfl, by simpa using h 1 _ rfl⟩
  clear hz zB tB hW
  refine wp_region_held_drew (S := fun W' => W'.cell? ⟨w.heap.size, 0, none⟩ = some (.int .i64 q.atoms) ∧ W'.cell? ⟨w.heap.size, 1, none⟩ = some (.slice a1 q.rules.length k1)) (by kernel_rfl) (C2 _ CS) (fun hHeld => ?_)
  generalize W0.drew = W at *
  have helW : ∀ i, i < q.rules.length → ∃ ecs, Cells W gg (i * 5) ecs ∧ Ow.O W ecs (nth q.rules i) (fps.getD i []) := fun i hi => by
    obtain ⟨ecs, hC, hO⟩ := hel i hi
    have hgl : gg < w00.heap.size := by
      obtain ⟨e0, e1, e2, e3, e4, he5⟩ := list5 (Rd.len (Ow.rd hO))
      rw [he5] at hC
      exact hC.lt
    have hk : ∀ f, f < w00.heap.size → W.heap[f]? = w00.heap[f]? := fun f hf => (tD.block f (by omega)).trans (h00.block f hf)
    exact ⟨ecs, hC.kept (hk gg hgl), Ow.kept hO fun f hf => hk f (Ow.lt hO f hf)⟩
  have HSW : ∀ i, i < q.rules.length → ∀ w' ecs, Below W.heap.size W w' → Ow.O w' ecs (nth q.rules i) (fps.getD i []) → Calls Tryz.prog 265 #[.agg ecs.toArray, u] w' (StepQ w' (nth q.rules i) (fps.getD i []) g) :=
    fun i hi w' ecs hb' hO' => HS i hi _ w' ecs (tD.step hb') hO'
  refine takeD (i := 0) (v := .pointer (some ⟨w.heap.size, 0, none⟩)) (some 5) rfl rfl (by kernel_rfl) (by kernel_rfl) (by kernel_rfl) (fun _ _ _ h => h) (Or.inl ⟨by rfl, fun w' hw' => ?_⟩) hHeld ?_
  · first | (go_simp; done) | (obtain ⟨s0, s1⟩ := hw'; go_simp; done)
  try simp only [Act.put, List.setIfInBounds_toArray, List.set_cons_zero, List.set_cons_succ]
  refine takeD (i := 1) (v := .pointer (some ⟨w.heap.size, 0, none⟩)) (some 6) rfl rfl (by kernel_rfl) (by kernel_rfl) (by kernel_rfl) (fun _ _ _ h => h) (Or.inl ⟨by rfl, fun w' hw' => ?_⟩) hHeld ?_
  · first | (go_simp; done) | (obtain ⟨s0, s1⟩ := hw'; go_simp; done)
  try simp only [Act.put, List.setIfInBounds_toArray, List.set_cons_zero, List.set_cons_succ]
  refine takeD (i := 2) (v := .int .i64 q.atoms) (some 7) rfl rfl (by kernel_rfl) (by kernel_rfl) (by kernel_rfl) (fun _ _ _ h => h) (Or.inl ⟨by rfl, fun w' hw' => ?_⟩) hHeld ?_
  · first | (go_simp; done) | (obtain ⟨s0, s1⟩ := hw'; go_simp; done)
  try simp only [Act.put, List.setIfInBounds_toArray, List.set_cons_zero, List.set_cons_succ]
  refine takeD (i := 3) (v := .pointer (some ⟨w.heap.size, 0, none⟩)) (some 8) rfl rfl (by kernel_rfl) (by kernel_rfl) (by kernel_rfl) (fun _ _ _ h => h) (Or.inl ⟨by rfl, fun w' hw' => ?_⟩) hHeld ?_
  · first | (go_simp; done) | (obtain ⟨s0, s1⟩ := hw'; go_simp; done)
  try simp only [Act.put, List.setIfInBounds_toArray, List.set_cons_zero, List.set_cons_succ]
  refine takeD (i := 4) (v := .pointer (some ⟨w.heap.size, 1, none⟩)) (some 9) rfl rfl (by kernel_rfl) (by kernel_rfl) (by kernel_rfl) (fun _ _ _ h => h) (Or.inl ⟨by rfl, fun w' hw' => ?_⟩) hHeld ?_
  · first | (go_simp; done) | (obtain ⟨s0, s1⟩ := hw'; go_simp; done)
  try simp only [Act.put, List.setIfInBounds_toArray, List.set_cons_zero, List.set_cons_succ]
  refine takeD (i := 5) (v := .slice a1 q.rules.length k1) (some 10) rfl rfl (by kernel_rfl) (by kernel_rfl) (by kernel_rfl) (fun _ _ _ h => h) (Or.inl ⟨by rfl, fun w' hw' => ?_⟩) hHeld ?_
  · first | (go_simp; done) | (obtain ⟨s0, s1⟩ := hw'; go_simp; done)
  try simp only [Act.put, List.setIfInBounds_toArray, List.set_cons_zero, List.set_cons_succ]
  refine takeD (i := 6) (v := u) (some 11) rfl rfl (by kernel_rfl) (by kernel_rfl) (by kernel_rfl) (fun _ _ _ h => h) (Or.inl ⟨by rfl, fun w' hw' => ?_⟩) hHeld ?_
  · first | (go_simp; done) | (obtain ⟨s0, s1⟩ := hw'; go_simp; done)
  try simp only [Act.put, List.setIfInBounds_toArray, List.set_cons_zero, List.set_cons_succ]
  refine wpAnyH_ready (rs := [7]) (by kernel_rfl) (by simp) ?_
  refine AllReadyH.cons rfl (fun K hK => ?_) AllReadyH.nil
  go_simp
  refine (leftOf_calls ha hnd (fun f hf => by have := (hfl f hf).2; omega) helW hn HSW).mono ?_
  rintro e w5 ⟨v, rfl, ho, b5⟩
  have hs5 := b5.size
  have CS5 := CS.later b5
  have hz5 := (b5.block (w.heap.size + 1) (by omega)).trans hzd
  obtain ⟨z0, z1, z2, z3, z4, z5, z6, z7⟩ := cells8 (cellsAt hz5)
  have hfz := fun j => frozen_of_row _ (w.heap.size + 1) j _ _ hz5
  have t5 := tD.step b5
  obtain ⟨av, nv, rfl⟩ := ho.form
  obtain ⟨nT, hnT⟩ : ∃ nT : Nat, nT = (leftTo g q.rules q.rules.length).length := ⟨_, rfl⟩
  obtain ⟨fpv, hov, hdv⟩ := ho.own
  rw [← hnT] at hov ⊢
  clear ho hnT
  refine hK.out _ _ (C2 _ CS5) (fun hHeld => ?_)
  clear hK K
  try simp only [Act.put, List.setIfInBounds_toArray, List.set_cons_zero, List.set_cons_succ]
  refine takeD (i := 8) (v := .agg #[.int .i64 q.atoms, .slice av nT nv, .slice none 0 0, .bool false, .slice none 0 0, .slice none 0 0, .slice none 0 0, .slice none 0 0]) (some 13) rfl rfl (by kernel_rfl) (by kernel_rfl) (by kernel_rfl) (fun _ _ _ h => h) (Or.inl ⟨by rfl, fun w' hw' => ?_⟩) hHeld ?_
  · first | (go_simp; done) | (obtain ⟨s0, s1⟩ := hw'; go_simp; done)
  try simp only [Act.put, List.setIfInBounds_toArray, List.set_cons_zero, List.set_cons_succ]
  refine wpAnyH_ready (rs := [9]) (by kernel_rfl) (by simp) ?_
  refine AllReadyH.cons rfl (fun K hK => ?_) AllReadyH.nil
  go_simp
  refine hK.out _ _ (C2 _ (cells_putS (g := w.heap.size + 1) (vs := [.int .i64 q.atoms, .slice av nT nv, .slice none 0 0, .bool false, .slice none 0 0, .slice none 0 0, .slice none 0 0, .slice none 0 0]) CS5 (by omega))) (fun hHeld => ?_)
  clear hK K
  try simp only [Act.put, List.setIfInBounds_toArray, List.set_cons_zero, List.set_cons_succ]
  refine wpAnyH_done (by kernel_rfl) ?_ _
  go_wp2
  have hc := put_chg (w.heap.size + 1) [.int .i64 q.atoms, .slice av nT nv, .slice none 0 0, .bool false, .slice none 0 0, .slice none 0 0, .slice none 0 0, .slice none 0 0] w5 0
  have hlv : ∀ f ∈ fpv, ((lo ≤ f ∧ f < w00.heap.size) ∨ w.heap.size ≤ f) ∧ f ≠ w.heap.size + 1 := fun f hf => by
    rcases hdv f hf with h | h
    · have := hfl f (take_in h); omega
    · omega
  refine bodyPost_ret (v := .agg #[.int .i64 q.atoms, .slice av nT nv, .slice none 0 0, .bool false, .slice none 0 0, .slice none 0 0, .slice none 0 0, .slice none 0 0])
    (by simp [results, Tryz.results199, go_sem, z0, z1, z2, z3, z4, z5, z6, z7]) rfl ⟨_, fpv, rfl, own_part (w := put w5 (w.heap.size + 1) 0 [.int .i64 q.atoms, .slice av nT nv, .slice none 0 0, .bool false, .slice none 0 0, .slice none 0 0, .slice none 0 0, .slice none 0 0]) hfa (Ow.kept (α := List RuleD) hov fun f hf => hc.block f (by have := (hlv f hf).2; simp; omega)), fun f hf => (hlv f hf).1, ?_⟩
  exact t5.trans (hc.below fun f hf => by simp at hf; omega)
set_option maxHeartbeats 8000000 in
theorem bottom_calls {lo : Nat} {us : List Int} {w : World} {c1 c2 c4 c5 c6 c7 : Value} {q : ProgD} (o : Own lo w [.int .i64 q.atoms, c1, c2, .bool q.projOn, c4, c5, c6, c7] q) (hlo : lo ≤ w.heap.size) (hok : progOkB q = true) :
    Calls Tryz.prog 112 #[.agg #[.int .i64 q.atoms, c1, c2, .bool q.projOn, c4, c5, c6, c7, .int .u16 (maskOf us : Int)]] w fun e w' => ∃ cs', e = .returned (.agg cs'.toArray) ∧ Own lo w' cs' (partD q (leftTo (botS us) q.rules q.rules.length)) ∧ Below w.heap.size w w' := by
  have nr := (progOk_rules hok).1
  have HF := Lib.hid (fun r hr => fits_ruleOk (rules12 hok r hr))
  have tA := (Below.refl w.heap.size w).alloc (Nat.le_refl _) (.cells #[.int .i64 q.atoms, c1, c2, .bool q.projOn, c4, c5, c6, c7, .int .u16 (maskOf us : Int)] 145)
  have tB := tA.alloc tA.size (.cells #[.int .i64 0, .slice none 0 0, .slice none 0 0, .bool false, .slice none 0 0, .slice none 0 0, .slice none 0 0, .slice none 0 0] 30)
  have CS := (Cells.new w [.int .i64 q.atoms, c1, c2, .bool q.projOn, c4, c5, c6, c7, .int .u16 (maskOf us : Int)] 145).alloc (.cells #[.int .i64 0, .slice none 0 0, .slice none 0 0, .bool false, .slice none 0 0, .slice none 0 0, .slice none 0 0, .slice none 0 0] 30)
  have hz := alloc_block (w.alloc (.cells #[.int .i64 q.atoms, c1, c2, .bool q.projOn, c4, c5, c6, c7, .int .u16 (maskOf us : Int)] 145)) #[.int .i64 0, .slice none 0 0, .slice none 0 0, .bool false, .slice none 0 0, .slice none 0 0, .slice none 0 0, .slice none 0 0] 30
  rw [World.size_alloc] at hz
  have zB : ((w.alloc (.cells #[.int .i64 q.atoms, c1, c2, .bool q.projOn, c4, c5, c6, c7, .int .u16 (maskOf us : Int)] 145)).alloc (.cells #[.int .i64 0, .slice none 0 0, .slice none 0 0, .bool false, .slice none 0 0, .slice none 0 0, .slice none 0 0, .slice none 0 0] 30)).heap.size = w.heap.size + 2 := by simp
  obtain ⟨y0, y1, y2, y3, y4, y5, y6, y7, y8⟩ := cells9S CS
  have hmf : ∀ (fn : Fn) (first cap : Array Value) (w : World), (Instr.makeFunc fn first cap).run Tryz.prog w = .ok (.func fn first cap) w := fun _ _ _ _ => rfl
  go_enter Tryz.func112, Tryz.ntmps112
  go_wp2_with fail
  generalize hW0 : World.alloc (World.alloc w _) _ = W0 at *
  have tF := (Below.refl W0.heap.size W0).alloc (Nat.le_refl _) (.cells #[.func (.func 200) #[.agg #[.int .i64 q.atoms, c1, c2, .bool q.projOn, c4, c5, c6, c7, .int .u16 (maskOf us : Int)]] #[]] 229)
  have hs := (Cells.new W0 [.func (.func 200) #[.agg #[.int .i64 q.atoms, c1, c2, .bool q.projOn, c4, c5, c6, c7, .int .u16 (maskOf us : Int)]] #[]] 229).c0
  have zF : (W0.alloc (.cells #[.func (.func 200) #[.agg #[.int .i64 q.atoms, c1, c2, .bool q.projOn, c4, c5, c6, c7, .int .u16 (maskOf us : Int)]] #[]] 229)).heap.size = w.heap.size + 3 := by rw [World.size_alloc, zB]
  rw [zB] at hs
  have HS : ∀ i, i < q.rules.length → ∀ fp w' ecs, Below (W0.alloc (.cells #[.func (.func 200) #[.agg #[.int .i64 q.atoms, c1, c2, .bool q.projOn, c4, c5, c6, c7, .int .u16 (maskOf us : Int)]] #[]] 229)).heap.size (W0.alloc (.cells #[.func (.func 200) #[.agg #[.int .i64 q.atoms, c1, c2, .bool q.projOn, c4, c5, c6, c7, .int .u16 (maskOf us : Int)]] #[]] 229)) w' → Ow.O w' ecs (nth q.rules i) fp → Calls Tryz.prog 265 #[.agg ecs.toArray, .slice (some ⟨w.heap.size + 2, 0, none⟩) 1 1] w' (StepQ w' (nth q.rules i) fp (botS us)) :=
    fun i hi fp w' ecs hb' hO' => afterBot_calls hO' (HF.out _ (nth_mem hi)) (cell_kept hb' hs)
  have hz2 := (tF.block (w.heap.size + 1) (by omega)).trans hz
  have tw := tB.step tF
  clear tF hs
  refine (part_calls o tw nr HS).mono ?_
  rintro e w5 ⟨cs5, fp5, rfl, o5, hf5, b5⟩
  obtain ⟨v0, v1, v2, v3, v4, v5, v6, v7, rfl⟩ := list8 (Rd.len (Ow.rd o5))
  have l5 := Rd.one (Ow.rd o5)
  have sv0 := sto Tryz.prog (l5 v0 (by simp))
  have sv1 := sto Tryz.prog (l5 v1 (by simp))
  have sv2 := sto Tryz.prog (l5 v2 (by simp))
  have sv3 := sto Tryz.prog (l5 v3 (by simp))
  have sv4 := sto Tryz.prog (l5 v4 (by simp))
  have sv5 := sto Tryz.prog (l5 v5 (by simp))
  have sv6 := sto Tryz.prog (l5 v6 (by simp))
  have sv7 := sto Tryz.prog (l5 v7 (by simp))
  have hz5 := (b5.block (w.heap.size + 1) (by omega)).trans hz2
  have t5 := tw.step b5
  obtain ⟨z0, z1, z2, z3, z4, z5, z6, z7⟩ := cells8 (cellsAt hz5)
  have hfz := fun j => frozen_of_row _ (w.heap.size + 1) j _ _ hz5
  have O5 := Lib.hid o5
  have T5 := Lib.hid t5
  have F5 := Lib.hid hf5
  clear o5 t5 b5 tw hz5 hz2 hz HS o l5 y0 y1 y2 y3 y4 y5 y6 y7 y8 CS tB hf5
  go_wp2
  refine bodyPost_ret (v := .agg #[v0, v1, v2, v3, v4, v5, v6, v7])
    (by simp [results, Tryz.results112, go_sem, z0, z1, z2, z3, z4, z5, z6, z7]) rfl ⟨_, rfl, ⟨fp5, Ow.kept (w' := put w5 (w.heap.size + 1) 0 [v0, v1, v2, v3, v4, v5, v6, v7]) O5.out fun f hf => (put_chg (w.heap.size + 1) [v0, v1, v2, v3, v4, v5, v6, v7] w5 0).block f ?_, fun f hf => ?_⟩, ?_⟩
  · have := F5.out f hf; simp; omega
  · have := F5.out f hf; omega
  · exact T5.out.trans ((put_chg (w.heap.size + 1) [v0, v1, v2, v3, v4, v5, v6, v7] w5 0).below fun f hf => by simp at hf; omega)
set_option maxHeartbeats 8000000 in
theorem implBottom_calls {cs : List Value} {p : ProgD} {w : World} {v : Value} {us : List Int} (h : Rd.R w cs p) (gx : RdL w [v] us) :
    Calls Tryz.prog 32 #[.agg cs.toArray, v] w fun e w' => ∃ cs', e = .returned (.agg cs'.toArray) ∧ Own w.heap.size w' cs' (botD p us) ∧ Below w.heap.size w w' := by
  obtain ⟨p0, p1, p2, p3, p4, p5, p6, p7, rfl⟩ := list8 (Rd.len h)
  have t0 : Below w.heap.size w ((w.alloc (.cells #[p0, p1, p2, p3, p4, p5, p6, p7] 30)).alloc (.cells #[.int .i64 0, .slice none 0 0, .slice none 0 0, .bool false, .slice none 0 0, .slice none 0 0, .slice none 0 0, .slice none 0 0] 30)) := ((Below.refl _ _).alloc (by simp) _).alloc (by simp) _
  have hb0 := alloc_block (w.alloc (.cells #[p0, p1, p2, p3, p4, p5, p6, p7] 30)) #[.int .i64 0, .slice none 0 0, .slice none 0 0, .bool false, .slice none 0 0, .slice none 0 0, .slice none 0 0, .slice none 0 0] 30
  rw [World.size_alloc] at hb0
  have hzs : ((w.alloc (.cells #[p0, p1, p2, p3, p4, p5, p6, p7] 30)).alloc (.cells #[.int .i64 0, .slice none 0 0, .slice none 0 0, .bool false, .slice none 0 0, .slice none 0 0, .slice none 0 0, .slice none 0 0] 30)).heap.size = w.heap.size + 2 := by simp
  cases hA : atB p us
  · go_enter Tryz.func32, Tryz.ntmps32
    go_wp2_with fail
    have HC := Lib.hid (botD_no (splB_at hA))
    refine (splitBy_no (Rd.mono t0 h) (Rd.mono (α := List Int) t0 gx) hA).mono ?_
    rintro e w1 ⟨rfl, b1⟩
    have hb1 := (b1.block (w.heap.size + 1) (by omega)).trans hb0
    have hz1 := b1.size
    have hb2 := (Below.heap_alloc w1 (.cells #[.int .i64 0, .slice none 0 0, .slice none 0 0, .bool false, .slice none 0 0, .slice none 0 0, .slice none 0 0, .slice none 0 0, .int .u16 0] 145) (w.heap.size + 1) (by omega)).trans hb1
    obtain ⟨z0, z1, z2, z3, z4, z5, z6, z7⟩ := cells8 (cellsAt hb2)
    have hfz := fun j => frozen_of_row _ (w.heap.size + 1) j _ _ hb2
    have t1 := (t0.step b1).alloc (t0.step b1).size (.cells #[.int .i64 0, .slice none 0 0, .slice none 0 0, .bool false, .slice none 0 0, .slice none 0 0, .slice none 0 0, .slice none 0 0, .int .u16 0] 145)
    clear hb0 hb1 b1 hA
    go_wp2
    exact bodyPost_ret (v := .agg #[.int .i64 0, .slice none 0 0, .slice none 0 0, .bool false, .slice none 0 0, .slice none 0 0, .slice none 0 0, .slice none 0 0])
      (by simp [results, Tryz.results32, go_sem, z0, z1, z2, z3, z4, z5, z6, z7]) rfl ⟨_, rfl, by rw [HC.out]; exact own_zero _ _, by
      repeat (refine Below.setCell ?_ (by simp; try omega) _)
      exact t1⟩
  · go_enter Tryz.func32, Tryz.ntmps32
    go_wp2_with fail
    refine (splitBy_yes (Rd.mono t0 h) (Rd.mono (α := List Int) t0 gx) hA).mono ?_
    rintro e w1 ⟨x0, x1, x2, x3, x4, x5, x6, x7, rfl, o1, b1⟩
    rw [hzs] at o1
    have hz1 : w.heap.size + 2 ≤ w1.heap.size := by have := b1.size; omega
    have hb1 := (b1.block (w.heap.size + 1) (by omega)).trans hb0
    have l1 := Rd.one o1.rd
    have st0 := sto Tryz.prog (l1 x0 (by simp))
    have st1 := sto Tryz.prog (l1 x1 (by simp))
    have st2 := sto Tryz.prog (l1 x2 (by simp))
    have st3 := sto Tryz.prog (l1 x3 (by simp))
    have st4 := sto Tryz.prog (l1 x4 (by simp))
    have st5 := sto Tryz.prog (l1 x5 (by simp))
    have st6 := sto Tryz.prog (l1 x6 (by simp))
    have st7 := sto Tryz.prog (l1 x7 (by simp))
    have tS := (Below.refl w1.heap.size w1).alloc (Nat.le_refl _) (.cells #[x0, x1, x2, x3, x4, x5, x6, x7, .int .u16 (maskOf us : Int)] 145)
    have t2 := (t0.step b1).step tS
    have hb2 := (tS.block (w.heap.size + 1) (by omega)).trans hb1
    have CS := Cells.new w1 [x0, x1, x2, x3, x4, x5, x6, x7, .int .u16 (maskOf us : Int)] 145
    have o2 := o1.later tS
    have zS : (w1.alloc (.cells #[x0, x1, x2, x3, x4, x5, x6, x7, .int .u16 (maskOf us : Int)] 145)).heap.size = w1.heap.size + 1 := World.size_alloc _ _
    clear hb0 hb1 b1 l1 t0 tS
    obtain ⟨y0, y1, y2, y3, y4, y5, y6, y7, y8⟩ := cells9S CS
    cases hS : splB p us
    · have HC := Lib.hid (botD_no hS)
      obtain ⟨z0, z1, z2, z3, z4, z5, z6, z7⟩ := cells8 (cellsAt hb2)
      have hfz := fun j => frozen_of_row _ (w.heap.size + 1) j _ _ hb2
      clear hA o1 o2 hb2 hS CS y0 y1 y2 y3 y4 y5 y6 y7 y8
      go_wp2
      exact bodyPost_ret (v := .agg #[.int .i64 0, .slice none 0 0, .slice none 0 0, .bool false, .slice none 0 0, .slice none 0 0, .slice none 0 0, .slice none 0 0])
        (by simp [results, Tryz.results32, go_sem, z0, z1, z2, z3, z4, z5, z6, z7]) rfl ⟨_, rfl, by rw [HC.out]; exact own_zero _ _, by
        repeat (refine Below.setCell ?_ (by simp; try omega) _)
        exact t2⟩
    · have HC := Lib.hid (botD_yes hS)
      have hok : progOkB (foldD p) = true := foldR_ok (splB_fold hS)
      obtain ⟨q, hq⟩ : ∃ q, q = foldD p := ⟨_, rfl⟩
      rw [← hq] at HC hok o2
      clear hq
      obtain ⟨d1, d2, d4, d5, d6, d7, he, -⟩ := o2.rd
      simp only [List.cons.injEq, and_true] at he
      obtain ⟨rfl, rfl, rfl, rfl, rfl, rfl, rfl, rfl⟩ := he
      go_wp2_with fail
      refine (bottom_calls o2 (by omega) hok).mono ?_
      rintro e w5 ⟨cs5, rfl, o5, b5⟩
      obtain ⟨v0, v1, v2, v3, v4, v5, v6, v7, rfl⟩ := list8 (Rd.len o5.rd)
      have l5 := Rd.one o5.rd
      have sv0 := sto Tryz.prog (l5 v0 (by simp))
      have sv1 := sto Tryz.prog (l5 v1 (by simp))
      have sv2 := sto Tryz.prog (l5 v2 (by simp))
      have sv3 := sto Tryz.prog (l5 v3 (by simp))
      have sv4 := sto Tryz.prog (l5 v4 (by simp))
      have sv5 := sto Tryz.prog (l5 v5 (by simp))
      have sv6 := sto Tryz.prog (l5 v6 (by simp))
      have sv7 := sto Tryz.prog (l5 v7 (by simp))
      have hz5 := (b5.block (w.heap.size + 1) (by omega)).trans hb2
      obtain ⟨z0, z1, z2, z3, z4, z5, z6, z7⟩ := cells8 (cellsAt hz5)
      have hfz := fun j => frozen_of_row _ (w.heap.size + 1) j _ _ hz5
      have O5 := Lib.hid o5
      have T5 := Lib.hid (t2.step b5)
      clear o5 b5 hz5 hb2 o1 o2 l5 y0 y1 y2 y3 y4 y5 y6 y7 y8 CS t2 hA hS
      go_wp2
      refine bodyPost_ret (v := .agg #[v0, v1, v2, v3, v4, v5, v6, v7])
        (by simp [results, Tryz.results32, go_sem, z0, z1, z2, z3, z4, z5, z6, z7]) rfl ⟨_, rfl, ?_, ?_⟩
      · rw [HC.out]
        obtain ⟨fp, hO, hl⟩ := O5.out
        exact ⟨fp, Ow.kept (w' := put w5 (w.heap.size + 1) 0 [v0, v1, v2, v3, v4, v5, v6, v7]) hO fun f hf => (put_chg (w.heap.size + 1) [v0, v1, v2, v3, v4, v5, v6, v7] w5 0).block f (by have := hl f hf; simp; omega), fun f hf => by have := hl f hf; omega⟩
      · exact T5.out.trans ((put_chg (w.heap.size + 1) [v0, v1, v2, v3, v4, v5, v6, v7] w5 0).below fun f hf => by simp at hf; omega)

/-! ### BotS -/

theorem own_partS {q : ProgD} {rs : List RuleD} {lo : Nat} {w : World} {v : Value} (hf : Fits q.atoms) (h : ∃ fp, OwL w [v] rs fp ∧ ∀ g ∈ fp, lo ≤ g) :
    Own lo w [.int .i64 q.atoms, v, .slice none 0 0, .bool false, .slice none 0 0, .slice none 0 0, .slice none 0 0, .slice none 0 0] (partD q rs) := by
  obtain ⟨fp, ho, hl⟩ := h
  have hn : ∀ {β : Type} [Ow β], OwL (α := β) w [.slice none 0 0] [] [] := fun {β} _ => ⟨none, 0, rfl, Nat.le_refl _, by omega, .inl ⟨rfl, rfl, rfl⟩⟩
  exact ⟨fp, ⟨_, _, _, _, _, _, fp, [], [], [], [], [], rfl, hf, ho, hn, hn, hn, hn, hn, by simp, Ow.nodup (α := List RuleD) ho⟩, hl⟩
theorem cellsAtB {W : World} {b : Nat} {cs : List Value} {t : TypeId} (h : W.heap[b]? = some (.cells cs.toArray t (0, 0))) : Cells W b 0 cs := fun j v hv => by
  rw [Nat.zero_add, cell_of_row W b j _ _ _ h]; simpa using hv
/-- A program whose rules are put together: its box at B. -/
structure PS (B : Nat) (fps : List (List Nat)) (n : Int) (wa wr : World) (k : Nat) (xs : List RuleD) (v : Value) : Prop where
  box : wr.heap[B]? = some (.cells #[.int .i64 n, v, .slice none 0 0, .bool false, .slice none 0 0, .slice none 0 0, .slice none 0 0, .slice none 0 0] 30 (0, 0))
  row : OwnD (B + 1) (DC fps (B + 1) k) 34 wr v xs
  bel : Below B wa wr
  lt : B < wr.heap.size
theorem PS.mem {B : Nat} {fps : List (List Nat)} {n : Int} {wa wr w5 : World} {k : Nat} {xs : List RuleD} {v : Value} (h : PS B fps n wa wr k xs v) (hb : Below wr.heap.size wr w5) : PS B fps n wa w5 k xs v :=
  ⟨(hb.block B h.lt).trans h.box, h.row.later hb, h.bel.trans (hb.mono (by have := h.lt; omega)), Nat.lt_of_lt_of_le h.lt hb.size⟩
theorem PS.up {B : Nat} {fps : List (List Nat)} {n : Int} {wa wr : World} {k : Nat} {xs : List RuleD} {v : Value} (h : PS B fps n wa wr k xs v) : PS B fps n wa wr (k + 1) xs v :=
  ⟨h.box, h.row.weak (Nat.le_refl _) fun _ hf => hf.up, h.bel, h.lt⟩
/-- One rule more. -/
theorem PS.push {B g c : Nat} {fps : List (List Nat)} {n : Int} {wa wr w5 : World} {k : Nat} {xs : List RuleD} {v : Value} {y : RuleD} {ecs : List Value} {fp : List Nat} {ty : TypeId}
    (i : TypeInfo) (z : Value) (hin : Tryz.prog.info? 34 = some i) (hz : i.zero = some z) (hsize : i.size = Rd.k RuleD) (hby : i.bytes = 72) (hzs : z.cells.size = Rd.k RuleD)
    (h : PS B fps n wa wr k xs v) (hb : Below wr.heap.size wr w5) (hn : fps.flatten.Nodup) (hl : ∀ f ∈ fps.flatten, f < B)
    (hc : Cells w5 g 0 ecs) (ho : Ow.O w5 ecs y fp) (hfp : ∀ f ∈ fp, f ∈ fps.getD k [] ∨ wr.heap.size ≤ f) (hx : xs.length ≤ 1000) :
    ∃ a q w6, (Builtin.append_ #[24, 24] ty #[v, .slice (some ⟨g, 0, none⟩) 1 c]).run Tryz.prog w5 = .ok (.slice a (xs.length + 1) q) w6 ∧ w6.heap[B]? = some (.cells #[.int .i64 n, v, .slice none 0 0, .bool false, .slice none 0 0, .slice none 0 0, .slice none 0 0, .slice none 0 0] 30 (0, 0)) ∧
      PS B fps n wa (w6.setCell ⟨B, 1, none⟩ (.slice a (xs.length + 1) q)) (k + 1) (xs ++ [y]) (.slice a (xs.length + 1) q) ∧ Below (B + 1) w5 w6 := by
  have hs := hb.size
  have hlt := h.lt
  obtain ⟨a, q, w6, r, o, b⟩ := cut_app (c := c) (ty := ty) i z hin hz hsize hby hzs h.row (by omega) hb hn (fun f hf => by have := hl f hf; omega) hc ho hfp hx
  have hbx := (b.block B (by omega)).trans ((hb.block B hlt).trans h.box)
  refine ⟨a, q, w6, r, hbx, ⟨by rw [heap_setCell_same w6 B 1 _ _ (.slice a (xs.length + 1) q) hbx]; rfl, o.far (p := ⟨B, 1, none⟩) (fun hd => ?_) _, Below.setCell ((h.bel.trans (hb.mono (by omega))).trans (b.mono (by omega))) (p := ⟨B, 1, none⟩) (Nat.le_refl _) _, ?_⟩, b⟩
  · rcases hd with hd | hd
    · have := hl _ (take_in hd); exact absurd this (Nat.lt_irrefl _)
    · exact absurd hd (by show ¬ B + 1 ≤ B; omega)
  · have := b.size
    simp [World.setCell]
    omega
theorem leftTo_end (g : RuleD → Option RuleD) (rs : List RuleD) {k : Nat} (h : k = rs.length) : leftTo g rs k = leftTo g rs rs.length := by rw [h]
set_option maxHeartbeats 8000000 in
theorem specBottom_calls {cs : List Value} {p : ProgD} {w : World} {v : Value} {us : List Int} (h : Rd.R w cs p) (gx : RdL w [v] us) :
    Calls Tryz.prog 29 #[.agg cs.toArray, v] w fun e w' => ∃ cs', e = .returned (.agg cs'.toArray) ∧ Own w.heap.size w' cs' (botD p us) ∧ Below w.heap.size w w' := by
  obtain ⟨i3, hi3, hz30, hz31, hz32⟩ := info_parts info_copiesRule
  obtain ⟨p0, p1, p2, p3, p4, p5, p6, p7, rfl⟩ := list8 (Rd.len h)
  obtain ⟨ax, cx, rfl, _, hx⟩ := gx.sl
  have t0 : Below w.heap.size w ((w.alloc (.cells #[p0, p1, p2, p3, p4, p5, p6, p7] 30)).alloc (.cells #[.int .i64 0, .slice none 0 0, .slice none 0 0, .bool false, .slice none 0 0, .slice none 0 0, .slice none 0 0, .slice none 0 0] 30)) := ((Below.refl _ _).alloc (by simp) _).alloc (by simp) _
  have CP := (Cells.new w [p0, p1, p2, p3, p4, p5, p6, p7] 30).alloc (.cells #[.int .i64 0, .slice none 0 0, .slice none 0 0, .bool false, .slice none 0 0, .slice none 0 0, .slice none 0 0, .slice none 0 0] 30)
  have hb0 := alloc_block (w.alloc (.cells #[p0, p1, p2, p3, p4, p5, p6, p7] 30)) #[.int .i64 0, .slice none 0 0, .slice none 0 0, .bool false, .slice none 0 0, .slice none 0 0, .slice none 0 0, .slice none 0 0] 30
  rw [World.size_alloc] at hb0
  have hzs : ((w.alloc (.cells #[p0, p1, p2, p3, p4, p5, p6, p7] 30)).alloc (.cells #[.int .i64 0, .slice none 0 0, .slice none 0 0, .bool false, .slice none 0 0, .slice none 0 0, .slice none 0 0, .slice none 0 0] 30)).heap.size = w.heap.size + 2 := by simp
  go_enter Tryz.func29, Tryz.ntmps29
  go_wp2_with fail
  refine (specIsSplit_calls (Rd.mono t0 h) (Rd.mono (α := List Int) t0 gx)).mono ?_
  rintro e w0 ⟨rfl, b0⟩
  have hbr0 := (b0.block (w.heap.size + 1) (by rw [hzs]; omega)).trans hb0
  have hz0 : w.heap.size + 2 ≤ w0.heap.size := by have := b0.size; omega
  have t0' := t0.step b0
  have CP0 := CP.later b0
  cases hP : splB p us
  · skip
    have HC := Lib.hid (botD_no hP)
    obtain ⟨z0, z1, z2, z3, z4, z5, z6, z7⟩ := cells8 (cellsAtB hbr0)
    have hfz := fun j => frozen_of_row _ (w.heap.size + 1) j _ _ hbr0
    clear hb0 b0 hP CP CP0
    go_wp2
    exact bodyPost_ret (v := .agg #[.int .i64 0, .slice none 0 0, .slice none 0 0, .bool false, .slice none 0 0, .slice none 0 0, .slice none 0 0, .slice none 0 0])
      (by simp [results, Tryz.results29, go_sem, z0, z1, z2, z3, z4, z5, z6, z7]) rfl ⟨_, rfl, by rw [HC.out]; exact own_zero _ _, by
      repeat (refine Below.setCell ?_ (by simp; try omega) _)
      exact t0'⟩
  · skip
    have HC := Lib.hid (botD_yes hP)
    have hFd := splB_fold hP
    have hok : progOkB (foldD p) = true := foldR_ok hFd
    have hr12 := Lib.hid (rules12 hok)
    have nr := (progOk_rules hok).1
    clear hP hok
    obtain ⟨y0, y1, y2, y3, y4, y5, y6, y7⟩ := cells8 CP0
    go_wp2_with fail
    refine (specFold_calls (Rd.mono t0' h)).mono ?_
    rintro e w1 ⟨cs1, he, o1, b1⟩
    rw [hFd] at he
    rw [foldR_yes hFd] at o1
    subst he
    obtain ⟨q, hq⟩ : ∃ q, q = foldD p := ⟨_, rfl⟩
    rw [← hq] at o1 HC hr12 nr
    clear hq hFd
    have hz1 := b1.size
    have hbr1 := (b1.block (w.heap.size + 1) (by omega)).trans hbr0
    have oR := o1.rd
    obtain ⟨c1, c2, c4, c5, c6, c7, rfl, -, g1, g2, g4, g5, g6, g7⟩ := oR
    have st1 := sto Tryz.prog g1.one1
    have st2 := sto Tryz.prog g2.one1
    have st4 := sto Tryz.prog g4.one1
    have st5 := sto Tryz.prog g5.one1
    have st6 := sto Tryz.prog g6.one1
    have st7 := sto Tryz.prog g7.one1
    clear g1 g2 g4 g5 g6 g7 y0 y1 y2 y3 y4 y5 y6 y7
    obtain ⟨a1, k1, g, fps, fpR, rfl, ha, hnd, hfl, hel, -, -, hfa⟩ := own_rules o1
    have CQ0 := Cells.new w1 [.int .i64 q.atoms, .slice a1 q.rules.length k1, c2, .bool q.projOn, c4, c5, c6, c7] 30
    have bQ := (Below.refl w1.heap.size w1).alloc (Nat.le_refl _) (.cells #[.int .i64 q.atoms, .slice a1 q.rules.length k1, c2, .bool q.projOn, c4, c5, c6, c7] 30)
    have bA := bQ.alloc bQ.size (.cells #[.int .i64 q.atoms, .slice none 0 0, .slice none 0 0, .bool false, .slice none 0 0, .slice none 0 0, .slice none 0 0, .slice none 0 0] 30)
    have CQ1 := CQ0.alloc (.cells #[.int .i64 q.atoms, .slice none 0 0, .slice none 0 0, .bool false, .slice none 0 0, .slice none 0 0, .slice none 0 0, .slice none 0 0] 30)
    have hB0 := alloc_block (w1.alloc (.cells #[.int .i64 q.atoms, .slice a1 q.rules.length k1, c2, .bool q.projOn, c4, c5, c6, c7] 30)) #[.int .i64 q.atoms, .slice none 0 0, .slice none 0 0, .bool false, .slice none 0 0, .slice none 0 0, .slice none 0 0, .slice none 0 0] 30
    rw [World.size_alloc] at hB0
    have hzA : ((w1.alloc (.cells #[.int .i64 q.atoms, .slice a1 q.rules.length k1, c2, .bool q.projOn, c4, c5, c6, c7] 30)).alloc (.cells #[.int .i64 q.atoms, .slice none 0 0, .slice none 0 0, .bool false, .slice none 0 0, .slice none 0 0, .slice none 0 0, .slice none 0 0] 30)).heap.size = w1.heap.size + 2 := by simp
    have tA := (t0'.step b1).step bA
    have hbrA := (bA.block (w.heap.size + 1) (by omega)).trans hbr1
    have hPS : PS (w1.heap.size + 1) fps q.atoms ((w1.alloc (.cells #[.int .i64 q.atoms, .slice a1 q.rules.length k1, c2, .bool q.projOn, c4, c5, c6, c7] 30)).alloc (.cells #[.int .i64 q.atoms, .slice none 0 0, .slice none 0 0, .bool false, .slice none 0 0, .slice none 0 0, .slice none 0 0, .slice none 0 0] 30)) ((w1.alloc (.cells #[.int .i64 q.atoms, .slice a1 q.rules.length k1, c2, .bool q.projOn, c4, c5, c6, c7] 30)).alloc (.cells #[.int .i64 q.atoms, .slice none 0 0, .slice none 0 0, .bool false, .slice none 0 0, .slice none 0 0, .slice none 0 0, .slice none 0 0] 30)) 0 [] (.slice none 0 0) :=
      ⟨hB0, OwnD.start (World.ownsRow_nil _ _ _ _) (fun g hg => by simp [Value.ownBlock] at hg), Below.refl _ _, by rw [hzA]; omega⟩
    have HPS := Lib.hid hPS
    have CQA := Lib.hid CQ1
    clear hPS CQ0 CQ1 hB0 hbr0 hbr1 b0 b1 hb0 CP CP0 t0 t0' bQ o1
    obtain ⟨y0, y1, y2, y3, y4, y5, y6, y7⟩ := cells8 CQA.out
    have hlw1 : w1.heap.size < ((w1.alloc (.cells #[.int .i64 q.atoms, .slice a1 q.rules.length k1, c2, .bool q.projOn, c4, c5, c6, c7] 30)).alloc (.cells #[.int .i64 q.atoms, .slice none 0 0, .slice none 0 0, .bool false, .slice none 0 0, .slice none 0 0, .slice none 0 0, .slice none 0 0] 30)).heap.size := by rw [hzA]; omega
    go_wp2
    clear st1 st2 st4 st5 st6 st7 y0 y1 y2 y3 y4 y5 y6 y7 hlw1
    generalize (w1.alloc (.cells #[.int .i64 q.atoms, .slice a1 q.rules.length k1, c2, .bool q.projOn, c4, c5, c6, c7] 30)).alloc (.cells #[.int .i64 q.atoms, .slice none 0 0, .slice none 0 0, .bool false, .slice none 0 0, .slice none 0 0, .slice none 0 0, .slice none 0 0] 30) = wa at *
    go_loopw [8] (fun i wr => ∃ (k : Nat) (v : Value), k ≤ q.rules.length ∧ i = .int .i64 (k : Int) ∧ PS (w1.heap.size + 1) fps q.atoms wa wr k (leftTo (botS us) q.rules k) v) (fun i _ => q.rules.length - (intOf i).toNat)
    case atStart => exact ⟨0, _, Nat.zero_le _, rfl, HPS.out⟩
    case round =>
      obtain ⟨k, v, hk, rfl, hPk⟩ := hrel
      clear HPS
      have hsr := hPk.bel.size
      have hlr := hPk.lt
      have hct := leftTo_len (g := botS us) (rs := q.rules) k
      have tw : Below w.heap.size w wr := tA.trans (hPk.bel.mono (by omega))
      have hxI := (hx.later tw).ints
      have CQr := CQA.out.kept (hPk.bel.block w1.heap.size (by omega))
      obtain ⟨y0, y1, y2, y3, y4, y5, y6, y7⟩ := cells8 CQr
      by_cases hlt : k < q.rules.length
      · skip
        obtain rfl := ha (by omega)
        obtain ⟨ecs, hC, hO⟩ := hel k hlt
        have hgl : g < w1.heap.size := by
          obtain ⟨e0, e1, e2, e3, e4, he5⟩ := list5 (Rd.len (Ow.rd hO))
          rw [he5] at hC
          exact hC.lt
        have hCr := hC.kept ((hPk.bel.block g (by omega)).trans (bA.block g hgl))
        have hOr := Ow.kept hO (w' := wr) fun f hf => (hPk.bel.block f (by have := hfl f (mem_flat hf); omega)).trans (bA.block f (hfl f (mem_flat hf)).2)
        have hRr := Ow.rd hOr
        have hRr0 := hRr
        obtain ⟨d1, d4, rfl, hf', r1, r4⟩ := hRr0
        have so1 := sto Tryz.prog r1.one1
        have so4 := sto Tryz.prog r4.one1
        have u0 := hCr.c0
        have u1 := hCr.c1
        have u2 := hCr.c2
        have u3 := hCr.c3
        have u4 := hCr.c4
        have hok12 := hr12.out _ (nth_mem hlt)
        have hki : (k : Int) < (q.rules.length : Int) := by omega
        go_wp2_with fail
        refine (specAtomsOf_calls hRr (sm_ok12 hok12)).mono ?_
        rintro e w3 ⟨v3, rfl, ho3, b3⟩
        obtain ⟨p3, q3, hv3, _, _⟩ := ho3.open
        subst hv3
        go_wp2_with fail
        refine (specSetIn_calls _ _ _ _ _ _ _ ho3.ints (hxI.later b3)).mono ?_
        rintro e w4 ⟨he, b4⟩
        have bb := b3.step b4
        have he : e = .returned (.bool (belB us (nth q.rules k))) := he
        have hP4 := hPk.mem bb
        clear ho3 u0 u1 u2 u3 u4 y0 y1 y2 y3 y4 y5 y6 y7
        cases hB : belB us (nth q.rules k)
        · have hE := Lib.hid (leftTo_no (rs := q.rules) (botS_no hB))
          have H4 := Lib.hid hP4.up
          rw [hB] at he
          subst he
          clear hB hP4 hPk hRr hOr hCr
          go_wp2
          go_roundw
          case rel => exact ⟨k + 1, v, by omega, by go_num, by rw [hE.out]; exact H4.out⟩
          case measure => simp [intOf]; omega
        · have hE := Lib.hid (leftTo_yes (rs := q.rules) (botS_yes hB))
          rw [hB] at he
          subst he
          go_upto_region 9 with fail
          have bbd := bb.drew
          have CQ9 := CQr.later bbd
          have hC9 := hCr.later bbd
          have hO9 := Ow.kept hOr fun f hf => bbd.block f (Ow.lt hOr f hf)
          have hP9 := hPk.mem bbd
          have hz9 : wr.heap.size ≤ w4.drew.heap.size := bbd.size
          clear hB hP4 hRr bb bbd b3 b4 hCr
          have KS : ∀ W, Cells W w1.heap.size 0 [.int .i64 q.atoms, .slice (some ⟨g, 0, none⟩) q.rules.length k1, c2, .bool q.projOn, c4, c5, c6, c7] → Cells W g (k * 5) [.bool (nth q.rules k).choice, d1, .bool (nth q.rules k).weight, .int .i64 (nth q.rules k).bound, d4] →
              (W.cell? ⟨w1.heap.size, 1, none⟩ = some (.slice (some ⟨g, 0, none⟩) q.rules.length k1) ∧ W.cell? ⟨g, k * 5, none⟩ = some (.bool (nth q.rules k).choice) ∧ W.cell? ⟨g, k * 5 + 1, none⟩ = some d1 ∧ W.cell? ⟨g, k * 5 + 2, none⟩ = some (.bool (nth q.rules k).weight) ∧ W.cell? ⟨g, k * 5 + 3, none⟩ = some (.int .i64 (nth q.rules k).bound) ∧ W.cell? ⟨g, k * 5 + 4, none⟩ = some d4) :=
            fun W h1 h2 => ⟨by simpa using h1 1 _ rfl, h2.c0, h2.c1, h2.c2, h2.c3, h2.c4⟩
          refine wp_region_held_drew (S := fun W => W.cell? ⟨w1.heap.size, 1, none⟩ = some (.slice (some ⟨g, 0, none⟩) q.rules.length k1) ∧ W.cell? ⟨g, k * 5, none⟩ = some (.bool (nth q.rules k).choice) ∧ W.cell? ⟨g, k * 5 + 1, none⟩ = some d1 ∧ W.cell? ⟨g, k * 5 + 2, none⟩ = some (.bool (nth q.rules k).weight) ∧ W.cell? ⟨g, k * 5 + 3, none⟩ = some (.int .i64 (nth q.rules k).bound) ∧ W.cell? ⟨g, k * 5 + 4, none⟩ = some d4) (by kernel_rfl) (KS _ CQ9 hC9) (fun hHeld => ?_)
          generalize w4.drew = wq at *
          refine takeD (i := 0) (v := .pointer (some ⟨w1.heap.size + 1, 1, none⟩)) (some 37) rfl rfl (by kernel_rfl) (by kernel_rfl) (by kernel_rfl) (fun _ _ _ h => h) (Or.inl ⟨by rfl, fun w' hw' => ?_⟩) hHeld ?_
          · first | (go_simp; done) | (obtain ⟨s1, s2, s3, s4, s5, s6⟩ := hw'; go_simp; done)
          try simp only [Act.put, List.setIfInBounds_toArray, List.set_cons_zero, List.set_cons_succ]
          refine takeD (i := 2) (v := .pointer (some ⟨w1.heap.size, 1, none⟩)) (some 39) rfl rfl (by kernel_rfl) (by kernel_rfl) (by kernel_rfl) (fun _ _ _ h => h) (Or.inl ⟨by rfl, fun w' hw' => ?_⟩) hHeld ?_
          · first | (go_simp; done) | (obtain ⟨s1, s2, s3, s4, s5, s6⟩ := hw'; go_simp; done)
          try simp only [Act.put, List.setIfInBounds_toArray, List.set_cons_zero, List.set_cons_succ]
          refine takeD (i := 3) (v := .slice (some ⟨g, 0, none⟩) q.rules.length k1) (some 40) rfl rfl (by kernel_rfl) (by kernel_rfl) (by kernel_rfl) (fun _ _ _ h => h) (Or.inl ⟨by rfl, fun w' hw' => ?_⟩) hHeld ?_
          · first | (go_simp; done) | (obtain ⟨s1, s2, s3, s4, s5, s6⟩ := hw'; go_simp; done)
          try simp only [Act.put, List.setIfInBounds_toArray, List.set_cons_zero, List.set_cons_succ]
          refine takeD (i := 4) (v := .int .i64 (k : Int)) (some 41) rfl rfl (by kernel_rfl) (by kernel_rfl) (by kernel_rfl) (fun _ _ _ h => h) (Or.inl ⟨by rfl, fun w' hw' => ?_⟩) hHeld ?_
          · first | (go_simp; done) | (obtain ⟨s1, s2, s3, s4, s5, s6⟩ := hw'; go_simp; done)
          try simp only [Act.put, List.setIfInBounds_toArray, List.set_cons_zero, List.set_cons_succ]
          refine takeD (i := 5) (v := .pointer (some ⟨g, k * 5, none⟩)) (some 42) rfl rfl (by kernel_rfl) (by kernel_rfl) (by kernel_rfl) (fun _ _ _ h => h) (Or.inl ⟨by rfl, fun w' hw' => ?_⟩) hHeld ?_
          · first | (go_simp; done) | (obtain ⟨s1, s2, s3, s4, s5, s6⟩ := hw'; go_simp; done)
          try simp only [Act.put, List.setIfInBounds_toArray, List.set_cons_zero, List.set_cons_succ]
          refine takeD (i := 6) (v := .agg #[.bool (nth q.rules k).choice, d1, .bool (nth q.rules k).weight, .int .i64 (nth q.rules k).bound, d4]) (some 43) rfl rfl (by kernel_rfl) (by kernel_rfl) (by kernel_rfl) (fun _ _ _ h => h) (Or.inl ⟨by rfl, fun w' hw' => ?_⟩) hHeld ?_
          · first | (go_simp; done) | (obtain ⟨s1, s2, s3, s4, s5, s6⟩ := hw'; go_simp; done)
          try simp only [Act.put, List.setIfInBounds_toArray, List.set_cons_zero, List.set_cons_succ]
          have hq1 : ∀ W, PS (w1.heap.size + 1) fps q.atoms wa W k (leftTo (botS us) q.rules k) v → W.cell? ⟨w1.heap.size + 1, 1, none⟩ = some v := fun W h => by rw [cell_of_row W (w1.heap.size + 1) 1 _ _ _ h.box]; rfl
          have bX := (Below.refl wq.heap.size wq).alloc (Nat.le_refl _) (.cells #[.bool (nth q.rules k).choice, d1, .bool (nth q.rules k).weight, .int .i64 (nth q.rules k).bound, d4] 34)
          have hX1 := hq1 _ hP9
          have hX2 := hq1 _ (hP9.mem bX)
          obtain ⟨a9, q9, w9, r9, x9, P9, b9⟩ := PS.push (c := 1) (ty := 24) i3 _ hi3 hz30 hz31 hz32 rfl (hP9.mem bX) (Below.refl _ _) hnd (fun f hf => by have := hfl f hf; omega) (Cells.new wq [.bool (nth q.rules k).choice, d1, .bool (nth q.rules k).weight, .int .i64 (nth q.rules k).bound, d4] 34) (Ow.kept hO9 fun f hf => bX.block f (Ow.lt hO9 f hf)) (fun f hf => .inl hf) (by omega)
          have hf9 := frozen_of_row w9 (w1.heap.size + 1) 1 _ _ x9
          have hc9 : w9.cell? ⟨w1.heap.size + 1, 1, none⟩ = some v := by rw [cell_of_row w9 (w1.heap.size + 1) 1 _ _ _ x9]; rfl
          obtain ⟨av, nv, hv0⟩ := hP9.row.form
          obtain ⟨nT, hnT⟩ : ∃ nT : Nat, nT = (leftTo (botS us) q.rules k).length := ⟨_, rfl⟩
          rw [← hnT] at r9 P9 hv0
          subst hv0
          have PP := Lib.hid P9
          have CQX := CQ9.later bX
          have hCX := hC9.later bX
          have CQ10 := CQX.kept (b9.block w1.heap.size (by omega))
          have hC10 := hCX.kept (b9.block g (by omega))
          have CQ11 := CQ10.kept (Below.heap_setCell w9 ⟨w1.heap.size + 1, 1, none⟩ (.slice a9 (nT + 1) q9) w1.heap.size (by show w1.heap.size ≠ w1.heap.size + 1; omega))
          have hC11 := hC10.kept (Below.heap_setCell w9 ⟨w1.heap.size + 1, 1, none⟩ (.slice a9 (nT + 1) q9) g (by show g ≠ w1.heap.size + 1; omega))
          have HKS := Lib.hid KS
          clear KS P9 hnT hq1 x9 b9
          refine wpAnyH_ready (rs := [1, 7]) (by kernel_rfl) (by simp) ?_
          refine AllReadyH.cons rfl (fun K hK => ?_) (AllReadyH.cons rfl (fun K hK => ?_) AllReadyH.nil)
          · go_simp
            refine hK.out _ _ (HKS.out _ CQ9 hC9) (fun hHeld => ?_)
            clear hK K
            try simp only [Act.put, List.setIfInBounds_toArray, List.set_cons_zero, List.set_cons_succ]
            refine wpAnyH_ready (rs := [7]) (by kernel_rfl) (by simp) ?_
            refine AllReadyH.cons rfl (fun K hK => ?_) AllReadyH.nil
            go_simp
            refine hK.out _ _ (HKS.out _ CQX hCX) (fun hHeld => ?_)
            clear hK K
            try simp only [Act.put, List.setIfInBounds_toArray, List.set_cons_zero, List.set_cons_succ]
            refine wpAnyH_ready (rs := [8]) (by kernel_rfl) (by simp) ?_
            refine AllReadyH.cons rfl (fun K hK => ?_) AllReadyH.nil
            refine step_append_of rfl _ _ rfl rfl rfl r9 ?_
            refine hK.out _ _ (HKS.out _ CQ10 hC10) (fun hHeld => ?_)
            clear hK K
            try simp only [Act.put, List.setIfInBounds_toArray, List.set_cons_zero, List.set_cons_succ]
            refine takeD (i := 9) (v := .pointer (some ⟨w1.heap.size + 1, 1, none⟩)) (some 46) rfl rfl (by kernel_rfl) (by kernel_rfl) (by kernel_rfl) (fun _ _ _ h => h) (Or.inl ⟨by rfl, fun w' hw' => ?_⟩) hHeld ?_
            · first | (go_simp; done) | (obtain ⟨s1, s2, s3, s4, s5, s6⟩ := hw'; go_simp; done)
            try simp only [Act.put, List.setIfInBounds_toArray, List.set_cons_zero, List.set_cons_succ]
            refine wpAnyH_ready (rs := [10]) (by kernel_rfl) (by simp) ?_
            refine AllReadyH.cons rfl (fun K hK => ?_) AllReadyH.nil
            go_simp
            refine hK.out _ _ (HKS.out _ CQ11 hC11) (fun hHeld => ?_)
            clear hK K
            try simp only [Act.put, List.setIfInBounds_toArray, List.set_cons_zero, List.set_cons_succ]
            refine wpAnyH_done (by kernel_rfl) ?_ _
            go_wp2
            go_roundw
            case rel => exact ⟨k + 1, _, by omega, by go_num, by rw [hE.out]; exact PP.out⟩
            case measure => simp [intOf]; omega
          · go_simp
            refine hK.out _ _ (HKS.out _ CQX hCX) (fun hHeld => ?_)
            clear hK K
            try simp only [Act.put, List.setIfInBounds_toArray, List.set_cons_zero, List.set_cons_succ]
            refine wpAnyH_ready (rs := [1]) (by kernel_rfl) (by simp) ?_
            refine AllReadyH.cons rfl (fun K hK => ?_) AllReadyH.nil
            go_simp
            refine hK.out _ _ (HKS.out _ CQX hCX) (fun hHeld => ?_)
            clear hK K
            try simp only [Act.put, List.setIfInBounds_toArray, List.set_cons_zero, List.set_cons_succ]
            refine wpAnyH_ready (rs := [8]) (by kernel_rfl) (by simp) ?_
            refine AllReadyH.cons rfl (fun K hK => ?_) AllReadyH.nil
            refine step_append_of rfl _ _ rfl rfl rfl r9 ?_
            refine hK.out _ _ (HKS.out _ CQ10 hC10) (fun hHeld => ?_)
            clear hK K
            try simp only [Act.put, List.setIfInBounds_toArray, List.set_cons_zero, List.set_cons_succ]
            refine takeD (i := 9) (v := .pointer (some ⟨w1.heap.size + 1, 1, none⟩)) (some 46) rfl rfl (by kernel_rfl) (by kernel_rfl) (by kernel_rfl) (fun _ _ _ h => h) (Or.inl ⟨by rfl, fun w' hw' => ?_⟩) hHeld ?_
            · first | (go_simp; done) | (obtain ⟨s1, s2, s3, s4, s5, s6⟩ := hw'; go_simp; done)
            try simp only [Act.put, List.setIfInBounds_toArray, List.set_cons_zero, List.set_cons_succ]
            refine wpAnyH_ready (rs := [10]) (by kernel_rfl) (by simp) ?_
            refine AllReadyH.cons rfl (fun K hK => ?_) AllReadyH.nil
            go_simp
            refine hK.out _ _ (HKS.out _ CQ11 hC11) (fun hHeld => ?_)
            clear hK K
            try simp only [Act.put, List.setIfInBounds_toArray, List.set_cons_zero, List.set_cons_succ]
            refine wpAnyH_done (by kernel_rfl) ?_ _
            go_wp2
            go_roundw
            case rel => exact ⟨k + 1, _, by omega, by go_num, by rw [hE.out]; exact PP.out⟩
            case measure => simp [intOf]; omega
      · obtain rfl : k = q.rules.length := by omega
        have hRr := (hPk.bel.block (w.heap.size + 1) (by omega)).trans hbrA
        obtain ⟨z0, z1, z2, z3, z4, z5, z6, z7⟩ := cells8 (cellsAtB hRr)
        have hfz := fun j => frozen_of_row _ (w.heap.size + 1) j _ _ hRr
        obtain ⟨av, nv, rfl⟩ := hPk.row.form
        obtain ⟨fpv, hov, hdv⟩ := hPk.row.own
        obtain ⟨nT, hnT⟩ : ∃ nT : Nat, nT = (leftTo (botS us) q.rules q.rules.length).length := ⟨_, rfl⟩
        have hbx := hPk.box
        rw [← hnT] at hov hbx
        obtain ⟨x0, x1, x2, x3, x4, x5, x6, x7⟩ := cells8 (cellsAtB hbx)
        have hlv : ∀ f ∈ fpv, w.heap.size ≤ f ∧ f ≠ w.heap.size + 1 := fun f hf => by
          rcases hdv f hf with h | h
          · have := hfl f (take_in h); omega
          · omega
        have HV := Lib.hid hlv
        have HO := Lib.hid hov
        have TW := Lib.hid tw
        clear hPk hRr hnT hbx hdv hlv hov tw
        go_wp2
        refine bodyPost_ret (v := .agg #[.int .i64 q.atoms, .slice av nT nv, .slice none 0 0, .bool false, .slice none 0 0, .slice none 0 0, .slice none 0 0, .slice none 0 0])
          (by simp [results, Tryz.results29, go_sem, z0, z1, z2, z3, z4, z5, z6, z7]) rfl ⟨_, rfl, ?_, ?_⟩
        · rw [HC.out]
          exact own_partS (w := put wr (w.heap.size + 1) 0 [.int .i64 q.atoms, .slice av nT nv, .slice none 0 0, .bool false, .slice none 0 0, .slice none 0 0, .slice none 0 0, .slice none 0 0]) hfa ⟨fpv, Ow.kept (α := List RuleD) HO.out fun f hf => (put_chg (w.heap.size + 1) _ wr 0).block f (by have := (HV.out f hf).2; simp; omega), fun f hf => (HV.out f hf).1⟩
        · exact TW.out.trans ((put_chg (w.heap.size + 1) [.int .i64 q.atoms, .slice av nT nv, .slice none 0 0, .bool false, .slice none 0 0, .slice none 0 0, .slice none 0 0, .slice none 0 0] wr 0).below fun f hf => by simp at hf; omega)

end Go.Proofs.YthikhkeofcjdfaaGreat
