/-
 A program drawn for Fold: what DrawFold answers. No condition of its own.
-/
import Derived.Test.YthfbnalgnnjbbaaGreatDrawM
import Derived.Test.YthfbnalgnnjbbaaGreatPlainM
namespace Go.Proofs.YthfbnalgnnjbbaaGreat
set_option linter.unusedVariables false
set_option linter.unusedSimpArgs false
open Go.RowKit
set_option maxRecDepth 100000


/-- What DrawFold answers. -/
def FoldPost (w : World) (e : Ending) (w' : World) : Prop := ∃ cs p, e = .returned (.agg (List.toArray cs)) ∧ Rd.R (α := ProgD) w' cs p ∧ Below w.heap.size w w'
/-- The program that is drawn, in its box at G; the result's box. -/
structure FD (w : World) (lo G : Nat) (wz : World) (bx : List Value) (p : ProgD) : Prop where
 res : wz.heap[w.heap.size]? = some (.cells zP.toArray 30 (0, 0))
 box : wz.heap[G]? = some (.cells bx.toArray 30 (0, 0))
 lent : Lent lo (fun x => x < lo ∨ x = G) wz bx p
 wee : Wee p
 lt : w.heap.size < lo ∧ lo ≤ G
 bel : Below w.heap.size w wz
section
variable {w wz w2 w3 : World} {lo G : Nat} {bx : List Value} {p : ProgD}
theorem FD.drew (h : FD w lo G wz bx p) : FD w lo G wz.drew bx p := by
 have k := fun S => (Cg.refl S wz).drew
 exact ⟨(k (fun _ => False)).at h.res (fun h => h), (k (fun _ => False)).at h.box (fun h => h), h.lent.cg (k _), h.wee, h.lt, h.bel.drew⟩
theorem FD.push {P : Program} {a b c2 c4 c5 c6 c7 : Value} {g cap : Nat} {cur : Array Value} {e : TypeId} {fe : List Nat} {k ga cp : Nat} {ecs : List Value} {f : List Nat} {t ty e2 : TypeId} {w6 : World} (h : FD w lo G wz [a, .slice (some ⟨g, 0, none⟩) p.rules.length cap, c2, b, c4, c5, c6, c7] p)
  (hL : LentAt lo (fun x => x < lo ∨ x = G) wz a b c2 c4 c5 c6 c7 g cap cur e fe p)
  (i : TypeInfo) (z : Value) (bytes : Nat) (ht : P.underlying t = some (.slice e2)) (hi : P.info? e2 = some i) (hz : i.zero = some z) (hsize : i.size = 5) (hby : i.bytes = bytes) (hzs : z.cells.size = 5)
  (hk : k < p.rules.length) (he : Ow.O wz ecs (nth p.rules k) f) (hef : ∀ x ∈ f, lo ≤ x ∧ ¬ (x < lo ∨ x = G) ∧ x ≠ g ∧ x ∉ fe) (hw6 : Cg (fun _ => False) wz w6) (hcl : Cells w6 ga 0 ecs)
  (hl : p.rules.length ≤ 60) (hb : bytes ≤ 1000) :
  ∃ g' cap' w8, (Builtin.append_ #[t, t] ty #[.slice (some ⟨g, 0, none⟩) p.rules.length cap, .slice (some ⟨ga, 0, none⟩) 1 cp]).run P w6 = .ok (.slice (some ⟨g', 0, none⟩) (p.rules.length + 1) cap') w8 ∧
   w8.heap[G]? = some (.cells [a, .slice (some ⟨g, 0, none⟩) p.rules.length cap, c2, b, c4, c5, c6, c7].toArray 30 (0, 0)) ∧
   FD w lo G (w8.setCell ⟨G, 1, none⟩ (.slice (some ⟨g', 0, none⟩) (p.rules.length + 1) cap')) [a, .slice (some ⟨g', 0, none⟩) (p.rules.length + 1) cap', c2, b, c4, c5, c6, c7] { p with rules := p.rules ++ [nth p.rules k] } := by
 have hbl := block_lt h.box
 have hG := h.lt
 have hg := hL.gne
 have hgG : g ≠ G := fun e => hg.2 (.inr e)
 obtain ⟨g', cap', cur', e', w8, r, k1, k2⟩ := hL.push (P := P) (ty := ty) (cp := cp) (fun x hx => by rintro (e | e) <;> omega) (by omega) i z bytes ht hi hz hsize hby hzs he hef hw6 hcl (by have := Nat.mul_le_mul (show p.rules.length + 1 ≤ 61 by omega) hb; omega) (by omega)
 have hb8 := k1.at h.box (fun e => hgG e.symm)
 have kz : Cg (fun x => x = G ∨ x = g) wz (w8.setCell ⟨G, 1, none⟩ (.slice (some ⟨g', 0, none⟩) (p.rules.length + 1) cap')) := Cg.set (k1.more fun x _ hx => .inr hx) 1 _ (.inl rfl)
 have k3 := (k2.cg (Cg.set (S := fun x => x < lo ∨ x = G) (Cg.refl _ w8) (g := G) 1 (.slice (some ⟨g', 0, none⟩) (p.rules.length + 1) cap') (.inr rfl))).lent
 have hLn : (p.rules ++ [nth p.rules k]).length = p.rules.length + 1 := by rw [List.length_append]; rfl
 have hlo := hg.1
 refine ⟨g', cap', w8, r, hb8, ⟨kz.at h.res (by rintro (e | e) <;> omega), box_set hb8 _, ?_, wee_push h.wee hk hl, hG, ?_⟩⟩
 ·have k4 : Lent lo (fun x => x < lo ∨ x = G) _ [a, .slice (some ⟨g', 0, none⟩) (p.rules ++ [nth p.rules k]).length cap', c2, b, c4, c5, c6, c7] { p with rules := p.rules ++ [nth p.rules k] } := k3
  rw [hLn] at k4
  exact k4
 ·refine ⟨kz.os.trans h.bel.os, kz.tape.trans h.bel.tape, kz.output.trans h.bel.output, Nat.le_trans h.bel.size kz.size, fun x hx => (kz.block x (Nat.lt_of_lt_of_le hx h.bel.size) (by rintro (e | e) <;> omega)).trans (h.bel.block x hx)⟩
end
set_option maxHeartbeats 8000000 in
theorem DrawFold_calls (HA : AnyOk) (a : Option Addr) (bs : List Int) (cap : Nat) (w : World) (h : Bytes w a bs) :
  Calls Tryz.prog 42 #[.slice a bs.length cap] w (FoldPost w) := by
 have tz : Below w.heap.size w (w.alloc (.cells zP.toArray 30)) := (Below.refl _ _).alloc (Nat.le_refl _) _
 have hB := h.later tz
 have hz0 := alloc_block w zP.toArray 30
 go_enter Tryz.func42, Tryz.ntmps42
 go_wp2_with fail
 refine (open_calls _ _ _ _ hB).mono ?_
 rintro e w1 ⟨rfl, hc, hb⟩
 rw [World.size_alloc] at hc hb
 have hcl := hc.lt
 have hz1 := (hb.block _ (Nat.lt_succ_self _)).trans hz0
 rw [World.size_alloc]
 go_wp2_with fail
 refine (HA (w.heap.size + 1) 0 w1 hc (by omega)).mono ?_
 rintro e w2 ⟨cs, p, rfl, hL, hwee, c2, k2⟩
 obtain ⟨x0, x1, x2, x3, x4, x5, x6, x7, rfl⟩ := list8 (Rd.len hL.rd)
 have l1 := Rd.one hL.rd
 have st0 := sto Tryz.prog (l1 x0 (by simp))
 have st1 := sto Tryz.prog (l1 x1 (by simp))
 have st2 := sto Tryz.prog (l1 x2 (by simp))
 have st3 := sto Tryz.prog (l1 x3 (by simp))
 have st4 := sto Tryz.prog (l1 x4 (by simp))
 have st5 := sto Tryz.prog (l1 x5 (by simp))
 have st6 := sto Tryz.prog (l1 x6 (by simp))
 have st7 := sto Tryz.prog (l1 x7 (by simp))
 have hz2 := k2.size
 have hr2 := (Cg.wrote (S := fun x => x = w.heap.size + 1) k2 rfl).at hz1 (by omega)
 have t1 : Below w.heap.size w w1 := tz.trans (hb.mono (Nat.le_succ _))
 have t2 : Below w.heap.size w w2 := Wrote.mark t1 k2 (by omega)
 have hF : FD w w1.heap.size w2.heap.size (w2.alloc (.cells [x0, x1, x2, x3, x4, x5, x6, x7].toArray 30)) [x0, x1, x2, x3, x4, x5, x6, x7] p :=
  ⟨(Cg.alloc (Cg.refl (fun _ => False) w2) _).at hr2 (fun h => h), alloc_block w2 _ _, hL.widen (Cg.alloc (Cg.refl _ w2) _) (fun x hx => hx.imp id fun e => Nat.le_of_eq e.symm), hwee, ⟨by omega, hz2⟩, t2.alloc t2.size _⟩
 have c3 := c2.kept ((Below.refl w2.heap.size w2).alloc (Nat.le_refl _) (.cells [x0, x1, x2, x3, x4, x5, x6, x7].toArray 30))
 go_upto_region 3 with fail
 obtain ⟨G, hG⟩ : ∃ G, G = w2.heap.size := ⟨_, rfl⟩
 rw [← hG] at hF
 rw [← hG]
 generalize w2.alloc _ = wb at *
 clear hG st0 st1 st2 st3 st4 st5 st6 st7 l1 hL t2 hr2 k2 c2
 have hGl := block_lt hF.box
 go_wp2_with fail
 refine (once_calls (w.heap.size + 1) 6000 20 _ (c3.mono (by omega)) (by omega) (by omega) (by omega)).mono ?_
 rintro e w4 ⟨b, rfl, c4, k4⟩
 have kc := Cg.wrote (S := fun x => x = w.heap.size + 1) k4 rfl
 have hlo := hF.lt
 have hF4 : FD w w1.heap.size G w4 [x0, x1, x2, x3, x4, x5, x6, x7] p := ⟨kc.at hF.res (by omega), kc.at hF.box (by omega), hF.lent.cg (kc.more fun x _ hx => .inl (by omega)), hF.wee, hF.lt, Wrote.mark hF.bel k4 (by omega)⟩
 clear hF kc k4 c4 c3
 cases b
 ·obtain ⟨bx, p2, h3⟩ : ∃ bx p2, FD w w1.heap.size G w4 bx p2 := ⟨_, _, hF4⟩
  clear hF4
  have hR3 := h3.lent.rd
  obtain ⟨b0, b1, b2, b3, b4, b5, b6, b7, rfl⟩ := list8 (Rd.len hR3)
  have l1 := Rd.one hR3
  obtain ⟨v0, v1, v2, v3, v4, v5, v6, v7⟩ := cells8 (box_cells h3.res)
  obtain ⟨w0, w1', w2', w3', w4', w5', w6', w7'⟩ := cells8 (box_cells h3.box)
  have vf := fun j => frozen_of_row w4 w.heap.size j _ _ h3.res
  have st0 := sto Tryz.prog (l1 b0 (by simp))
  have st1 := sto Tryz.prog (l1 b1 (by simp))
  have st2 := sto Tryz.prog (l1 b2 (by simp))
  have st3 := sto Tryz.prog (l1 b3 (by simp))
  have st4 := sto Tryz.prog (l1 b4 (by simp))
  have st5 := sto Tryz.prog (l1 b5 (by simp))
  have st6 := sto Tryz.prog (l1 b6 (by simp))
  have st7 := sto Tryz.prog (l1 b7 (by simp))
  have hk := fun u0 u1 u2 u3 u4 u5 u6 u7 => res_cg8 w4 w.heap.size u0 u1 u2 u3 u4 u5 u6 u7
  have hlG := h3.lt
  have hln : (w.heap.size : Nat) < (w4).heap.size := block_lt h3.res
  have hLL := Lib.hid h3.lent
  have hBL := Lib.hid h3.bel
  go_wp2
  exact bodyPost_ret (v := .agg #[b0, b1, b2, b3, b4, b5, b6, b7]) (by first | (simp [results, Tryz.results42, go_sem, v0, v1, v2, v3, v4, v5, v6, v7]; done) | (simp [results, Tryz.results42, go_sem, v0, v1, v2, v3, v4, v5, v6, v7]; omega)) rfl
   ⟨[b0, b1, b2, b3, b4, b5, b6, b7], _, rfl, (hLL.out.cg ((hk _ _ _ _ _ _ _ _).more fun g _ hg => .inl (by omega))).rd, by
    have k := hk b0 b1 b2 b3 b4 b5 b6 b7
    exact ⟨k.os.trans hBL.out.os, k.tape.trans hBL.out.tape, k.output.trans hBL.out.output, Nat.le_trans hBL.out.size k.size, fun x hx => (k.block x (Nat.lt_of_lt_of_le hx hBL.out.size) (by omega)).trans (hBL.out.block x hx)⟩⟩
 ·go_wp2_with fail
  go_loopw [11] (fun _ wr => ∃ bx q, FD w w1.heap.size G wr bx q) (fun _ wr => 61 - lenAt wr G)
  case atStart => exact ⟨_, _, hF4⟩
  case round =>
   clear hF4
   obtain ⟨bx, q, hF⟩ := hrel
   obtain ⟨bx0, bx1, bx2, bx3, bx4, bx5, bx6, bx7, rfl⟩ := list8 (Rd.len hF.lent.rd)
   obtain ⟨gq, capq, curq, eq, feq, rfl, hL⟩ := hF.lent.at
   have hkq := hF.wee.1.1
   obtain ⟨x0, x1, x2, x3, x4, fx, ⟨u0, u1, u2, u3, u4⟩, hsz, hone, hO, hfx⟩ := hL.rule hkq
   have hml : lenAt wr G = q.rules.length := lenAt_box hF.box
   obtain ⟨y0, y1, y2, y3, y4, y5, y6, y7⟩ := cells8 (box_cells hF.box)
   have xf := fun j => frozen_of_row wr G j _ _ hF.box
   have hkqi : (0 : Int) < (q.rules.length : Int) := by omega
   simp only [Nat.zero_mul, Nat.zero_add] at u0 u1 u2 u3 u4
   by_cases hlt : q.rules.length < 59
   ·have hlti : (q.rules.length : Int) < 59 := by omega
    have hgl := block_lt hL.row
    have hGl := block_lt hF.box
    have hgG : gq ≠ G := fun e => hL.gne.2 (.inr e)
    obtain ⟨ir, hir, hzr0, hzr1, hzr2⟩ := info_parts info_rule
    go_upto_region 5 with fail
    have k6 : Cg (fun _ => False) wr (wr.drew.alloc (.cells #[x0, x1, x2, x3, x4] 52)) := ((Cg.refl _ wr).drew).alloc _
    obtain ⟨g8, cap8, w8, r8, hb8, h8⟩ := hF.push (P := Tryz.prog) (t := 24) (ty := 24) (cp := 1) (k := 0) hL ir _ 72 Tryz.underlying24 hir hzr0 hzr1 hzr2 rfl hkq hO hfx k6 (Cells.new wr.drew [x0, x1, x2, x3, x4] 52) (by omega) (by omega)
    have hM : 61 - lenAt (w8.setCell ⟨G, 1, none⟩ (.slice (some ⟨g8, 0, none⟩) (q.rules.length + 1) cap8)) G < 61 - lenAt wr G := by rw [hml, lenAt_box h8.box]; omega
    have H8 := Lib.hid h8
    refine wp_region_held_drew (S := fun _ => True) (by kernel_rfl) trivial (fun hHeld => ?_)
    refine tkY 0 (.pointer (some ⟨G, 1, none⟩)) 21 rfl rfl (fun w' hw' => ?_) hHeld ?_
    ·go_simp
    try simp only [Act.put, put1, put2, put3]
    refine tkY 2 (.pointer (some ⟨G, 1, none⟩)) 23 rfl rfl (fun w' hw' => ?_) hHeld ?_
    ·go_simp
    try simp only [Act.put, put1, put2, put3]
    refine wpAnyH_ready (rs := [1, 3]) (by kernel_rfl) (by simp) ?_
    refine AllReadyH.cons rfl (fun K hK => ?_) (AllReadyH.cons rfl (fun K hK => ?_) AllReadyH.nil)
    ·skip
     go_simp
     refine hK.out _ _ (trivial) (fun hHeld => ?_)
     clear hK K
     try simp only [Act.put, put1, put2, put3]
     refine wpAnyH_ready (rs := [3]) (by kernel_rfl) (by simp) ?_
     refine AllReadyH.cons rfl (fun K hK => ?_) AllReadyH.nil
     go_simp
     refine hK.out _ _ (trivial) (fun hHeld => ?_)
     clear hK K
     try simp only [Act.put, put1, put2, put3]
     refine tkY 4 (.pointer (some ⟨gq, 0, none⟩)) 25 rfl rfl (fun w' hw' => ?_) hHeld ?_
     ·go_simp
     try simp only [Act.put, put1, put2, put3]
     refine wpAnyH_ready (rs := [5]) (by kernel_rfl) (by simp) ?_
     refine AllReadyH.cons rfl (fun K hK => ?_) AllReadyH.nil
     go_simp
     refine hK.out _ _ (trivial) (fun hHeld => ?_)
     clear hK K
     try simp only [Act.put, put1, put2, put3]
     refine wpAnyH_ready (rs := [6]) (by kernel_rfl) (by simp) ?_
     refine AllReadyH.cons rfl (fun K hK => ?_) AllReadyH.nil
     go_simp
     refine hK.out _ _ (trivial) (fun hHeld => ?_)
     clear hK K
     try simp only [Act.put, put1, put2, put3]
     clear y0 y1 y2 y3 y4 y5 y6 y7 xf
     have xf := fun j => frozen_of_row _ G j _ _ (hb8)
     obtain ⟨y0, y1, y2, y3, y4, y5, y6, y7⟩ := cells8 (box_cells (hb8))
     refine wpAnyH_ready (rs := [7]) (by kernel_rfl) (by simp) ?_
     refine AllReadyH.cons rfl (fun K hK => ?_) AllReadyH.nil
     refine step_append_of rfl _ _ rfl rfl rfl r8 ?_
     refine hK.out _ _ (trivial) (fun hHeld => ?_)
     clear hK K
     try simp only [Act.put, put1, put2, put3]
     refine tkY 8 (.pointer (some ⟨G, 1, none⟩)) 29 rfl rfl (fun w' hw' => ?_) hHeld ?_
     ·go_simp
     try simp only [Act.put, put1, put2, put3]
     refine wpAnyH_ready (rs := [9]) (by kernel_rfl) (by simp) ?_
     refine AllReadyH.cons rfl (fun K hK => ?_) AllReadyH.nil
     go_simp
     refine hK.out _ _ (trivial) (fun hHeld => ?_)
     clear hK K
     try simp only [Act.put, put1, put2, put3]
     refine wpAnyH_done (by kernel_rfl) ?_ _
     go_wp2_with fail
     go_roundw
     case rel => exact ⟨_, _, H8.out⟩
     case measure => exact hM
    ·skip
     go_simp
     refine hK.out _ _ (trivial) (fun hHeld => ?_)
     clear hK K
     try simp only [Act.put, put1, put2, put3]
     refine tkY 4 (.pointer (some ⟨gq, 0, none⟩)) 25 rfl rfl (fun w' hw' => ?_) hHeld ?_
     ·go_simp
     try simp only [Act.put, put1, put2, put3]
     refine wpAnyH_ready (rs := [1, 5]) (by kernel_rfl) (by simp) ?_
     refine AllReadyH.cons rfl (fun K hK => ?_) (AllReadyH.cons rfl (fun K hK => ?_) AllReadyH.nil)
     ·skip
      go_simp
      refine hK.out _ _ (trivial) (fun hHeld => ?_)
      clear hK K
      try simp only [Act.put, put1, put2, put3]
      refine wpAnyH_ready (rs := [5]) (by kernel_rfl) (by simp) ?_
      refine AllReadyH.cons rfl (fun K hK => ?_) AllReadyH.nil
      go_simp
      refine hK.out _ _ (trivial) (fun hHeld => ?_)
      clear hK K
      try simp only [Act.put, put1, put2, put3]
      refine wpAnyH_ready (rs := [6]) (by kernel_rfl) (by simp) ?_
      refine AllReadyH.cons rfl (fun K hK => ?_) AllReadyH.nil
      go_simp
      refine hK.out _ _ (trivial) (fun hHeld => ?_)
      clear hK K
      try simp only [Act.put, put1, put2, put3]
      clear y0 y1 y2 y3 y4 y5 y6 y7 xf
      have xf := fun j => frozen_of_row _ G j _ _ (hb8)
      obtain ⟨y0, y1, y2, y3, y4, y5, y6, y7⟩ := cells8 (box_cells (hb8))
      refine wpAnyH_ready (rs := [7]) (by kernel_rfl) (by simp) ?_
      refine AllReadyH.cons rfl (fun K hK => ?_) AllReadyH.nil
      refine step_append_of rfl _ _ rfl rfl rfl r8 ?_
      refine hK.out _ _ (trivial) (fun hHeld => ?_)
      clear hK K
      try simp only [Act.put, put1, put2, put3]
      refine tkY 8 (.pointer (some ⟨G, 1, none⟩)) 29 rfl rfl (fun w' hw' => ?_) hHeld ?_
      ·go_simp
      try simp only [Act.put, put1, put2, put3]
      refine wpAnyH_ready (rs := [9]) (by kernel_rfl) (by simp) ?_
      refine AllReadyH.cons rfl (fun K hK => ?_) AllReadyH.nil
      go_simp
      refine hK.out _ _ (trivial) (fun hHeld => ?_)
      clear hK K
      try simp only [Act.put, put1, put2, put3]
      refine wpAnyH_done (by kernel_rfl) ?_ _
      go_wp2_with fail
      go_roundw
      case rel => exact ⟨_, _, H8.out⟩
      case measure => exact hM
     ·skip
      go_simp
      refine hK.out _ _ (trivial) (fun hHeld => ?_)
      clear hK K
      try simp only [Act.put, put1, put2, put3]
      refine wpAnyH_ready (rs := [1, 6]) (by kernel_rfl) (by simp) ?_
      refine AllReadyH.cons rfl (fun K hK => ?_) (AllReadyH.cons rfl (fun K hK => ?_) AllReadyH.nil)
      ·skip
       go_simp
       refine hK.out _ _ (trivial) (fun hHeld => ?_)
       clear hK K
       try simp only [Act.put, put1, put2, put3]
       refine wpAnyH_ready (rs := [6]) (by kernel_rfl) (by simp) ?_
       refine AllReadyH.cons rfl (fun K hK => ?_) AllReadyH.nil
       go_simp
       refine hK.out _ _ (trivial) (fun hHeld => ?_)
       clear hK K
       try simp only [Act.put, put1, put2, put3]
       clear y0 y1 y2 y3 y4 y5 y6 y7 xf
       have xf := fun j => frozen_of_row _ G j _ _ (hb8)
       obtain ⟨y0, y1, y2, y3, y4, y5, y6, y7⟩ := cells8 (box_cells (hb8))
       refine wpAnyH_ready (rs := [7]) (by kernel_rfl) (by simp) ?_
       refine AllReadyH.cons rfl (fun K hK => ?_) AllReadyH.nil
       refine step_append_of rfl _ _ rfl rfl rfl r8 ?_
       refine hK.out _ _ (trivial) (fun hHeld => ?_)
       clear hK K
       try simp only [Act.put, put1, put2, put3]
       refine tkY 8 (.pointer (some ⟨G, 1, none⟩)) 29 rfl rfl (fun w' hw' => ?_) hHeld ?_
       ·go_simp
       try simp only [Act.put, put1, put2, put3]
       refine wpAnyH_ready (rs := [9]) (by kernel_rfl) (by simp) ?_
       refine AllReadyH.cons rfl (fun K hK => ?_) AllReadyH.nil
       go_simp
       refine hK.out _ _ (trivial) (fun hHeld => ?_)
       clear hK K
       try simp only [Act.put, put1, put2, put3]
       refine wpAnyH_done (by kernel_rfl) ?_ _
       go_wp2_with fail
       go_roundw
       case rel => exact ⟨_, _, H8.out⟩
       case measure => exact hM
      ·skip
       go_simp
       refine hK.out _ _ (trivial) (fun hHeld => ?_)
       clear hK K
       try simp only [Act.put, put1, put2, put3]
       refine wpAnyH_ready (rs := [1]) (by kernel_rfl) (by simp) ?_
       refine AllReadyH.cons rfl (fun K hK => ?_) AllReadyH.nil
       go_simp
       refine hK.out _ _ (trivial) (fun hHeld => ?_)
       clear hK K
       try simp only [Act.put, put1, put2, put3]
       clear y0 y1 y2 y3 y4 y5 y6 y7 xf
       have xf := fun j => frozen_of_row _ G j _ _ (hb8)
       obtain ⟨y0, y1, y2, y3, y4, y5, y6, y7⟩ := cells8 (box_cells (hb8))
       refine wpAnyH_ready (rs := [7]) (by kernel_rfl) (by simp) ?_
       refine AllReadyH.cons rfl (fun K hK => ?_) AllReadyH.nil
       refine step_append_of rfl _ _ rfl rfl rfl r8 ?_
       refine hK.out _ _ (trivial) (fun hHeld => ?_)
       clear hK K
       try simp only [Act.put, put1, put2, put3]
       refine tkY 8 (.pointer (some ⟨G, 1, none⟩)) 29 rfl rfl (fun w' hw' => ?_) hHeld ?_
       ·go_simp
       try simp only [Act.put, put1, put2, put3]
       refine wpAnyH_ready (rs := [9]) (by kernel_rfl) (by simp) ?_
       refine AllReadyH.cons rfl (fun K hK => ?_) AllReadyH.nil
       go_simp
       refine hK.out _ _ (trivial) (fun hHeld => ?_)
       clear hK K
       try simp only [Act.put, put1, put2, put3]
       refine wpAnyH_done (by kernel_rfl) ?_ _
       go_wp2_with fail
       go_roundw
       case rel => exact ⟨_, _, H8.out⟩
       case measure => exact hM
   ·have hlti : (59 : Int) ≤ (q.rules.length : Int) := by omega
    go_upto_region 6 with fail
    clear hO hfx hone hL hml u0 u1 u2 u3 u4 y0 y1 y2 y3 y4 y5 y6 y7 xf
    obtain ⟨bx, p2, h3⟩ : ∃ bx p2, FD w w1.heap.size G wr bx p2 := ⟨_, _, hF⟩
    clear hF
    have hR3 := h3.lent.rd
    obtain ⟨b0, b1, b2, b3, b4, b5, b6, b7, rfl⟩ := list8 (Rd.len hR3)
    have l1 := Rd.one hR3
    obtain ⟨v0, v1, v2, v3, v4, v5, v6, v7⟩ := cells8 (box_cells h3.res)
    obtain ⟨w0, w1', w2', w3', w4', w5', w6', w7'⟩ := cells8 (box_cells h3.box)
    have vf := fun j => frozen_of_row wr w.heap.size j _ _ h3.res
    have st0 := sto Tryz.prog (l1 b0 (by simp))
    have st1 := sto Tryz.prog (l1 b1 (by simp))
    have st2 := sto Tryz.prog (l1 b2 (by simp))
    have st3 := sto Tryz.prog (l1 b3 (by simp))
    have st4 := sto Tryz.prog (l1 b4 (by simp))
    have st5 := sto Tryz.prog (l1 b5 (by simp))
    have st6 := sto Tryz.prog (l1 b6 (by simp))
    have st7 := sto Tryz.prog (l1 b7 (by simp))
    have hk := fun u0 u1 u2 u3 u4 u5 u6 u7 => res_cg8 wr w.heap.size u0 u1 u2 u3 u4 u5 u6 u7
    have hlG := h3.lt
    have hln : (w.heap.size : Nat) < (wr).heap.size := block_lt h3.res
    have hLL := Lib.hid h3.lent
    have hBL := Lib.hid h3.bel
    go_wp2
    exact bodyPost_ret (v := .agg #[b0, b1, b2, b3, b4, b5, b6, b7]) (by first | (simp [results, Tryz.results42, go_sem, v0, v1, v2, v3, v4, v5, v6, v7]; done) | (simp [results, Tryz.results42, go_sem, v0, v1, v2, v3, v4, v5, v6, v7]; omega)) rfl
     ⟨[b0, b1, b2, b3, b4, b5, b6, b7], _, rfl, (hLL.out.cg ((hk _ _ _ _ _ _ _ _).more fun g _ hg => .inl (by omega))).rd, by
      have k := hk b0 b1 b2 b3 b4 b5 b6 b7
      exact ⟨k.os.trans hBL.out.os, k.tape.trans hBL.out.tape, k.output.trans hBL.out.output, Nat.le_trans hBL.out.size k.size, fun x hx => (k.block x (Nat.lt_of_lt_of_le hx hBL.out.size) (by omega)).trans (hBL.out.block x hx)⟩⟩
end Go.Proofs.YthfbnalgnnjbbaaGreat
