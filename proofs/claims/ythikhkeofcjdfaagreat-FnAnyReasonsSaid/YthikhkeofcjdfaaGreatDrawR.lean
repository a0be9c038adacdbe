/-
 A drawn rule. No condition of its own.
-/
import Derived.Test.YthikhkeofcjdfaaGreatCg
import Derived.Test.YthikhkeofcjdfaaGreatBody
import Derived.StillTailTactics
import Derived.Deep.RegionHeld3
import Derived.Deep.RegionWith
import Derived.Deep.CutRange
import Derived.Deep.CutBlock
import Derived.Deep.DeepCutAuto
namespace Go.Proofs.YthikhkeofcjdfaaGreat
set_option linter.unusedVariables false
set_option linter.unusedSimpArgs false
open Go.RowKit
set_option maxRecDepth 100000

/-- A rule's box. -/
def RB (w : World) (g : Nat) (ch : Bool) (v1 : Value) (wt : Bool) (bd : Int) (v4 : Value) : Prop := w.heap[g]? = some (.cells #[.bool ch, v1, .bool wt, .int .i64 bd, v4] 34 (0, 0))
section
variable {w w' : World} {g : Nat} {ch wt : Bool} {bd : Int} {v1 v4 : Value}
theorem RB.lt (h : RB w g ch v1 wt bd v4) : g < w.heap.size := block_lt h
theorem RB.cells (h : RB w g ch v1 wt bd v4) : w.cell? ⟨g, 0, none⟩ = some (.bool ch) ∧ w.cell? ⟨g, 1, none⟩ = some v1 ∧ w.cell? ⟨g, 2, none⟩ = some (.bool wt) ∧ w.cell? ⟨g, 3, none⟩ = some (.int .i64 bd) ∧ w.cell? ⟨g, 4, none⟩ = some v4 ∧ ∀ j, w.frozen? ⟨g, j, none⟩ = false := by
 obtain ⟨a, b, c, d, e⟩ := cells5 (box_cells (cs := [.bool ch, v1, .bool wt, .int .i64 bd, v4]) h)
 exact ⟨a, b, c, d, e, fun j => frozen_of_row w g j _ _ h⟩
theorem RB.cg (h : RB w g ch v1 wt bd v4) {S : Nat → Prop} (hg : Cg S w w') (hs : ¬ S g) : RB w' g ch v1 wt bd v4 := hg.at h hs
theorem RB.set0 (h : RB w g ch v1 wt bd v4) (x : Bool) : RB (w.setCell ⟨g, 0, none⟩ (.bool x)) g x v1 wt bd v4 := box_set (cs := [.bool ch, v1, .bool wt, .int .i64 bd, v4]) (i := 0) h _
theorem RB.set1 (h : RB w g ch v1 wt bd v4) (x : Value) : RB (w.setCell ⟨g, 1, none⟩ x) g ch x wt bd v4 := box_set (cs := [.bool ch, v1, .bool wt, .int .i64 bd, v4]) (i := 1) h _
theorem RB.set2 (h : RB w g ch v1 wt bd v4) (x : Bool) : RB (w.setCell ⟨g, 2, none⟩ (.bool x)) g ch v1 x bd v4 := box_set (cs := [.bool ch, v1, .bool wt, .int .i64 bd, v4]) (i := 2) h _
theorem RB.set3 (h : RB w g ch v1 wt bd v4) (x : Int) : RB (w.setCell ⟨g, 3, none⟩ (.int .i64 x)) g ch v1 wt x v4 := box_set (cs := [.bool ch, v1, .bool wt, .int .i64 bd, v4]) (i := 3) h _
theorem RB.set4 (h : RB w g ch v1 wt bd v4) (x : Value) : RB (w.setCell ⟨g, 4, none⟩ x) g ch v1 wt bd x := box_set (cs := [.bool ch, v1, .bool wt, .int .i64 bd, v4]) (i := 4) h _
end

/-- Between w and now: only the cursor c and what is new has been written. -/
abbrev New (c : Nat) (w : World) (g : Nat) : Prop := g = c ∨ w.heap.size ≤ g
/-- A rule that is small. -/
def SmR (r : RuleD) : Prop := r.heads.length ≤ 30 ∧ r.body.length ≤ 30
/-- The heads of a rule that is being drawn. -/
structure HS (w : World) (c N : Nat) (wz : World) (ch : Bool) (v1 : Value) (hs : List Int) : Prop where
 res : RB wz w.heap.size false (.slice none 0 0) false 0 (.slice none 0 0)
 box : RB wz (w.heap.size + 1) ch v1 false 0 (.slice none 0 0)
 own : OwnI (w.heap.size + 2) wz v1 hs
 len : hs.length ≤ 30
 cur : Cur wz c N
 cg : Cg (New c w) w wz
section
variable {w wz w2 : World} {c N N' : Nat} {ch : Bool} {v1 : Value} {hs : List Int}
theorem HS.mono (h : HS w c N wz ch v1 hs) (hN : N ≤ N') : HS w c N' wz ch v1 hs := ⟨h.res, h.box, h.own, h.len, h.cur.mono hN, h.cg⟩
theorem HS.pick (h : HS w c N wz ch v1 hs) (hc : c < w.heap.size) (hw : Wrote c wz w2) (hcur : Cur w2 c N') : HS w c N' w2 ch v1 hs :=
 ⟨h.res.cg (Cg.wrote (S := fun g => g = c) hw rfl) (by omega), h.box.cg (Cg.wrote (S := fun g => g = c) hw rfl) (by omega),
  h.own.cg (Cg.wrote (S := fun g => g = c) hw rfl) (fun g hg => by omega), h.len, hcur, h.cg.trans (Cg.wrote hw (.inl rfl))⟩
theorem HS.set0 (h : HS w c N wz ch v1 hs) (hc : c < w.heap.size) (x : Bool) : HS w c N (wz.setCell ⟨w.heap.size + 1, 0, none⟩ (.bool x)) x v1 hs := by
 have k : Cg (fun g => g = w.heap.size + 1) wz (wz.setCell ⟨w.heap.size + 1, 0, none⟩ (.bool x)) := (Cg.refl _ _).set 0 _ rfl
 exact ⟨h.res.cg k (by omega), h.box.set0 x, h.own.cg k (fun g hg => by omega), h.len, h.cur.cg (k.more fun g _ hg => by omega), h.cg.trans (k.more fun g _ hg => .inr (by omega))⟩
theorem HS.put1 (h : HS w c N wz ch v1 hs) (hc : c < w.heap.size) {v' : Value} {hs' : List Int} (hb : Below (w.heap.size + 2) wz w2) (ho : OwnI (w.heap.size + 2) w2 v' hs') (hl : hs'.length ≤ 30) :
  HS w c N (w2.setCell ⟨w.heap.size + 1, 1, none⟩ v') ch v' hs' := by
 have b : Cg (fun g => w.heap.size + 2 ≤ g) wz w2 := Cg.lo hb fun g _ hg => hg
 have k : Cg (fun g => g = w.heap.size + 1) w2 (w2.setCell ⟨w.heap.size + 1, 1, none⟩ v') := (Cg.refl _ _).set 1 _ rfl
 exact ⟨(h.res.cg b (by omega)).cg k (by omega), (h.box.cg b (by omega)).set1 v', ho.cg k (fun g hg => by omega), hl,
  (h.cur.cg (b.more fun g _ hg => by omega)).cg (k.more fun g _ hg => by omega), (h.cg.trans (b.more fun g _ hg => .inr (by omega))).trans (k.more fun g _ hg => .inr (by omega))⟩
end
theorem HS.start {w w1 : World} {c N : Nat} (hc : c < w.heap.size) (hw : Wrote c ((w.alloc (.cells #[.bool false, .slice none 0 0, .bool false, .int .i64 0, .slice none 0 0] 34)).alloc (.cells #[.bool false, .slice none 0 0, .bool false, .int .i64 0, .slice none 0 0] 34)) w1) (hcur : Cur w1 c N) :
  HS w c N w1 false (.slice none 0 0) [] := by
 have b0 := alloc_block w #[.bool false, .slice none 0 0, .bool false, .int .i64 0, .slice none 0 0] 34
 have b0 := (Below.heap_alloc (w.alloc (.cells #[.bool false, .slice none 0 0, .bool false, .int .i64 0, .slice none 0 0] 34)) (.cells #[.bool false, .slice none 0 0, .bool false, .int .i64 0, .slice none 0 0] 34) w.heap.size (by simp)).trans b0
 have b1 := alloc_block (w.alloc (.cells #[.bool false, .slice none 0 0, .bool false, .int .i64 0, .slice none 0 0] 34)) #[.bool false, .slice none 0 0, .bool false, .int .i64 0, .slice none 0 0] 34
 rw [World.size_alloc] at b1
 have k := Cg.wrote (S := fun g => g = c) hw rfl
 refine ⟨k.at b0 (by omega), k.at b1 (by omega), OwnI.nil _ _, by simp, hcur, ?_⟩
 exact (((Cg.refl (New c w) w).alloc _).alloc _).trans (k.more fun g _ hg => .inl hg)

theorem own_lit1 (w : World) (B : Nat) (hB : B ≤ w.heap.size) (n : Int) (hF : Fits n) : OwnI B (w.alloc (.cells #[.int .i64 n] 3)) (.slice (some ⟨w.heap.size, 0, none⟩) 1 1) [n] :=
 ⟨World.ownsRow_lit w #[.int .i64 n] 1 hB (by simp [maxLen]) (by simp), by simp, by simpa using hF⟩
theorem size_set (w : World) (p : Addr) (v : Value) : (w.setCell p v).heap.size = w.heap.size := by simp [World.setCell]
theorem HS.lit1 {w wz : World} {c N : Nat} {ch : Bool} {v1 : Value} {hs : List Int} (h : HS w c N wz ch v1 hs) (hc : c < w.heap.size) (n : Int) (hF : Fits n) :
  HS w c N ((wz.setCell ⟨w.heap.size + 1, 1, none⟩ (.slice (some ⟨wz.heap.size, 0, none⟩) 1 1)).alloc (.cells #[.int .i64 n] 3)) ch (.slice (some ⟨wz.heap.size, 0, none⟩) 1 1) [n] := by
 have hl := h.box.lt
 have k : Cg (fun g => g = w.heap.size + 1) wz ((wz.setCell ⟨w.heap.size + 1, 1, none⟩ (.slice (some ⟨wz.heap.size, 0, none⟩) 1 1)).alloc (.cells #[.int .i64 n] 3)) := Cg.alloc (S := fun g => g = w.heap.size + 1) (Cg.set (S := fun g => g = w.heap.size + 1) (Cg.refl _ _) 1 _ rfl) _
 have o := own_lit1 (wz.setCell ⟨w.heap.size + 1, 1, none⟩ (.slice (some ⟨wz.heap.size, 0, none⟩) 1 1)) (w.heap.size + 2) (by rw [size_set]; omega) n hF
 rw [size_set] at o
 exact ⟨h.res.cg k (by omega), (h.box.set1 _).cg (S := fun g => g = w.heap.size) ((Cg.refl _ _).alloc _) (by omega), o, by simp, h.cur.cg (k.more fun g _ hg => by omega), h.cg.trans (k.more fun g _ hg => .inr (by omega))⟩

/-- The body of a rule that is being drawn. -/
structure BS (w : World) (c N M : Nat) (wz : World) (ch : Bool) (v1 : Value) (hs : List Int) (wt : Bool) (bd : Int) (v4 : Value) (bs : List (Int × Int)) : Prop where
 res : RB wz w.heap.size false (.slice none 0 0) false 0 (.slice none 0 0)
 box : RB wz (w.heap.size + 1) ch v1 wt bd v4
 heads : OwnIn (w.heap.size + 2) M wz [v1] hs
 own : OwnD (α := Int × Int) M (fun f => M ≤ f) 94 wz v4 bs
 len : bs.length ≤ 30
 le : w.heap.size + 2 ≤ M ∧ M ≤ wz.heap.size
 cur : Cur wz c N
 cg : Cg (New c w) w wz
section
variable {w wz w2 : World} {c N N' M : Nat} {ch wt : Bool} {bd : Int} {v1 v4 : Value} {hs : List Int} {bs : List (Int × Int)}
theorem BS.mono (h : BS w c N M wz ch v1 hs wt bd v4 bs) (hN : N ≤ N') : BS w c N' M wz ch v1 hs wt bd v4 bs := ⟨h.res, h.box, h.heads, h.own, h.len, h.le, h.cur.mono hN, h.cg⟩
theorem BS.pick (h : BS w c N M wz ch v1 hs wt bd v4 bs) (hc : c < w.heap.size) (hw : Wrote c wz w2) (hcur : Cur w2 c N') : BS w c N' M w2 ch v1 hs wt bd v4 bs := by
 have k := Cg.wrote (S := fun g => g = c) hw rfl
 have hl := h.le
 exact ⟨h.res.cg k (by omega), h.box.cg k (by omega), h.heads.cg k (fun g h1 h2 e => by omega), h.own.cg k (fun g h1 e => by have h1 : M ≤ g := h1; omega), h.len, ⟨hl.1, Nat.le_trans hl.2 hw.size⟩, hcur, h.cg.trans (Cg.wrote hw (.inl rfl))⟩
theorem BS.put4 (h : BS w c N M wz ch v1 hs wt bd v4 bs) (hc : c < w.heap.size) {v' : Value} {bs' : List (Int × Int)} (hb : Below M wz w2) (ho : OwnD (α := Int × Int) M (fun f => M ≤ f) 94 w2 v' bs') (hl : bs'.length ≤ 30) :
  BS w c N M (w2.setCell ⟨w.heap.size + 1, 4, none⟩ v') ch v1 hs wt bd v' bs' := by
 have hle := h.le
 have b : Cg (fun g => M ≤ g) wz w2 := Cg.lo hb fun g _ hg => hg
 have k : Cg (fun g => g = w.heap.size + 1) w2 (w2.setCell ⟨w.heap.size + 1, 4, none⟩ v') := (Cg.refl _ _).set 4 _ rfl
 exact ⟨(h.res.cg b (by omega)).cg k (by omega), (h.box.cg b (by omega)).set4 v', (h.heads.cg b (fun g h1 h2 e => by have e : M ≤ g := e; omega)).cg k (fun g h1 h2 e => by omega), ho.cg k (fun g h1 e => by have h1 : M ≤ g := h1; omega), hl,
  ⟨hle.1, by have := b.size; have := k.size; omega⟩, (h.cur.cg (b.more fun g _ hg => by omega)).cg (k.more fun g _ hg => by omega), (h.cg.trans (b.more fun g _ hg => .inr (by omega))).trans (k.more fun g _ hg => .inr (by omega))⟩
theorem BS.set3 (h : BS w c N M wz ch v1 hs wt bd v4 bs) (hc : c < w.heap.size) (x : Int) : BS w c N M (wz.setCell ⟨w.heap.size + 1, 3, none⟩ (.int .i64 x)) ch v1 hs wt x v4 bs := by
 have hle := h.le
 have k : Cg (fun g => g = w.heap.size + 1) wz (wz.setCell ⟨w.heap.size + 1, 3, none⟩ (.int .i64 x)) := (Cg.refl _ _).set 3 _ rfl
 exact ⟨h.res.cg k (by omega), h.box.set3 x, h.heads.cg k (fun g h1 h2 e => by omega), h.own.cg k (fun g h1 e => by have h1 : M ≤ g := h1; omega), h.len, ⟨hle.1, Nat.le_trans hle.2 k.size⟩,
  h.cur.cg (k.more fun g _ hg => by omega), h.cg.trans (k.more fun g _ hg => .inr (by omega))⟩
theorem HS.body (h : HS w c N wz ch v1 hs) (hc : c < w.heap.size) (x : Bool) : BS w c N wz.heap.size (wz.setCell ⟨w.heap.size + 1, 2, none⟩ (.bool x)) ch v1 hs x 0 (.slice none 0 0) [] := by
 have hl := h.box.lt
 have k : Cg (fun g => g = w.heap.size + 1) wz (wz.setCell ⟨w.heap.size + 1, 2, none⟩ (.bool x)) := (Cg.refl _ _).set 2 _ rfl
 exact ⟨h.res.cg k (by omega), h.box.set2 x, h.own.own.shut.cg k (fun g h1 h2 e => by omega), OwnD.start (World.ownsRow_nil _ _ _ _) (fun g hg => by simp [Value.ownBlock] at hg), by simp, ⟨by omega, k.size⟩,
  h.cur.cg (k.more fun g _ hg => by omega), h.cg.trans (k.more fun g _ hg => .inr (by omega))⟩
theorem BS.done (h : BS w c N M wz ch v1 hs wt bd v4 bs) (hf : Fits bd) : Own (α := RuleD) (w.heap.size + 2) wz [.bool ch, v1, .bool wt, .int .i64 bd, v4] ⟨ch, hs, wt, bd, bs⟩ := by
 obtain ⟨fp, o4, l4⟩ := h.own.own
 have hlt := fun g hg => Ow.lt (α := List (Int × Int)) o4 g hg
 exact own_rule (x := ⟨ch, hs, wt, bd, bs⟩) h.heads (c := M) (d := wz.heap.size) ⟨fp, o4, fun g hg => ⟨l4 g hg, hlt g hg⟩⟩ (Nat.le_refl _) (Nat.le_refl _) h.le.1 hf
end
theorem info_wlit : (Tryz.prog.info? 94).map (fun i => (i.zero, i.size, i.bytes)) = some (some (.agg #[.int .i64 0, .int .i64 0]), 2, 16) := by kernel_rfl

theorem res_cg (w : World) (g : Nat) (u0 u1 u2 u3 u4 : Value) : Cg (fun b => b = g) w (((((w.setCell ⟨g, 0, none⟩ u0).setCell ⟨g, 1, none⟩ u1).setCell ⟨g, 2, none⟩ u2).setCell ⟨g, 3, none⟩ u3).setCell ⟨g, 4, none⟩ u4) :=
 ((((((Cg.refl (fun b => b = g) w).set 0 u0 (show g = g from rfl)).set 1 u1 (show g = g from rfl)).set 2 u2 (show g = g from rfl)).set 3 u3 (show g = g from rfl)).set 4 u4 (show g = g from rfl))
set_option maxHeartbeats 4000000 in
theorem rule_calls (c N : Nat) (n : Int) (w : World) (h : Cur w c N) (hN : N ≤ 10000000) (hn : 2 ≤ n ∧ n ≤ 20) :
  Calls Tryz.prog 223 #[.pointer (some ⟨c, 0, none⟩), .int .i64 n] w fun e w' => ∃ cs r, e = .returned (.agg (List.toArray cs)) ∧ Own (α := RuleD) w.heap.size w' cs r ∧ Cur w' c (N + 200) ∧ Wrote c w w' ∧ SmR r := by
 obtain ⟨i2, hi2, hz20, hz21, hz22⟩ := info_parts info_wlit
 have hcw := h.lt
 have hcA := (h.kept ((Below.refl w.heap.size w).alloc (Nat.le_refl _) (.cells #[.bool false, .slice none 0 0, .bool false, .int .i64 0, .slice none 0 0] 34)))
 have hcA := hcA.kept ((Below.refl _ (w.alloc (.cells #[.bool false, .slice none 0 0, .bool false, .int .i64 0, .slice none 0 0] 34))).alloc (Nat.le_refl _) (.cells #[.bool false, .slice none 0 0, .bool false, .int .i64 0, .slice none 0 0] 34))
 obtain ⟨hn2, hn20⟩ := hn
 obtain ⟨m, rfl⟩ := Int.eq_ofNat_of_zero_le (show 0 ≤ n by omega)
 go_enter Tryz.func223, Tryz.ntmps223
 go_upto_block 0 with (go_at_call 62; refine (pick_calls c N 8 _ hcA (by omega) ⟨by omega, by omega⟩).mono ?_; rintro e w1 ⟨r, ⟨hr0, hr1, _⟩, rfl, hc, hw⟩)
 have hr1 := hr1 (by omega)
 have h1 := HS.start hcw hw hc
 clear hcA hc hw
 go_cut [5] (fun p wz => p = .pointer (some ⟨w.heap.size + 1, 0, none⟩) ∧ ∃ ch v1 hs, HS w c (N + 50) wz ch v1 hs)
 case first =>
  obtain ⟨x0, x1, x2, x3, x4, xf⟩ := h1.box.cells
  by_cases e0 : r = 0
  ·subst e0
   go_wp2_with fail
   go_meet
   exact ⟨rfl, _, _, _, h1.mono (N' := N + 50) (by omega)⟩
  have eb0 : (r == 0) = false := by simpa using e0
  by_cases e1 : r = 1
  ·subst e1
   have h2 := h1.set0 hcw true
   go_wp2_with fail
   obtain ⟨wb, hwb⟩ : ∃ wb, wb = w1.setCell ⟨w.heap.size + 1, 0, none⟩ (.bool true) := ⟨_, rfl⟩
   rw [← hwb] at h2 ⊢
   clear hwb x0 x1 x2 x3 x4 xf h1
   go_loopw [6] (fun i wr => ∃ (k : Nat) (v1 : Value) (hs : List Int), k ≤ m ∧ i = .int .i64 ((k : Int) + 1) ∧ hs.length ≤ k ∧ HS w c (N + 1 + k) wr true v1 hs) (fun i _ => m + 1 - (intOf i).toNat)
   case atStart => exact ⟨0, _, [], Nat.zero_le _, rfl, by simp, h2⟩
   case round =>
    obtain ⟨k, v1, hs, hk, rfl, hlen, hst⟩ := hrel
    clear h2
    by_cases hlt : k < m
    ·have hF := fits_small' (n := (k : Int) + 1) (by omega) (by omega)
     go_wp2_with fail
     refine (pick_calls c (N + 1 + k) 3 wr hst.cur (by omega) ⟨by omega, by omega⟩).mono ?_
     rintro e w2 ⟨s, ⟨hs0, hs1, _⟩, rfl, hc2, hw2⟩
     have hs1 := hs1 (by omega)
     have h3 := hst.pick hcw hw2 hc2
     by_cases ez : s = 0
     ·subst ez
      obtain ⟨y0, y1, y2, y3, y4, yf⟩ := h3.box.cells
      have hle := h3.box.lt
      go_wp2_with (at_builtin; refine wpList_append_int rfl _ _ rfl rfl h3.own rfl (by omega) hF (by omega) ?_; intro v' w' ho' hb' hg'; obtain ⟨a9, n9, rfl, _, _⟩ := ho'.open; obtain ⟨q0, q1, q2, q3, q4, qf⟩ := (h3.box.cg (Cg.lo (S := fun g => w.heap.size + 2 ≤ g) hb' fun g _ hg => hg) (by omega)).cells)
      go_roundw
      case rel => exact ⟨k + 1, _, hs ++ [(k : Int) + 1], by omega, by go_num, by simp; omega, by have h9 := (h3.put1 hcw hb' ho' (by simp; omega)).mono (N' := N + 1 + (k + 1)) (by omega); rw [List.length_append] at h9; exact h9⟩
      case measure => simp [intOf]; omega
     ·have eb0 : (s == 0) = false := by simpa using ez
      go_wp2
      go_roundw
      case rel => exact ⟨k + 1, v1, hs, by omega, by go_num, by omega, h3.mono (N' := N + 1 + (k + 1)) (by omega)⟩
      case measure => simp [intOf]; omega
    ·obtain rfl : k = m := by omega
     obtain ⟨p1, q1, rfl, _, _⟩ := hst.own.open
     obtain ⟨y0, y1, y2, y3, y4, yf⟩ := hst.box.cells
     by_cases hz : hs.length = 0
     ·have hz' : ((hs.length : Int) == 0) = true := by simpa using hz
      have hz2 : (hs.length : Int) = 0 := by omega
      go_wp2_with fail
      refine (pick_calls c (N + 1 + k) (k : Int) wr hst.cur (by omega) ⟨by omega, by omega⟩).mono ?_
      rintro e w2 ⟨s, ⟨hs0, hs1, _⟩, rfl, hc2, hw2⟩
      have hs1 := hs1 (by omega)
      have h3 := hst.pick hcw hw2 hc2
      have h4 := h3.lit1 hcw (1 + s) ⟨by omega, by omega⟩
      clear y0 y1 y2 y3 y4 yf
      obtain ⟨y0, y1, y2, y3, y4, yf⟩ := h3.box.cells
      have hle := h3.box.lt
      have yf1 := yf 1
      go_wp2_with fail
      go_meet
      exact ⟨rfl, _, _, _, h4.mono (N' := N + 50) (by omega)⟩
     ·have hz' : ((hs.length : Int) == 0) = false := by simpa using hz
      go_wp2_with fail
      go_meet
      exact ⟨rfl, _, _, _, hst.mono (N' := N + 50) (by omega)⟩
  have eb1 : (r == 1) = false := by simpa using e1
  by_cases e2 : r = 2
  ·subst e2
   have h2 := h1.set0 hcw true
   go_wp2_with fail
   obtain ⟨wb, hwb⟩ : ∃ wb, wb = w1.setCell ⟨w.heap.size + 1, 0, none⟩ (.bool true) := ⟨_, rfl⟩
   rw [← hwb] at h2 ⊢
   clear hwb x0 x1 x2 x3 x4 xf h1
   go_loopw [6] (fun i wr => ∃ (k : Nat) (v1 : Value) (hs : List Int), k ≤ m ∧ i = .int .i64 ((k : Int) + 1) ∧ hs.length ≤ k ∧ HS w c (N + 1 + k) wr true v1 hs) (fun i _ => m + 1 - (intOf i).toNat)
   case atStart => exact ⟨0, _, [], Nat.zero_le _, rfl, by simp, h2⟩
   case round =>
    obtain ⟨k, v1, hs, hk, rfl, hlen, hst⟩ := hrel
    clear h2
    by_cases hlt : k < m
    ·have hF := fits_small' (n := (k : Int) + 1) (by omega) (by omega)
     go_wp2_with fail
     refine (pick_calls c (N + 1 + k) 3 wr hst.cur (by omega) ⟨by omega, by omega⟩).mono ?_
     rintro e w2 ⟨s, ⟨hs0, hs1, _⟩, rfl, hc2, hw2⟩
     have hs1 := hs1 (by omega)
     have h3 := hst.pick hcw hw2 hc2
     by_cases ez : s = 0
     ·subst ez
      obtain ⟨y0, y1, y2, y3, y4, yf⟩ := h3.box.cells
      have hle := h3.box.lt
      go_wp2_with (at_builtin; refine wpList_append_int rfl _ _ rfl rfl h3.own rfl (by omega) hF (by omega) ?_; intro v' w' ho' hb' hg'; obtain ⟨a9, n9, rfl, _, _⟩ := ho'.open; obtain ⟨q0, q1, q2, q3, q4, qf⟩ := (h3.box.cg (Cg.lo (S := fun g => w.heap.size + 2 ≤ g) hb' fun g _ hg => hg) (by omega)).cells)
      go_roundw
      case rel => exact ⟨k + 1, _, hs ++ [(k : Int) + 1], by omega, by go_num, by simp; omega, by have h9 := (h3.put1 hcw hb' ho' (by simp; omega)).mono (N' := N + 1 + (k + 1)) (by omega); rw [List.length_append] at h9; exact h9⟩
      case measure => simp [intOf]; omega
     ·have eb0 : (s == 0) = false := by simpa using ez
      go_wp2
      go_roundw
      case rel => exact ⟨k + 1, v1, hs, by omega, by go_num, by omega, h3.mono (N' := N + 1 + (k + 1)) (by omega)⟩
      case measure => simp [intOf]; omega
    ·obtain rfl : k = m := by omega
     obtain ⟨p1, q1, rfl, _, _⟩ := hst.own.open
     obtain ⟨y0, y1, y2, y3, y4, yf⟩ := hst.box.cells
     by_cases hz : hs.length = 0
     ·have hz' : ((hs.length : Int) == 0) = true := by simpa using hz
      have hz2 : (hs.length : Int) = 0 := by omega
      go_wp2_with fail
      refine (pick_calls c (N + 1 + k) (k : Int) wr hst.cur (by omega) ⟨by omega, by omega⟩).mono ?_
      rintro e w2 ⟨s, ⟨hs0, hs1, _⟩, rfl, hc2, hw2⟩
      have hs1 := hs1 (by omega)
      have h3 := hst.pick hcw hw2 hc2
      have h4 := h3.lit1 hcw (1 + s) ⟨by omega, by omega⟩
      clear y0 y1 y2 y3 y4 yf
      obtain ⟨y0, y1, y2, y3, y4, yf⟩ := h3.box.cells
      have hle := h3.box.lt
      have yf1 := yf 1
      go_wp2_with fail
      go_meet
      exact ⟨rfl, _, _, _, h4.mono (N' := N + 50) (by omega)⟩
     ·have hz' : ((hs.length : Int) == 0) = false := by simpa using hz
      go_wp2_with fail
      go_meet
      exact ⟨rfl, _, _, _, hst.mono (N' := N + 50) (by omega)⟩
  have eb2 : (r == 2) = false := by simpa using e2
  go_wp2_with fail
  refine (pick_calls c (N + 1) (m : Int) w1 h1.cur (by omega) ⟨by omega, by omega⟩).mono ?_
  rintro e w2 ⟨s, ⟨hs0, hs1, _⟩, rfl, hc2, hw2⟩
  have hs1 := hs1 (by omega)
  have h3 := h1.pick hcw hw2 hc2
  have h4 := h3.lit1 hcw (1 + s) ⟨by omega, by omega⟩
  clear x0 x1 x2 x3 x4 xf
  obtain ⟨y0, y1, y2, y3, y4, yf⟩ := h3.box.cells
  have hle := h3.box.lt
  have yf1 := yf 1
  go_wp2_with fail
  go_meet
  exact ⟨rfl, _, _, _, h4.mono (N' := N + 50) (by omega)⟩
 case rest =>
  obtain ⟨rfl, ch, v1, hs, hst⟩ := hcut
  obtain ⟨p1, q1, rfl, _, _⟩ := hst.own.open
  clear h1 h
  have HHL := Lib.hid hst.len
  go_upto_if 54 with (go_at_call 62; refine (pick_calls c (N + 50) 4 _ hst.cur (by omega) ⟨by omega, by omega⟩).mono ?_; rintro e w2 ⟨s, ⟨hs0, hs1, _⟩, rfl, hc2, hw2⟩; obtain ⟨y0, y1, y2, y3, y4, yf⟩ := (hst.pick hcw hw2 hc2).box.cells)
  have hs1 := hs1 (by omega)
  have h3 := hst.pick hcw hw2 hc2
  go_cut [5, 7] (fun p mn wz => p = .pointer (some ⟨w.heap.size + 1, 0, none⟩) ∧ ∃ k : Nat, k ≤ 10 ∧ mn = .int .i64 (k : Int) ∧ HS w c (N + 60) wz ch (.slice p1 hs.length q1) hs)
  case first =>
   obtain ⟨y0, y1, y2, y3, y4, yf⟩ := h3.box.cells
   obtain ⟨t, rfl⟩ := Int.eq_ofNat_of_zero_le hs0
   by_cases hz : hs.length = 0
   ·have hz' : ((hs.length : Int) == 0) = true := by simpa using hz
    have hz2 : (hs.length : Int) = 0 := by omega
    clear hst
    go_wp2_with fail
    refine (pick_calls c (N + 51) 3 _ h3.cur (by omega) ⟨by omega, by omega⟩).mono ?_
    rintro e w4 ⟨u, ⟨hu0, hu1, _⟩, rfl, hc4, hw4⟩
    have hu1 := hu1 (by omega)
    have h5 := h3.pick hcw hw4 hc4
    obtain ⟨u, rfl⟩ := Int.eq_ofNat_of_zero_le hu0
    go_wp2_with fail
    go_meet
    exact ⟨rfl, 1 + u, by omega, by go_num, h5.mono (N' := N + 60) (by omega)⟩
   ·have hz' : ((hs.length : Int) == 0) = false := by simpa using hz
    go_wp2_with fail
    go_meet
    exact ⟨rfl, t, by omega, rfl, h3.mono (N' := N + 60) (by omega)⟩
  case rest =>
   obtain ⟨rfl, mn, hmn, rfl, hst⟩ := hcut
   clear h3
   go_upto_block 3 with (go_at_call 62; refine (pick_calls c (N + 60) 4 _ hst.cur (by omega) ⟨by omega, by omega⟩).mono ?_; rintro e w3 ⟨x, ⟨hx0, hx1, _⟩, rfl, hc3, hw3⟩; obtain ⟨y0, y1, y2, y3, y4, yf⟩ := (hst.pick hcw hw3 hc3).box.cells)
   have h3 := hst.pick hcw hw3 hc3
   have h4 := h3.body hcw (x == 0)
   clear hst hw3 hc3 y0 y1 y2 y3 y4 yf hx0 hx1
   go_wp2
   obtain ⟨wb, hwb⟩ : ∃ wb, wb = w3.setCell ⟨w.heap.size + 1, 2, none⟩ (.bool (x == 0)) := ⟨_, rfl⟩
   rw [← hwb] at h4 ⊢
   obtain ⟨M, hM⟩ : ∃ M, M = w3.heap.size := ⟨_, rfl⟩
   rw [← hM] at h4
   generalize (x == 0) = wt at h4
   clear hwb hM h3
   go_loopw [8] (fun i wr => ∃ (k : Nat) (v4 : Value) (bs : List (Int × Int)), k ≤ mn ∧ i = .int .i64 (k : Int) ∧ bs.length ≤ k ∧ BS w c (N + 70 + 4 * k) M wr ch (.slice p1 hs.length q1) hs wt 0 v4 bs) (fun i _ => mn - (intOf i).toNat)
   case atStart => exact ⟨0, _, [], Nat.zero_le _, rfl, by simp, h4.mono (N' := N + 70 + 4 * 0) (by omega)⟩
   case round =>
    obtain ⟨k, v4, bs, hk, rfl, hlen, hst⟩ := hrel
    clear h4
    obtain ⟨a4, q4, rfl⟩ := hst.own.form
    obtain ⟨y0, y1, y2, y3, y4, yf⟩ := hst.box.cells
    have hle := hst.box.lt
    by_cases hlt : k < mn
    ·cases wt
     ·go_upto_region 25 with fail
      clear y0 y1 y2 y3 yf
      refine wp_region_held_drew (S := fun _ => True) (by kernel_rfl) trivial (fun hHeld => ?_)
      refine tkY 0 (.pointer (some ⟨w.heap.size + 1, 4, none⟩)) 72 rfl rfl (fun w' hw' => ?_) hHeld ?_
      ·go_simp
      try simp only [Act.put, put1, put2, put3]
      refine tkY 2 (.pointer (some ⟨c, 0, none⟩)) 74 rfl rfl (fun w' hw' => ?_) hHeld ?_
      ·go_simp
      try simp only [Act.put, put1, put2, put3]
      refine tkY 3 (.int .i64 (m : Int)) 75 rfl rfl (fun w' hw' => ?_) hHeld ?_
      ·go_simp
      try simp only [Act.put, put1, put2, put3]
      refine tkY 5 (.int .i64 (1)) 77 rfl rfl (fun w' hw' => ?_) hHeld ?_
      ·go_simp
      try simp only [Act.put, put1, put2, put3]
      refine wpAnyH_ready (rs := [1, 4]) (by kernel_rfl) (by simp) ?_
      refine AllReadyH.cons rfl (fun K hK => ?_) (AllReadyH.cons rfl (fun K hK => ?_) AllReadyH.nil)
      ·go_simp
       refine hK.out _ _ (trivial) (fun hHeld => ?_)
       clear hK K
       try simp only [Act.put, put1, put2, put3]
       refine wpAnyH_ready (rs := [4]) (by kernel_rfl) (by simp) ?_
       refine AllReadyH.cons rfl (fun K hK => ?_) AllReadyH.nil
       go_simp
       refine (lit_calls c (N + 70 + 4 * k) m (wr).drew ((hst).cur.kept (Below.refl _ _).drew) (by omega) ⟨by omega, by omega⟩).mono ?_
       rintro e w5 ⟨l, rfl, ⟨hl0, hl1⟩, hc5, hw5⟩
       have h5 := (hst).pick hcw (((Wrote.refl c _).drewN 1).trans hw5) hc5
       have hl5 := h5.le
       have hx5 := h5.box.cells.2.2.2.2.1
       have hc6 : (w5.alloc (.cells #[.int .i64 l, .int .i64 (1)] 94)).cell? ⟨w.heap.size + 1, 4, none⟩ = some (.slice a4 bs.length q4) := cell_kept ((Below.refl _ _).alloc (Nat.le_refl _) _) hx5
       obtain ⟨v6, w6, r6, ho6, hb6, hg6⟩ := run_append_oneD (α := Int × Int) (P := Tryz.prog) (t := 32) (ty := 32) (c := 1) i2 _ 16 Tryz.underlying32 hi2 hz20 hz21 hz22 rfl (by decide) h5.own ((Below.refl w5.heap.size w5).alloc (Nat.le_refl _) (.cells #[.int .i64 l, .int .i64 (1)] 94)) (Cells.new w5 [.int .i64 l, .int .i64 (1)] 94) (own_pair ⟨by omega, by omega⟩ ⟨by omega, by omega⟩) (fun f hf => Nat.le_trans hl5.2 hf) (by omega) (by omega) hl5.2
       obtain ⟨a6, q6, rfl⟩ := ho6.form
       have b6 : Below M w5 w6 := (((Below.refl w5.heap.size w5).alloc (Nat.le_refl _) (.cells #[.int .i64 l, .int .i64 (1)] 94)).mono hl5.2).trans hb6
       obtain ⟨z0, z1, z2, z3, z4, zf⟩ := (h5.box.cg (Cg.lo (S := fun g => M ≤ g) b6 fun g _ hg => hg) (by omega)).cells
       have zf4 := zf 4
       have h7 := h5.put4 hcw b6 ho6 (by simp; omega)
       rw [List.length_append] at r6 h7
       refine hK.out _ _ (trivial) (fun hHeld => ?_)
       clear hK K
       try simp only [Act.put, put1, put2, put3]
       refine tkY 6 (.agg #[.int .i64 l, .int .i64 (1)]) 78 rfl rfl (fun w' hw' => ?_) hHeld ?_
       ·go_simp
       try simp only [Act.put, put1, put2, put3]
       refine wpAnyH_ready (rs := [7]) (by kernel_rfl) (by simp) ?_
       refine AllReadyH.cons rfl (fun K hK => ?_) AllReadyH.nil
       go_simp
       refine hK.out _ _ (trivial) (fun hHeld => ?_)
       clear hK K
       try simp only [Act.put, put1, put2, put3]
       refine wpAnyH_ready (rs := [8]) (by kernel_rfl) (by simp) ?_
       refine AllReadyH.cons rfl (fun K hK => ?_) AllReadyH.nil
       refine step_append_of rfl _ _ rfl rfl rfl r6 ?_
       refine hK.out _ _ (trivial) (fun hHeld => ?_)
       clear hK K
       try simp only [Act.put, put1, put2, put3]
       refine tkY 9 (.pointer (some ⟨w.heap.size + 1, 4, none⟩)) 81 rfl rfl (fun w' hw' => ?_) hHeld ?_
       ·go_simp
       try simp only [Act.put, put1, put2, put3]
       refine wpAnyH_ready (rs := [10]) (by kernel_rfl) (by simp) ?_
       refine AllReadyH.cons rfl (fun K hK => ?_) AllReadyH.nil
       go_simp
       refine hK.out _ _ (trivial) (fun hHeld => ?_)
       clear hK K
       try simp only [Act.put, put1, put2, put3]
       refine wpAnyH_done (by kernel_rfl) ?_ _
       go_wp2
       go_roundw
       case rel => exact ⟨k + 1, _, bs ++ [(l, 1)], by omega, by go_num, by simp; omega, h7.mono (N' := N + 70 + 4 * (k + 1)) (by omega)⟩
       case measure => simp [intOf]; omega
      ·skip
       go_simp
       refine (lit_calls c (N + 70 + 4 * k) m (wr).drew ((hst).cur.kept (Below.refl _ _).drew) (by omega) ⟨by omega, by omega⟩).mono ?_
       rintro e w5 ⟨l, rfl, ⟨hl0, hl1⟩, hc5, hw5⟩
       have h5 := (hst).pick hcw (((Wrote.refl c _).drewN 1).trans hw5) hc5
       have hl5 := h5.le
       have hx5 := h5.box.cells.2.2.2.2.1
       have hc6 : (w5.alloc (.cells #[.int .i64 l, .int .i64 (1)] 94)).cell? ⟨w.heap.size + 1, 4, none⟩ = some (.slice a4 bs.length q4) := cell_kept ((Below.refl _ _).alloc (Nat.le_refl _) _) hx5
       obtain ⟨v6, w6, r6, ho6, hb6, hg6⟩ := run_append_oneD (α := Int × Int) (P := Tryz.prog) (t := 32) (ty := 32) (c := 1) i2 _ 16 Tryz.underlying32 hi2 hz20 hz21 hz22 rfl (by decide) h5.own ((Below.refl w5.heap.size w5).alloc (Nat.le_refl _) (.cells #[.int .i64 l, .int .i64 (1)] 94)) (Cells.new w5 [.int .i64 l, .int .i64 (1)] 94) (own_pair ⟨by omega, by omega⟩ ⟨by omega, by omega⟩) (fun f hf => Nat.le_trans hl5.2 hf) (by omega) (by omega) hl5.2
       obtain ⟨a6, q6, rfl⟩ := ho6.form
       have b6 : Below M w5 w6 := (((Below.refl w5.heap.size w5).alloc (Nat.le_refl _) (.cells #[.int .i64 l, .int .i64 (1)] 94)).mono hl5.2).trans hb6
       obtain ⟨z0, z1, z2, z3, z4, zf⟩ := (h5.box.cg (Cg.lo (S := fun g => M ≤ g) b6 fun g _ hg => hg) (by omega)).cells
       have zf4 := zf 4
       have h7 := h5.put4 hcw b6 ho6 (by simp; omega)
       rw [List.length_append] at r6 h7
       refine hK.out _ _ (trivial) (fun hHeld => ?_)
       clear hK K
       try simp only [Act.put, put1, put2, put3]
       refine tkY 6 (.agg #[.int .i64 l, .int .i64 (1)]) 78 rfl rfl (fun w' hw' => ?_) hHeld ?_
       ·go_simp
       try simp only [Act.put, put1, put2, put3]
       refine wpAnyH_ready (rs := [1, 7]) (by kernel_rfl) (by simp) ?_
       refine AllReadyH.cons rfl (fun K hK => ?_) (AllReadyH.cons rfl (fun K hK => ?_) AllReadyH.nil)
       ·go_simp
        refine hK.out _ _ (trivial) (fun hHeld => ?_)
        clear hK K
        try simp only [Act.put, put1, put2, put3]
        refine wpAnyH_ready (rs := [7]) (by kernel_rfl) (by simp) ?_
        refine AllReadyH.cons rfl (fun K hK => ?_) AllReadyH.nil
        go_simp
        refine hK.out _ _ (trivial) (fun hHeld => ?_)
        clear hK K
        try simp only [Act.put, put1, put2, put3]
        refine wpAnyH_ready (rs := [8]) (by kernel_rfl) (by simp) ?_
        refine AllReadyH.cons rfl (fun K hK => ?_) AllReadyH.nil
        refine step_append_of rfl _ _ rfl rfl rfl r6 ?_
        refine hK.out _ _ (trivial) (fun hHeld => ?_)
        clear hK K
        try simp only [Act.put, put1, put2, put3]
        refine tkY 9 (.pointer (some ⟨w.heap.size + 1, 4, none⟩)) 81 rfl rfl (fun w' hw' => ?_) hHeld ?_
        ·go_simp
        try simp only [Act.put, put1, put2, put3]
        refine wpAnyH_ready (rs := [10]) (by kernel_rfl) (by simp) ?_
        refine AllReadyH.cons rfl (fun K hK => ?_) AllReadyH.nil
        go_simp
        refine hK.out _ _ (trivial) (fun hHeld => ?_)
        clear hK K
        try simp only [Act.put, put1, put2, put3]
        refine wpAnyH_done (by kernel_rfl) ?_ _
        go_wp2
        go_roundw
        case rel => exact ⟨k + 1, _, bs ++ [(l, 1)], by omega, by go_num, by simp; omega, h7.mono (N' := N + 70 + 4 * (k + 1)) (by omega)⟩
        case measure => simp [intOf]; omega
       ·go_simp
        refine hK.out _ _ (trivial) (fun hHeld => ?_)
        clear hK K
        try simp only [Act.put, put1, put2, put3]
        refine wpAnyH_ready (rs := [1]) (by kernel_rfl) (by simp) ?_
        refine AllReadyH.cons rfl (fun K hK => ?_) AllReadyH.nil
        go_simp
        refine hK.out _ _ (trivial) (fun hHeld => ?_)
        clear hK K
        try simp only [Act.put, put1, put2, put3]
        refine wpAnyH_ready (rs := [8]) (by kernel_rfl) (by simp) ?_
        refine AllReadyH.cons rfl (fun K hK => ?_) AllReadyH.nil
        refine step_append_of rfl _ _ rfl rfl rfl r6 ?_
        refine hK.out _ _ (trivial) (fun hHeld => ?_)
        clear hK K
        try simp only [Act.put, put1, put2, put3]
        refine tkY 9 (.pointer (some ⟨w.heap.size + 1, 4, none⟩)) 81 rfl rfl (fun w' hw' => ?_) hHeld ?_
        ·go_simp
        try simp only [Act.put, put1, put2, put3]
        refine wpAnyH_ready (rs := [10]) (by kernel_rfl) (by simp) ?_
        refine AllReadyH.cons rfl (fun K hK => ?_) AllReadyH.nil
        go_simp
        refine hK.out _ _ (trivial) (fun hHeld => ?_)
        clear hK K
        try simp only [Act.put, put1, put2, put3]
        refine wpAnyH_done (by kernel_rfl) ?_ _
        go_wp2
        go_roundw
        case rel => exact ⟨k + 1, _, bs ++ [(l, 1)], by omega, by go_num, by simp; omega, h7.mono (N' := N + 70 + 4 * (k + 1)) (by omega)⟩
        case measure => simp [intOf]; omega
     ·go_upto_region 25 with (go_at_call 62; refine (pick_calls c (N + 70 + 4 * k) 4 _ hst.cur (by omega) ⟨by omega, by omega⟩).mono ?_; rintro e w3 ⟨x, ⟨hx0, hx1, _⟩, rfl, hc3, hw3⟩; have hx1 := hx1 (by omega); obtain ⟨z0, z1, z2, z3, z4, zf⟩ := (hst.pick hcw hw3 hc3).box.cells)
      have h3 := hst.pick hcw hw3 hc3
      clear y0 y1 y2 y3 y4 yf z0 z1 z2 z3 zf
      have y4 := z4
      refine wp_region_held_drew (S := fun _ => True) (by kernel_rfl) trivial (fun hHeld => ?_)
      refine tkY 0 (.pointer (some ⟨w.heap.size + 1, 4, none⟩)) 72 rfl rfl (fun w' hw' => ?_) hHeld ?_
      ·go_simp
      try simp only [Act.put, put1, put2, put3]
      refine tkY 2 (.pointer (some ⟨c, 0, none⟩)) 74 rfl rfl (fun w' hw' => ?_) hHeld ?_
      ·go_simp
      try simp only [Act.put, put1, put2, put3]
      refine tkY 3 (.int .i64 (m : Int)) 75 rfl rfl (fun w' hw' => ?_) hHeld ?_
      ·go_simp
      try simp only [Act.put, put1, put2, put3]
      refine tkY 5 (.int .i64 (1 + x)) 77 rfl rfl (fun w' hw' => ?_) hHeld ?_
      ·go_simp
      try simp only [Act.put, put1, put2, put3]
      refine wpAnyH_ready (rs := [1, 4]) (by kernel_rfl) (by simp) ?_
      refine AllReadyH.cons rfl (fun K hK => ?_) (AllReadyH.cons rfl (fun K hK => ?_) AllReadyH.nil)
      ·go_simp
       refine hK.out _ _ (trivial) (fun hHeld => ?_)
       clear hK K
       try simp only [Act.put, put1, put2, put3]
       refine wpAnyH_ready (rs := [4]) (by kernel_rfl) (by simp) ?_
       refine AllReadyH.cons rfl (fun K hK => ?_) AllReadyH.nil
       go_simp
       refine (lit_calls c (N + 70 + 4 * k + 1) m (w3).drew ((h3).cur.kept (Below.refl _ _).drew) (by omega) ⟨by omega, by omega⟩).mono ?_
       rintro e w5 ⟨l, rfl, ⟨hl0, hl1⟩, hc5, hw5⟩
       have h5 := (h3).pick hcw (((Wrote.refl c _).drewN 1).trans hw5) hc5
       have hl5 := h5.le
       have hx5 := h5.box.cells.2.2.2.2.1
       have hc6 : (w5.alloc (.cells #[.int .i64 l, .int .i64 (1 + x)] 94)).cell? ⟨w.heap.size + 1, 4, none⟩ = some (.slice a4 bs.length q4) := cell_kept ((Below.refl _ _).alloc (Nat.le_refl _) _) hx5
       obtain ⟨v6, w6, r6, ho6, hb6, hg6⟩ := run_append_oneD (α := Int × Int) (P := Tryz.prog) (t := 32) (ty := 32) (c := 1) i2 _ 16 Tryz.underlying32 hi2 hz20 hz21 hz22 rfl (by decide) h5.own ((Below.refl w5.heap.size w5).alloc (Nat.le_refl _) (.cells #[.int .i64 l, .int .i64 (1 + x)] 94)) (Cells.new w5 [.int .i64 l, .int .i64 (1 + x)] 94) (own_pair ⟨by omega, by omega⟩ ⟨by omega, by omega⟩) (fun f hf => Nat.le_trans hl5.2 hf) (by omega) (by omega) hl5.2
       obtain ⟨a6, q6, rfl⟩ := ho6.form
       have b6 : Below M w5 w6 := (((Below.refl w5.heap.size w5).alloc (Nat.le_refl _) (.cells #[.int .i64 l, .int .i64 (1 + x)] 94)).mono hl5.2).trans hb6
       obtain ⟨z0, z1, z2, z3, z4, zf⟩ := (h5.box.cg (Cg.lo (S := fun g => M ≤ g) b6 fun g _ hg => hg) (by omega)).cells
       have zf4 := zf 4
       have h7 := h5.put4 hcw b6 ho6 (by simp; omega)
       rw [List.length_append] at r6 h7
       refine hK.out _ _ (trivial) (fun hHeld => ?_)
       clear hK K
       try simp only [Act.put, put1, put2, put3]
       refine tkY 6 (.agg #[.int .i64 l, .int .i64 (1 + x)]) 78 rfl rfl (fun w' hw' => ?_) hHeld ?_
       ·go_simp
       try simp only [Act.put, put1, put2, put3]
       refine wpAnyH_ready (rs := [7]) (by kernel_rfl) (by simp) ?_
       refine AllReadyH.cons rfl (fun K hK => ?_) AllReadyH.nil
       go_simp
       refine hK.out _ _ (trivial) (fun hHeld => ?_)
       clear hK K
       try simp only [Act.put, put1, put2, put3]
       refine wpAnyH_ready (rs := [8]) (by kernel_rfl) (by simp) ?_
       refine AllReadyH.cons rfl (fun K hK => ?_) AllReadyH.nil
       refine step_append_of rfl _ _ rfl rfl rfl r6 ?_
       refine hK.out _ _ (trivial) (fun hHeld => ?_)
       clear hK K
       try simp only [Act.put, put1, put2, put3]
       refine tkY 9 (.pointer (some ⟨w.heap.size + 1, 4, none⟩)) 81 rfl rfl (fun w' hw' => ?_) hHeld ?_
       ·go_simp
       try simp only [Act.put, put1, put2, put3]
       refine wpAnyH_ready (rs := [10]) (by kernel_rfl) (by simp) ?_
       refine AllReadyH.cons rfl (fun K hK => ?_) AllReadyH.nil
       go_simp
       refine hK.out _ _ (trivial) (fun hHeld => ?_)
       clear hK K
       try simp only [Act.put, put1, put2, put3]
       refine wpAnyH_done (by kernel_rfl) ?_ _
       go_wp2
       go_roundw
       case rel => exact ⟨k + 1, _, bs ++ [(l, 1 + x)], by omega, by go_num, by simp; omega, h7.mono (N' := N + 70 + 4 * (k + 1)) (by omega)⟩
       case measure => simp [intOf]; omega
      ·skip
       go_simp
       refine (lit_calls c (N + 70 + 4 * k + 1) m (w3).drew ((h3).cur.kept (Below.refl _ _).drew) (by omega) ⟨by omega, by omega⟩).mono ?_
       rintro e w5 ⟨l, rfl, ⟨hl0, hl1⟩, hc5, hw5⟩
       have h5 := (h3).pick hcw (((Wrote.refl c _).drewN 1).trans hw5) hc5
       have hl5 := h5.le
       have hx5 := h5.box.cells.2.2.2.2.1
       have hc6 : (w5.alloc (.cells #[.int .i64 l, .int .i64 (1 + x)] 94)).cell? ⟨w.heap.size + 1, 4, none⟩ = some (.slice a4 bs.length q4) := cell_kept ((Below.refl _ _).alloc (Nat.le_refl _) _) hx5
       obtain ⟨v6, w6, r6, ho6, hb6, hg6⟩ := run_append_oneD (α := Int × Int) (P := Tryz.prog) (t := 32) (ty := 32) (c := 1) i2 _ 16 Tryz.underlying32 hi2 hz20 hz21 hz22 rfl (by decide) h5.own ((Below.refl w5.heap.size w5).alloc (Nat.le_refl _) (.cells #[.int .i64 l, .int .i64 (1 + x)] 94)) (Cells.new w5 [.int .i64 l, .int .i64 (1 + x)] 94) (own_pair ⟨by omega, by omega⟩ ⟨by omega, by omega⟩) (fun f hf => Nat.le_trans hl5.2 hf) (by omega) (by omega) hl5.2
       obtain ⟨a6, q6, rfl⟩ := ho6.form
       have b6 : Below M w5 w6 := (((Below.refl w5.heap.size w5).alloc (Nat.le_refl _) (.cells #[.int .i64 l, .int .i64 (1 + x)] 94)).mono hl5.2).trans hb6
       obtain ⟨z0, z1, z2, z3, z4, zf⟩ := (h5.box.cg (Cg.lo (S := fun g => M ≤ g) b6 fun g _ hg => hg) (by omega)).cells
       have zf4 := zf 4
       have h7 := h5.put4 hcw b6 ho6 (by simp; omega)
       rw [List.length_append] at r6 h7
       refine hK.out _ _ (trivial) (fun hHeld => ?_)
       clear hK K
       try simp only [Act.put, put1, put2, put3]
       refine tkY 6 (.agg #[.int .i64 l, .int .i64 (1 + x)]) 78 rfl rfl (fun w' hw' => ?_) hHeld ?_
       ·go_simp
       try simp only [Act.put, put1, put2, put3]
       refine wpAnyH_ready (rs := [1, 7]) (by kernel_rfl) (by simp) ?_
       refine AllReadyH.cons rfl (fun K hK => ?_) (AllReadyH.cons rfl (fun K hK => ?_) AllReadyH.nil)
       ·go_simp
        refine hK.out _ _ (trivial) (fun hHeld => ?_)
        clear hK K
        try simp only [Act.put, put1, put2, put3]
        refine wpAnyH_ready (rs := [7]) (by kernel_rfl) (by simp) ?_
        refine AllReadyH.cons rfl (fun K hK => ?_) AllReadyH.nil
        go_simp
        refine hK.out _ _ (trivial) (fun hHeld => ?_)
        clear hK K
        try simp only [Act.put, put1, put2, put3]
        refine wpAnyH_ready (rs := [8]) (by kernel_rfl) (by simp) ?_
        refine AllReadyH.cons rfl (fun K hK => ?_) AllReadyH.nil
        refine step_append_of rfl _ _ rfl rfl rfl r6 ?_
        refine hK.out _ _ (trivial) (fun hHeld => ?_)
        clear hK K
        try simp only [Act.put, put1, put2, put3]
        refine tkY 9 (.pointer (some ⟨w.heap.size + 1, 4, none⟩)) 81 rfl rfl (fun w' hw' => ?_) hHeld ?_
        ·go_simp
        try simp only [Act.put, put1, put2, put3]
        refine wpAnyH_ready (rs := [10]) (by kernel_rfl) (by simp) ?_
        refine AllReadyH.cons rfl (fun K hK => ?_) AllReadyH.nil
        go_simp
        refine hK.out _ _ (trivial) (fun hHeld => ?_)
        clear hK K
        try simp only [Act.put, put1, put2, put3]
        refine wpAnyH_done (by kernel_rfl) ?_ _
        go_wp2
        go_roundw
        case rel => exact ⟨k + 1, _, bs ++ [(l, 1 + x)], by omega, by go_num, by simp; omega, h7.mono (N' := N + 70 + 4 * (k + 1)) (by omega)⟩
        case measure => simp [intOf]; omega
       ·go_simp
        refine hK.out _ _ (trivial) (fun hHeld => ?_)
        clear hK K
        try simp only [Act.put, put1, put2, put3]
        refine wpAnyH_ready (rs := [1]) (by kernel_rfl) (by simp) ?_
        refine AllReadyH.cons rfl (fun K hK => ?_) AllReadyH.nil
        go_simp
        refine hK.out _ _ (trivial) (fun hHeld => ?_)
        clear hK K
        try simp only [Act.put, put1, put2, put3]
        refine wpAnyH_ready (rs := [8]) (by kernel_rfl) (by simp) ?_
        refine AllReadyH.cons rfl (fun K hK => ?_) AllReadyH.nil
        refine step_append_of rfl _ _ rfl rfl rfl r6 ?_
        refine hK.out _ _ (trivial) (fun hHeld => ?_)
        clear hK K
        try simp only [Act.put, put1, put2, put3]
        refine tkY 9 (.pointer (some ⟨w.heap.size + 1, 4, none⟩)) 81 rfl rfl (fun w' hw' => ?_) hHeld ?_
        ·go_simp
        try simp only [Act.put, put1, put2, put3]
        refine wpAnyH_ready (rs := [10]) (by kernel_rfl) (by simp) ?_
        refine AllReadyH.cons rfl (fun K hK => ?_) AllReadyH.nil
        go_simp
        refine hK.out _ _ (trivial) (fun hHeld => ?_)
        clear hK K
        try simp only [Act.put, put1, put2, put3]
        refine wpAnyH_done (by kernel_rfl) ?_ _
        go_wp2
        go_roundw
        case rel => exact ⟨k + 1, _, bs ++ [(l, 1 + x)], by omega, by go_num, by simp; omega, h7.mono (N' := N + 70 + 4 * (k + 1)) (by omega)⟩
        case measure => simp [intOf]; omega
    ·obtain rfl : k = mn := by omega
     obtain ⟨x0, x1, x2, x3, x4, xf⟩ := hst.res.cells
     cases wt
     ·skip
      have hO := (hst).done ⟨by omega, by omega⟩
      have hC := (hst).cur
      have hG := (hst).cg
      have hSm : Hid (SmR ⟨ch, hs, false, 0, bs⟩) := ⟨HHL.out, (hst).len⟩
      have hk := fun u0 u1 u2 u3 u4 => res_cg (wr) w.heap.size u0 u1 u2 u3 u4
      have hln : (w.heap.size : Nat) < (wr).heap.size := (hst).res.lt
      go_wp2
      exact bodyPost_ret (v := .agg #[.bool ch, .slice p1 hs.length q1, .bool false, .int .i64 (0), .slice a4 bs.length q4]) (by first | (simp [results, Tryz.results223, go_sem, x0, x1, x2, x3, x4]; done) | (simp [results, Tryz.results223, go_sem, x0, x1, x2, x3, x4]; omega)) rfl
       ⟨[.bool ch, .slice p1 hs.length q1, .bool false, .int .i64 (0), .slice a4 bs.length q4], ⟨ch, hs, false, 0, bs⟩, rfl, (hO.cg (hk _ _ _ _ _) (fun g h1 h2 => by omega)).mono (by omega), (hC.cg ((hk _ _ _ _ _).more fun g _ hg => by omega)).mono (by omega), (hG.trans ((hk _ _ _ _ _).more fun g _ hg => .inr (by omega))).toWrote, hSm.out⟩
     ·go_wp2_with fail
      refine (pick_calls c (N + 70 + 4 * k) 7 _ hst.cur (by omega) ⟨by omega, by omega⟩).mono ?_
      rintro e w3 ⟨x, ⟨hz0, hz1, _⟩, rfl, hc3, hw3⟩
      have hz1 := hz1 (by omega)
      have h3 := hst.pick hcw hw3 hc3
      have h4 := h3.set3 hcw (x - 1)
      clear y0 y1 y2 y3 y4 yf x0 x1 x2 x3 x4 xf
      obtain ⟨y0, y1, y2, y3, y4, yf⟩ := h3.box.cells
      have hln := h3.box.lt
      obtain ⟨wd, hwd⟩ : ∃ wd, wd = w3.setCell ⟨w.heap.size + 1, 3, none⟩ (.int .i64 (x - 1)) := ⟨_, rfl⟩
      rw [← hwd] at h4
      by_cases hz : hs.length = 0
      ·have hz' : ((hs.length : Int) == 0) = true := by simpa using hz
       have hz2 : (hs.length : Int) = 0 := by omega
       have h5 := h4.set3 hcw (x - 1 + 2)
       have hle4 := h4.box.lt
       obtain ⟨s0, s1, s2, s3, s4, sf⟩ := h4.box.cells
       go_upto_if 91 with fail
       rw [← hwd]
       clear hwd y0 y1 y2 y3 y4 yf
       go_upto_region 30 with fail
       obtain ⟨we, hwe⟩ : ∃ we, we = wd.setCell ⟨w.heap.size + 1, 3, none⟩ (.int .i64 (x - 1 + 2)) := ⟨_, rfl⟩
       rw [← hwe] at h5 ⊢
       clear hwe s0 s1 s2 s3 s4 sf
       obtain ⟨x0, x1, x2, x3, x4, xf⟩ := h5.res.cells
       obtain ⟨s0, s1, s2, s3, s4, sf⟩ := h5.box.cells
       have hO := (h5).done ⟨by omega, by omega⟩
       have hC := (h5).cur
       have hG := (h5).cg
       have hSm : Hid (SmR ⟨ch, hs, true, x - 1 + 2, bs⟩) := ⟨HHL.out, (h5).len⟩
       have hk := fun u0 u1 u2 u3 u4 => res_cg (we) w.heap.size u0 u1 u2 u3 u4
       have hln : (w.heap.size : Nat) < (we).heap.size := (h5).res.lt
       go_wp2
       exact bodyPost_ret (v := .agg #[.bool ch, .slice p1 hs.length q1, .bool true, .int .i64 (x - 1 + 2), .slice a4 bs.length q4]) (by first | (simp [results, Tryz.results223, go_sem, x0, x1, x2, x3, x4]; done) | (simp [results, Tryz.results223, go_sem, x0, x1, x2, x3, x4]; omega)) rfl
        ⟨[.bool ch, .slice p1 hs.length q1, .bool true, .int .i64 (x - 1 + 2), .slice a4 bs.length q4], ⟨ch, hs, true, x - 1 + 2, bs⟩, rfl, (hO.cg (hk _ _ _ _ _) (fun g h1 h2 => by omega)).mono (by omega), (hC.cg ((hk _ _ _ _ _).more fun g _ hg => by omega)).mono (by omega), (hG.trans ((hk _ _ _ _ _).more fun g _ hg => .inr (by omega))).toWrote, hSm.out⟩
      ·have hz' : ((hs.length : Int) == 0) = false := by simpa using hz
       obtain ⟨x0, x1, x2, x3, x4, xf⟩ := h4.res.cells
       obtain ⟨s0, s1, s2, s3, s4, sf⟩ := h4.box.cells
       go_upto_if 91 with fail
       rw [← hwd]
       clear hwd y0 y1 y2 y3 y4 yf
       have hO := (h4).done ⟨by omega, by omega⟩
       have hC := (h4).cur
       have hG := (h4).cg
       have hSm : Hid (SmR ⟨ch, hs, true, x - 1, bs⟩) := ⟨HHL.out, (h4).len⟩
       have hk := fun u0 u1 u2 u3 u4 => res_cg (wd) w.heap.size u0 u1 u2 u3 u4
       have hln : (w.heap.size : Nat) < (wd).heap.size := (h4).res.lt
       go_wp2
       exact bodyPost_ret (v := .agg #[.bool ch, .slice p1 hs.length q1, .bool true, .int .i64 (x - 1), .slice a4 bs.length q4]) (by first | (simp [results, Tryz.results223, go_sem, x0, x1, x2, x3, x4]; done) | (simp [results, Tryz.results223, go_sem, x0, x1, x2, x3, x4]; omega)) rfl
        ⟨[.bool ch, .slice p1 hs.length q1, .bool true, .int .i64 (x - 1), .slice a4 bs.length q4], ⟨ch, hs, true, x - 1, bs⟩, rfl, (hO.cg (hk _ _ _ _ _) (fun g h1 h2 => by omega)).mono (by omega), (hC.cg ((hk _ _ _ _ _).more fun g _ hg => by omega)).mono (by omega), (hG.trans ((hk _ _ _ _ _).more fun g _ hg => .inr (by omega))).toWrote, hSm.out⟩

end Go.Proofs.YthikhkeofcjdfaaGreat
