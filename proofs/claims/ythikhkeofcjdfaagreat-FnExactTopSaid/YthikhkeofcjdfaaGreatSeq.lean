/-
 A set that is ranged over; its list. No condition of its own.
-/
import Derived.RangeFuncNested
import Derived.RangeFuncBound
import Derived.RangeFuncCalls
import Derived.RangeFuncLeaves
import Derived.RangeFuncBox
import Derived.Shelf.Abstract
import Derived.Shelf.RegionOpen
import Derived.WalkKit
import Derived.OwnWalkIn
import Derived.TacticsInMore
import Derived.LoopNIn
import Derived.LoopIn
import Derived.Maps.AppendAt
import Derived.Deep.RegionHeld3
import Derived.Deep.RegionWith
import Derived.Test.YthikhkeofcjdfaaGreatSetsPure
namespace Go.Proofs.YthikhkeofcjdfaaGreat
set_option linter.unusedVariables false
set_option linter.unusedSimpArgs false
open Go.RowKit Go.Shelf
set_option maxRecDepth 100000

attribute [local go_sem] Oper.semAt_some

/-- An atom. -/
abbrev AtomI := { x : Int // 1 ≤ x ∧ x ≤ 12 }
/-- A box that lies as it lay. -/
def KpB (B : Nat) (t : TypeId) (v : Value) (W W' : World) : Prop := Boxed W B t v → Boxed W' B t v
theorem kpB_t {B : Nat} {t : TypeId} {v : Value} {X Y Z : World} (h : KpB B t v X Y) (k : KpB B t v Y Z) : KpB B t v X Z := fun x => k (h x)
theorem kpB_b {w : World} {B : Nat} {t : TypeId} {v : Value} (W : World) (l : Nat) (o o' : Obj) (_ : w.heap.size ≤ l) (h : W.heap[l]? = some o) (hc : o.isCells = false) (_ : o.isWalk = false) : KpB B t v W (W.putObj l o') := fun hb => by
 unfold Boxed at *
 by_cases e : B = l
 ·subst e; rw [hb] at h; cases h; cases hc
 ·exact (World.putObj_heap_other e).trans hb

theorem wideC {F : Fence} (hF : F = Fence.wide) {n : Nat} {P : Program} {f : FuncId} {args : Array Value} {w : World} {R : Ending → World → Prop} (h : Calls P f args w R) : CallsIn F n P f args w R := by subst hF; exact callsIn_wide.2 h
theorem wideF {F : Fence} (hF : F = Fence.wide) (k : Nat) : F.fn k := by subst hF; trivial
theorem wideR {F : Fence} (hF : F = Fence.wide) : F.round = none := by subst hF; rfl

set_option maxHeartbeats 2000000 in
theorem atoms_stops {F : Fence} (hF : F = Fence.wide) (n : Nat) (hn : 2 ≤ n) (m : Nat) (hm : m < 4096) (w : World) (Bn : Nat) (hb : Boxed w Bn 106 (.int .u16 (m : Int))) :
  SeqStopsK F n Tryz.prog 234 #[.pointer (some ⟨Bn, 0, none⟩)] (fun x : AtomI => #[Value.int .i64 x.1]) (KpB Bn 106 (.int .u16 (m : Int))) (fun ys => ys.map (·.1) = pickTo (hasM m) 12) (fun _ => True) 12 w := fun l J Jx W hW hJ hJx hY h0 => by
 have hbW : Boxed W Bn 106 (.int .u16 (m : Int)) := (hW.block Bn hb.lt).trans hb
 have hro := wideR hF
 have h1 : F.fn 174 := wideF hF _
 have hn1 : 1 ≤ n - 1 := by omega
 have hn0 : 1 ≤ n := by omega
 have hHas := fun (k : Nat) (x : Int) (hx : Fits x) (W : World) => Lib.hid (wideC (n := k) hF (has_calls m x W hm hx))
 refine callsIn_of_wp Tryz.func234 rfl (wideF hF _) ?_ hro
 clear hF
 simp only [Tryz.ntmps234, List.size_toArray, List.length_cons, List.length_nil, Nat.reduceAdd, Nat.reduceSub, Array.replicate_succ, Array.replicate_zero, List.push_toArray, List.append_toArray, List.nil_append, List.cons_append]
 gi_wp2
 gi_loopw [3] (fun i wr => ∃ (k : Nat) (pre : List AtomI), k ≤ 12 ∧ i = .int .i64 ((k : Int) + 1) ∧ pre.map (·.1) = pickTo (hasM m) k ∧ J pre wr ∧ Boxed wr Bn 106 (.int .u16 (m : Int))) (fun i _ => 13 - (intOf i).toNat)
 case atStart => exact ⟨0, [], by omega, rfl, rfl, h0, hbW⟩
 case round =>
  obtain ⟨k, pre, hk, rfl, hp, hJs, hB⟩ := hrel
  have hc := hB.cell
  by_cases hlt : k < 12
  ·have hFi := fits_small (n := (k : Int) + 1) (by omega) (by omega)
   have hlen : pre.length < 12 := by
    have h1 := congrArg List.length hp
    rw [List.length_map] at h1
    have h2 := pickTo_len (hasM m) k
    omega
   cases hM : hasM m ((k : Int) + 1)
   ·have hp' := Lib.hid (show pre.map (·.1) = pickTo (hasM m) (k + 1) by rw [pickTo_no hM]; exact hp)
    gi_wp2_with (gi_at_call 174; refine (hHas _ _ hFi _).out.mono ?_; rintro e w' ⟨rfl, rfl⟩)
    refine ⟨fun _ h => (by cases h), ?_⟩
    gi_wp2
    go_roundw
    case rel => exact ⟨k + 1, pre, by omega, by go_num, hp'.out, hJs, hB⟩
    case measure => simp [intOf]; omega
   ·obtain ⟨fn, tmps, assign, body, hy, hR⟩ := hY pre ⟨(k : Int) + 1, by omega⟩ wr hJs hlen
    have hp' := Lib.hid (show (pre ++ [(⟨(k : Int) + 1, by omega⟩ : AtomI)]).map (·.1) = pickTo (hasM m) (k + 1) by rw [pickTo_yes hM, List.map_append, hp]; rfl)
    dsimp only at hy
    gi_wp2_with (gi_at_call 174; refine (hHas _ _ hFi _).out.mono ?_; rintro e w' ⟨rfl, rfl⟩)
    refine hR.mono ?_
    rintro e W3 (⟨rfl, hJ3, hk3⟩ | ⟨rfl, hJx3⟩)
    ·gi_wp2
     go_roundw
     case rel => exact ⟨k + 1, _, by omega, by go_num, hp'.out, hJ3, hk3 hB⟩
     case measure => simp [intOf]; omega
    ·gi_wp2
     refine bodyPost_ret (results_none rfl _ _ _) rfl ?_
     exact ⟨⟨_, rfl⟩, .inr ⟨_, trivial, hJx3⟩⟩
  ·obtain rfl : k = 12 := by omega
   gi_wp2
   go_end0
   exact ⟨⟨_, rfl⟩, .inl ⟨pre, hp, hJs⟩⟩

theorem atomsSeq_calls (m : Nat) (w : World) :
  Calls Tryz.prog 187 #[.int .u16 (m : Int)] w fun e w' => e = .returned (.func (.func 234) #[] #[.pointer (some ⟨w.heap.size, 0, none⟩)]) ∧ w' = w.alloc (.cells #[.int .u16 (m : Int)] 106) := by
 have hmf : ∀ (fn : Fn) (first cap : Array Value) (w : World), (Instr.makeFunc fn first cap).run Tryz.prog w = .ok (.func fn first cap) w := fun _ _ _ _ => rfl
 go_enter Tryz.func187, Tryz.ntmps187
 go_wp2
 go_ret
 exact ⟨rfl, rfl⟩

theorem ownI_atoms {w : World} {lo : Nat} {v : Value} {ys : List AtomI} {xs : List Int} (h : w.ownsRow lo 3 1 v ys.length (ys.map fun x => Value.int .i64 x.1)) (hs : ys.map (·.1) = xs) (hl : xs.length ≤ 12) : OwnI lo w v xs := by
 subst hs
 rw [List.length_map] at hl
 refine ⟨by rw [List.length_map, List.map_map]; exact h, by rw [List.length_map]; omega, fun n hn => ?_⟩
 obtain ⟨x, _, rfl⟩ := List.mem_map.1 hn
 have := x.2
 exact ⟨by omega, by omega⟩

set_option maxHeartbeats 4000000 in
theorem appendSeq_calls (m : Nat) (hm : m < 4096) (w : World) (v : Value) (lo Bn : Nat) (ho : OwnI lo w v []) (hlo : lo ≤ w.heap.size) (hb : Boxed w Bn 106 (.int .u16 (m : Int))) :
  Calls Tryz.prog 185 #[v, .func (.func 234) #[] #[.pointer (some ⟨Bn, 0, none⟩)]] w fun e w' => ∃ v', e = .returned v' ∧ OwnI lo w' v' (pickTo (hasM m) 12) ∧ Below lo w w' := by
 obtain ⟨i0, hi, hz0, hz1, hz2⟩ := info_parts info_int
 obtain ⟨av, kv, rfl, _, _⟩ := ho.open
 refine (callsIn_wide (n := 5)).1 ?_
 obtain ⟨F, hF⟩ : ∃ F, F = Fence.wide := ⟨_, rfl⟩
 rw [← hF]
 have hro := wideR hF
 have hseq := fun W hW => atoms_stops hF 4 (by omega) m hm W Bn hW
 have hf1 : F.fn 234 := wideF hF _
 refine callsIn_of_wp_marks Tryz.func185 rfl (wideF hF _) ?_ hro
 clear hF
 simp only [Tryz.ntmps185, List.size_toArray, List.length_cons, List.length_nil, Nat.reduceAdd, Nat.reduceSub, Array.replicate_succ, Array.replicate_zero, List.push_toArray, List.append_toArray, List.nil_append, List.cons_append]
 gi_wp2
 have bO := Boxed.new w 26 (.slice av ([] : List Int).length kv)
 have hB0 : Below lo w (w.alloc (.cells #[.slice av ([] : List Int).length kv] 26)) := (Below.refl _ w).alloc hlo _
 have hbl := hb.lt
 refine wpIn_rangeFunc_ownG hro (by omega) (gf := 234) (lb := #[.pointer (some ⟨Bn, 0, none⟩)]) rfl hf1 (enters_of Tryz.func234 (by kernel_rfl) rfl)
  (hseq _ (hb.alloc _)) kpB_t kpB_b (Below.refl _ _) (fun _ => rfl)
  (fun pre W => (∃ v, Boxed W w.heap.size 26 v ∧ W.ownsRow lo 3 1 v pre.length (pre.map fun x => Value.int .i64 x.1) ∧ True) ∧ Below lo w W)
  (fun _ _ _ => False)
  (OwnFrom.and (Own.from (holdsRow_own lo w.heap.size 26 3 1 (fun pre : List AtomI => pre.length) (fun pre => pre.map fun x => Value.int .i64 x.1) (fun _ _ => True)) _) (ownFrom_below hlo (by simp; omega)))
  (fun _ _ _ _ _ hs _ _ => hs)
  ⟨⟨_, bO, (ho.kept ((Below.refl _ _).alloc (Nat.le_refl _) _)).1, trivial⟩, hB0⟩
  (fun x => { tmps := #[.slice av ([] : List Int).length kv, .func (.func 234) #[] #[.pointer (some ⟨Bn, 0, none⟩)], .pointer (some ⟨w.heap.size, 0, none⟩), undef, .slice none 0 0, .int .i64 x.1, .func (.func 234) #[] #[.pointer (some ⟨Bn, 0, none⟩)], .int .i64 x.1, undef, undef, undef, undef, undef], defers := [] }) ?assign ?body ?done ?stop
 case assign =>
  intro l x W K hK
  gi_wp2
  exact hK
 case body =>
  rintro l pre x W ⟨⟨v, hv, hrow, _⟩, hB⟩ hlt
  have hc := hv.cell
  gi_wp2_with (gi_at_builtin; refine wpListIn_append_own _ rfl _ _ 26 rfl lo 3 i0 (.int .i64 0) 1 8 Tryz.underlying26 hi hz0 hz1 hz2 rfl (by decide) _ _ _ rfl (hrow.alloc _) ⟨W.heap.size, 0, none⟩ 1 1 [.int .i64 x.1] rfl rfl (cell_one_new _ _ _) (by simp [Value.oneCell']) (by unfold maxLen; omega) (by omega) (by have := hB.size; simp; omega) ?_; intro v' w1 hown' hgrow _; obtain ⟨g', cap', rfl⟩ := ownsRow_succ hown'; obtain ⟨hv1, hv2, hr2, hk2, hb2⟩ := hv.appended (by decide) hrow (Nat.le_trans hlo hB.size) hlo hown' hgrow; have hc1 := hv1.cell; have hz1 := hv1.frozen)
  refine ⟨hk2.from _, fun hbB => ?_, ⟨_, hv2, by simpa using hr2, trivial⟩, hB.trans hb2⟩
  exact Boxed.other ((hbB.alloc _).kept hgrow (hbB.not_row (by decide) hrow)) (by omega) _
 case done =>
  rintro D ys W hD hS ⟨⟨v, hv, hrow, _⟩, hB⟩ hK
  have hc := hv.cell
  gi_wp2
  refine ⟨by simp, .inl ⟨_, _, rfl, run_takeDeferred hK, ?_⟩⟩
  exact ⟨_, results_tmp rfl _ _ _, v, rfl, ownI_atoms (ownsRow_putObj hrow _ hK rfl) hS (pickTo_len _ _), hB.trans (belowK_b (w := w) hlo W D _ _ (by simp at hD; omega) hK rfl rfl)⟩
 case stop =>
  rintro D c pre W _ _ h _
  exact h.elim

theorem step_make_own {P : Program} (w : World) {ops : Array Oper} {o : Oper} {a : Act} {K : Act → World → Prop} {Q : Exit → Act → World → Prop} {E : Prop}
  (hg : o.guard = none) (l c : Operand) (t : TypeId) (hop : o.op = Op.makeSlice t l c)
  (base : Nat) (e : TypeId) (i : TypeInfo) (z : Value) (size : Nat) (h1 : P.underlying t = some (.slice e)) (h2 : P.info? e = some i) (h3 : i.zero = some z) (h4 : i.size = size)
  (kl kc : IntKind) (C : Int) (n : Nat) (hl : a.eval l = .int kl 0) (hc : a.eval c = .int kc C) (hC : C = (n : Int)) (b2 : i.bytes * n ≤ 281474976710656) (b3 : n ≤ maxLen) (b4 : base ≤ w.heap.size)
  (hK : ∀ w', w'.ownsRow base e size (.slice (some ⟨w.heap.size, 0, none⟩) 0 n) 0 [] → w.grownBy w' none → K (a.put o.dst (.slice (some ⟨w.heap.size, 0, none⟩) 0 n)) w') :
  if Region.wanted o (yielded ops a.tmps) = true then Oper.wp P o a w K Q else E := by
 have hw : Region.wanted o (yielded ops a.tmps) = true := by unfold Region.wanted; rw [hg]
 rw [if_pos hw]
 obtain ⟨w', hrun, r1, r2⟩ := run_make_own (P := P) w base t e i z size h1 h2 h3 h4 kl kc n b2 b3 b4
 subst hC
 unfold Oper.wp
 simp [execOp, hop, hl, hc, hrun, Result.andThen]
 exact hK w' r1 r2

set_option maxHeartbeats 2000000 in
theorem list_calls (m : Nat) (w : World) (hm : m < 4096) :
  Calls Tryz.prog 95 #[.int .u16 (m : Int)] w fun e w' => ∃ v, e = .returned v ∧ OwnI w.heap.size w' v (pickTo (hasM m) 12) ∧ Below w.heap.size w w' := by
 obtain ⟨i0, hi, hz0, hz1, hz2⟩ := info_parts info_int
 go_enter Tryz.func95, Tryz.ntmps95
 go_wp2
 refine wp_region_held_drew (S := fun _ => True) (by kernel_rfl) trivial (fun hHeld => ?_)
 refine wpAnyH_take (i := 0) (v := .int .u16 (m : Int)) rfl (by kernel_rfl) (by kernel_rfl) (by kernel_rfl) (fun _ _ _ h => h) (Or.inl ⟨by rfl, fun w' hw' => ?_⟩) hHeld ?_
 ·go_simp
 try simp only [Act.put, put1, put2, put3]
 refine wpAnyH_take (i := 3) (v := .int .u16 (m : Int)) rfl (by kernel_rfl) (by kernel_rfl) (by kernel_rfl) (fun _ _ _ h => h) (Or.inl ⟨by rfl, fun w' hw' => ?_⟩) hHeld ?_
 ·go_simp
 try simp only [Act.put, put1, put2, put3]
 refine wpAnyH_ready (rs := [1]) (by kernel_rfl) (by simp) ?_
 refine AllReadyH.cons rfl (fun K hK => ?_) AllReadyH.nil
 go_simp
 refine (size_calls _ _ hm).mono ?_
 rintro e w1 ⟨c, hc, rfl, hb1⟩
 have hb1 : Below w.heap.size w w1 := (Below.refl _ w).drew.trans hb1
 refine hK.out _ _ trivial (fun hHeld => ?_)
 clear hK K
 try simp only [Act.put, put1, put2, put3]
 refine wpAnyH_ready (rs := [2, 4]) (by kernel_rfl) (by simp) ?_
 refine AllReadyH.cons rfl (fun K hK => ?_) (AllReadyH.cons rfl (fun K hK => ?_) AllReadyH.nil)
 ·refine step_make_own _ rfl _ _ 26 rfl w.heap.size 3 i0 (.int .i64 0) 1 Tryz.underlying26 hi hz0 hz1 .i64 .i64 (c : Int) c rfl rfl rfl (by rw [hz2]; omega) (by unfold maxLen; omega) hb1.size (fun w2 hown hgrow => ?_)
  have ho0 : OwnI w.heap.size w2 (.slice (some ⟨w1.heap.size, 0, none⟩) 0 c) [] := ⟨hown, by simp, by simp⟩
  have hb2 : Below w.heap.size w w2 := hb1.grown hgrow hb1.size (fun k hk => by cases hk)
  clear hown hgrow
  refine hK.out _ _ trivial (fun hHeld => ?_)
  clear hK K
  try simp only [Act.put, put1, put2, put3]
  refine wpAnyH_ready (rs := [4]) (by kernel_rfl) (by simp) ?_
  refine AllReadyH.cons rfl (fun K hK => ?_) AllReadyH.nil
  go_simp
  refine (atomsSeq_calls _ _).mono ?_
  rintro e w3 ⟨rfl, rfl⟩
  have hbx := Boxed.new w2 106 (.int .u16 (m : Int))
  have ho1 := ho0.kept ((Below.refl w2.heap.size w2).alloc (Nat.le_refl _) (.cells #[.int .u16 (m : Int)] 106))
  have hb3 := hb2.alloc hb2.size (.cells #[.int .u16 (m : Int)] 106)
  refine hK.out _ _ trivial (fun hHeld => ?_)
  clear hK K
  try simp only [Act.put, put1, put2, put3]
  refine wpAnyH_ready (rs := [5]) (by kernel_rfl) (by simp) ?_
  refine AllReadyH.cons rfl (fun K hK => ?_) AllReadyH.nil
  go_simp
  refine (appendSeq_calls m hm _ _ w.heap.size w2.heap.size ho1 hb3.size hbx).mono ?_
  rintro e w4 ⟨v4, rfl, ho4, hb4⟩
  refine hK.out _ _ trivial (fun hHeld => ?_)
  clear hK K
  try simp only [Act.put, put1, put2, put3]
  refine wpAnyH_ready (rs := [6]) (by kernel_rfl) (by simp) ?_
  refine AllReadyH.cons rfl (fun K hK => ?_) AllReadyH.nil
  go_simp
  refine hK.out _ _ trivial (fun hHeld => ?_)
  clear hK K
  try simp only [Act.put, put1, put2, put3]
  refine wpAnyH_done (by kernel_rfl) ?_ _
  go_wp2
  go_ret
  exact ⟨_, rfl, ho4, hb3.trans hb4⟩
 ·go_simp
  refine (atomsSeq_calls _ _).mono ?_
  rintro e w3 ⟨rfl, rfl⟩
  have hbx0 := Boxed.new w1 106 (.int .u16 (m : Int))
  have hb2 := hb1.alloc hb1.size (.cells #[.int .u16 (m : Int)] 106)
  refine hK.out _ _ trivial (fun hHeld => ?_)
  clear hK K
  try simp only [Act.put, put1, put2, put3]
  refine wpAnyH_ready (rs := [2]) (by kernel_rfl) (by simp) ?_
  refine AllReadyH.cons rfl (fun K hK => ?_) AllReadyH.nil
  refine step_make_own _ rfl _ _ 26 rfl w.heap.size 3 i0 (.int .i64 0) 1 Tryz.underlying26 hi hz0 hz1 .i64 .i64 (c : Int) c rfl rfl rfl (by rw [hz2]; omega) (by unfold maxLen; omega) hb2.size (fun w2 hown hgrow => ?_)
  have ho1 : OwnI w.heap.size w2 (.slice (some ⟨w1.heap.size + 1, 0, none⟩) 0 c) [] := ⟨by rw [World.size_alloc] at hown; exact hown, by simp, by simp⟩
  have hb3 : Below w.heap.size w w2 := hb2.grown hgrow hb2.size (fun k hk => by cases hk)
  have hbx := hbx0.kept hgrow (fun h => by cases h)
  clear hown hgrow
  refine hK.out _ _ trivial (fun hHeld => ?_)
  clear hK K
  try simp only [Act.put, put1, put2, put3]
  refine wpAnyH_ready (rs := [5]) (by kernel_rfl) (by simp) ?_
  refine AllReadyH.cons rfl (fun K hK => ?_) AllReadyH.nil
  go_simp
  refine (appendSeq_calls m hm _ _ w.heap.size w1.heap.size ho1 hb3.size hbx).mono ?_
  rintro e w4 ⟨v4, rfl, ho4, hb4⟩
  refine hK.out _ _ trivial (fun hHeld => ?_)
  clear hK K
  try simp only [Act.put, put1, put2, put3]
  refine wpAnyH_ready (rs := [6]) (by kernel_rfl) (by simp) ?_
  refine AllReadyH.cons rfl (fun K hK => ?_) AllReadyH.nil
  go_simp
  refine hK.out _ _ trivial (fun hHeld => ?_)
  clear hK K
  try simp only [Act.put, put1, put2, put3]
  refine wpAnyH_done (by kernel_rfl) ?_ _
  go_wp2
  go_ret
  exact ⟨_, rfl, ho4, hb3.trans hb4⟩

end Go.Proofs.YthikhkeofcjdfaaGreat
