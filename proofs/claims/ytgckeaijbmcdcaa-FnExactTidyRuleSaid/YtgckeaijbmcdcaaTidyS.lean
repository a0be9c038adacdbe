/-
  spec's literals in order, once, added up. No condition of its own.
-/
import Derived.Test.YtgckeaijbmcdcaaTidyD
import Derived.Test.YtgckeaijbmcdcaaBody
import Derived.Test.YtgckeaijbmcdcaaPair
import Derived.IntWalk
import Derived.BigQuiet
import Derived.Deep.QuietTactic
namespace Go.Proofs.Ytgckeaijbmcdcaa
open Go.RowKit
set_option maxRecDepth 100000

/-- A body whose literals are atoms' and whose W are ones of a rule. -/
def WOk (xs : List (Int × Int)) : Prop := xs.length ≤ 20 ∧ ∀ p ∈ xs, ((1 ≤ p.1 ∧ p.1 ≤ 12) ∨ (-12 ≤ p.1 ∧ p.1 ≤ -1)) ∧ 1 ≤ p.2 ∧ p.2 ≤ 1000
theorem WOk.w {xs : List (Int × Int)} (h : WOk xs) : ∀ p ∈ xs, 1 ≤ p.2 ∧ p.2 ≤ 1000 := fun p hp => (h.2 p hp).2

set_option maxHeartbeats 1000000 in
theorem l04Sum_calls {v : Value} {xs : List (Int × Int)} {w : World} (l : Int) (h : RdL w [v] xs) (hw : WOk xs) :
    Calls Try.prog 53 #[v, .int .i64 l] w fun e w' => e = .returned (.int .i64 (sumH (fun p => p.1 != l) xs)) ∧ w = w' := by
  obtain ⟨a, cap, rfl, _, h⟩ := h.sl
  have hm := h.1
  have hl := hw.1
  have HW := Lib.hid hw
  clear hw
  go_enter Try.func53, Try.ntmps53
  go_wp2
  go_loop [5, 6] (fun s i => ∃ k : Nat, k ≤ xs.length ∧ i = .int .i64 k ∧ s = .int .i64 (sumH (fun p => p.1 != l) (xs.take k))) (fun _ i => xs.length - (intOf i).toNat)
  case atStart => exact ⟨0, Nat.zero_le _, rfl, rfl⟩
  case round =>
    obtain ⟨k, hk, rfl, rfl⟩ := hrel
    have hsb := sumH_take_bd (f := fun p => p.1 != l) k HW.out.w hl
    obtain ⟨sv, hsv⟩ : ∃ sv, sv = sumH (fun p => p.1 != l) (xs.take k) := ⟨_, rfl⟩
    rw [← hsv] at hsb ⊢
    obtain ⟨hs0, hs1⟩ := hsb
    by_cases hlt : k < xs.length
    · obtain ⟨b, off, rfl, hc⟩ := h.base (by omega)
      obtain ⟨ecs, hC, rfl, hf1, hf2⟩ := hc k hlt
      have hpw := HW.out.w _ (nth_mem hlt)
      obtain ⟨hp0, hp1⟩ := hpw
      have u0 := hC.c0
      have u1 := hC.c1
      rw [show Rd.k (Int × Int) = 2 from rfl] at u0 u1
      cases hd : ((nth xs k).1 != l)
      · have hn := Lib.hid (hsv.trans (sumH_no (f := fun p => p.1 != l) hlt hd).symm)
        clear hC hc h hsv
        go_wp2
        go_round
        case rel => exact ⟨k + 1, by omega, by go_num, by rw [← hn.out]⟩
        case measure => simp [intOf]; omega
      · have hn0 : sv + (nth xs k).2 = sumH (fun p => p.1 != l) (xs.take (k + 1)) := by rw [sumH_yes (f := fun p => p.1 != l) hlt hd, hsv]
        have hn := Lib.hid hn0
        clear hn0
        clear hC hc h hsv
        go_wp2
        go_round
        case rel => exact ⟨k + 1, by omega, by go_num, by rw [← hn.out]⟩
        case measure => simp [intOf]; omega
    · have he := Lib.hid (hsv.trans (sumH_end (f := fun p => p.1 != l) (l := xs) (k := k) (by omega)))
      clear hsv h
      go_wp2
      go_ret
      exact ⟨ret_int he.out, rfl⟩

theorem filt_yes {xs : List (Int × Int)} {k : Nat} {l : Int} (hk : k < xs.length) (h : ((nth xs k).1 == l) = true) : (xs.take (k + 1)).filter (fun p => p.1 == l) = (xs.take k).filter (fun p => p.1 == l) ++ [nth xs k] := by
  rw [take_nth hk, List.filter_append]; simp [h]
theorem filt_no {xs : List (Int × Int)} {k : Nat} {l : Int} (hk : k < xs.length) (h : ((nth xs k).1 == l) = false) : (xs.take (k + 1)).filter (fun p => p.1 == l) = (xs.take k).filter (fun p => p.1 == l) := by
  rw [take_nth hk, List.filter_append]; simp [h]
theorem filt_len (xs : List (Int × Int)) (k : Nat) (l : Int) : ((xs.take k).filter (fun p => p.1 == l)).length ≤ xs.length :=
  Nat.le_trans (List.length_filter_le _ _) (by rw [List.length_take]; omega)
theorem ordTo_len (xs : List (Int × Int)) : ∀ k, (ordTo xs k).length ≤ 2 * k * xs.length
  | 0 => by simp [ordTo]
  | k + 1 => by
    have ih := ordTo_len xs k
    have h1 := List.length_filter_le (fun p : Int × Int => p.1 == (k : Int) + 1) xs
    have h2 := List.length_filter_le (fun p : Int × Int => p.1 == -((k : Int) + 1)) xs
    show (ordTo xs k ++ (_ ++ _)).length ≤ _
    rw [List.length_append, List.length_append]
    have e : 2 * (k + 1) * xs.length = 2 * k * xs.length + (xs.length + xs.length) := by rw [Nat.mul_add, Nat.add_mul]; omega
    omega

def midL (xs : List (Int × Int)) (a k : Nat) : List (Int × Int) := if k = 0 then ordTo xs a else if k = 1 then ordTo xs a ++ xs.filter (fun p => p.1 == (a : Int) + 1) else ordTo xs (a + 1)
set_option maxHeartbeats 4000000 in
theorem l04Ordered_calls {v : Value} {xs : List (Int × Int)} {w : World} (h : RdL w [v] xs) (hl : xs.length ≤ 1000) :
    Calls Try.prog 55 #[v] w fun e w' => ∃ v', e = .returned v' ∧ PRow w.heap.size (fun f => w.heap.size ≤ f) w' v' (ordL xs) ∧ Below w.heap.size w w' := by
  obtain ⟨a, cap, rfl, _, h⟩ := h.sl
  obtain ⟨i0, hi, hz0, hz1, hz2⟩ := info_parts info_cloneWLit
  have hm := h.1
  have hmade : PRow w.heap.size (fun f => w.heap.size ≤ f) (w.alloc (.cells #[] 84)) (.slice (some ⟨w.heap.size, 0, none⟩) 0 0) [] :=
    PRow.lit w _ (Nat.le_refl _)
  have hbel : Below w.heap.size w (w.alloc (.cells #[] 84)) := (Below.refl _ _).alloc (Nat.le_refl _) _
  go_enter Try.func55, Try.ntmps55
  go_wp2
  go_loopw [3, 4] (fun v i wr => ∃ a : Nat, a ≤ 12 ∧ i = .int .i64 ((a : Int) + 1) ∧ PRow w.heap.size (fun f => w.heap.size ≤ f) wr v (ordTo xs a) ∧ Below w.heap.size w wr) (fun _ i _ => 13 - (intOf i).toNat)
  case atStart => exact ⟨0, by omega, rfl, hmade, hbel⟩
  case round =>
    obtain ⟨a, ha, rfl, ho, hb⟩ := hrel
    clear hmade hbel
    have hsz := hb.size
    by_cases hlt : a < 12
    · have han : (a : Int) ≤ 12 := by omega
      have hab : decide ((a : Int) + 1 ≤ 12) = true := by simp; omega
      have hal := (Below.refl wr.heap.size wr).alloc (Nat.le_refl _) (.cells #[.int .i64 ((a : Int) + 1), .int .i64 (-((a : Int) + 1))] 3)
      have hgM := alloc_block wr #[.int .i64 ((a : Int) + 1), .int .i64 (-((a : Int) + 1))] 3
      have hoM := (ho.bound.weak (Nat.le_refl _) (D' := fun f => w.heap.size ≤ f ∧ f ≠ wr.heap.size) fun f hf => ⟨hf.1, by omega⟩).later hal
      have hbM := hb.alloc hsz (.cells #[.int .i64 ((a : Int) + 1), .int .i64 (-((a : Int) + 1))] 3)
      have hol := ordTo_len xs a
      have hol2 : 2 * a * xs.length ≤ 24 * 1000 := Nat.mul_le_mul (by omega) hl
      have hfl := List.length_filter_le (fun p : Int × Int => p.1 == (a : Int) + 1) xs
      clear ho hb hal
      obtain ⟨wo, rfl⟩ : ∃ wo : World, wo = wr := ⟨_, rfl⟩
      go_wp2
      go_loopw [3, 18] (fun v i wr => ∃ (k : Nat) (z : Int), k ≤ 2 ∧ z = (k : Int) ∧ i = .int .i64 z ∧ PRow w.heap.size (fun f => w.heap.size ≤ f ∧ f ≠ wo.heap.size) wr v (midL xs a k) ∧ wr.heap[wo.heap.size]? = some (.cells #[.int .i64 ((a : Int) + 1), .int .i64 (-((a : Int) + 1))] 3 (0, 0)) ∧ Below w.heap.size w wr) (fun _ i _ => 2 - (intOf i).toNat)
      case atStart => exact ⟨0, 0, by omega, rfl, rfl, hoM, hgM, hbM⟩
      case round =>
        clear hoM hgM hbM
        obtain ⟨k, z, hk, hz, rfl, hoM, hgM, hbM⟩ := hrel
        obtain ⟨wm, rfl⟩ : ∃ wm : World, wm = wr := ⟨_, rfl⟩
        rcases (show k = 0 ∨ k = 1 ∨ k = 2 by omega) with rfl | rfl | rfl
        · obtain rfl : z = (0 : Int) := hz
          have c0 : wm.cell? ⟨wo.heap.size, 0, none⟩ = some (.int .i64 ((a : Int) + 1)) := by rw [cell_of_row wm wo.heap.size 0 _ _ _ hgM]; rfl
          rw [show midL xs a 0 = ordTo xs a from rfl] at hoM
          go_wp2
          go_loopw [3, 7] (fun v i wr => ∃ k : Nat, k ≤ xs.length ∧ i = .int .i64 k ∧ PRow w.heap.size (fun f => w.heap.size ≤ f ∧ f ≠ wo.heap.size) wr v (ordTo xs a ++ (xs.take k).filter (fun p => p.1 == (a : Int) + 1)) ∧ wr.heap[wo.heap.size]? = some (.cells #[.int .i64 ((a : Int) + 1), .int .i64 (-((a : Int) + 1))] 3 (0, 0)) ∧ Below w.heap.size w wr) (fun _ i _ => xs.length - (intOf i).toNat)
          case atStart => exact ⟨0, Nat.zero_le _, rfl, by simpa using hoM, hgM, hbM⟩
          case round =>
            clear c0 hoM hgM hbM
            obtain ⟨k, hk, rfl, ho, hg2, hb⟩ := hrel
            have hsz := hb.size
            have hg2l := block_lt hg2
            by_cases hlt : k < xs.length
            · obtain ⟨b, off, rfl, hc⟩ := h.base (by omega)
              obtain ⟨ecs, hC, rfl, hf1, hf2⟩ := hc k hlt
              have hC := hC.later hb
              have u0 := hC.c0
              have u1 := hC.c1
              rw [show Rd.k (Int × Int) = 2 from rfl] at u0 u1
              have hflen := filt_len xs k ((a : Int) + 1)
              cases hd : ((nth xs k).1 == (a : Int) + 1)
              · have hn := Lib.hid (filt_no hlt hd)
                clear hC hc hflen
                go_wp2
                go_roundw
                case rel => exact ⟨k + 1, by omega, by go_num, by rw [hn.out]; exact ho, hg2, hb⟩
                case measure => simp [intOf]; omega
              · have hn := Lib.hid (filt_yes hlt hd)
                have hbA := (Below.refl wr.heap.size wr).alloc (Nat.le_refl _) (.cells #[.int .i64 (nth xs k).1, .int .i64 (nth xs k).2] 84)
                have hcn := Cells.new wr [.int .i64 (nth xs k).1, .int .i64 (nth xs k).2] 84
                obtain ⟨v4, w4, r4, o4, b4, k4⟩ := PRow.append (P := Try.prog) (t := 46) (ty := 46) (c := 1) i0 _ Try.underlying46 hi hz0 hz1 hz2 rfl (ho.later hbA) hcn ⟨hf1, hf2⟩ (by rw [List.length_append]; omega) (by simp; omega)
                have o4' := Lib.hid (o4.weak (Nat.le_refl _) (D' := fun f => w.heap.size ≤ f ∧ f ≠ wo.heap.size) fun f hf => by
                  rcases hf with hf | hf
                  · exact hf
                  · rw [World.size_alloc] at hf; omega)
                have g4 := Lib.hid (((k4 wo.heap.size (by simp; omega) (fun hd => hd.2 rfl)).trans (hbA.block wo.heap.size hg2l)).trans hg2)
                have hb4 := Lib.hid ((hb.alloc hsz (.cells #[.int .i64 (nth xs k).1, .int .i64 (nth xs k).2] 84)).trans b4)
                clear hC hc hflen o4 b4 k4 hbA hcn ho hg2
                go_wp2_with (at_builtin; refine wpList_append_of rfl _ _ rfl rfl rfl r4 ?_)
                go_roundw
                case rel => exact ⟨k + 1, by omega, by go_num, by rw [hn.out, ← List.append_assoc]; exact o4'.out, g4.out, hb4.out⟩
                case measure => simp [intOf]; omega
            · have hkx : Hid (xs.take k = xs) := List.take_of_length_le (by omega)
              rw [hkx.out] at ho
              go_wp2
              go_roundw
              case rel => exact ⟨1, 1, by omega, rfl, rfl, ho, hg2, hb⟩
              case measure => simp [intOf]
        · obtain rfl : z = (1 : Int) := hz
          have c0 : wm.cell? ⟨wo.heap.size, 1, none⟩ = some (.int .i64 (-((a : Int) + 1))) := by rw [cell_of_row wm wo.heap.size 1 _ _ _ hgM]; rfl
          rw [show midL xs a 1 = ordTo xs a ++ xs.filter (fun p => p.1 == (a : Int) + 1) from rfl] at hoM
          have hfl2 : (ordTo xs a ++ xs.filter (fun p => p.1 == (a : Int) + 1)).length ≤ 25000 := by rw [List.length_append]; omega
          go_wp2
          go_loopw [3, 7] (fun v i wr => ∃ k : Nat, k ≤ xs.length ∧ i = .int .i64 k ∧ PRow w.heap.size (fun f => w.heap.size ≤ f ∧ f ≠ wo.heap.size) wr v ((ordTo xs a ++ xs.filter (fun p => p.1 == (a : Int) + 1)) ++ (xs.take k).filter (fun p => p.1 == -((a : Int) + 1))) ∧ wr.heap[wo.heap.size]? = some (.cells #[.int .i64 ((a : Int) + 1), .int .i64 (-((a : Int) + 1))] 3 (0, 0)) ∧ Below w.heap.size w wr) (fun _ i _ => xs.length - (intOf i).toNat)
          case atStart => exact ⟨0, Nat.zero_le _, rfl, by simpa using hoM, hgM, hbM⟩
          case round =>
            clear c0 hoM hgM hbM
            obtain ⟨k, hk, rfl, ho, hg2, hb⟩ := hrel
            have hsz := hb.size
            have hg2l := block_lt hg2
            by_cases hlt : k < xs.length
            · obtain ⟨b, off, rfl, hc⟩ := h.base (by omega)
              obtain ⟨ecs, hC, rfl, hf1, hf2⟩ := hc k hlt
              have hC := hC.later hb
              have u0 := hC.c0
              have u1 := hC.c1
              rw [show Rd.k (Int × Int) = 2 from rfl] at u0 u1
              have hflen := filt_len xs k (-((a : Int) + 1))
              cases hd : ((nth xs k).1 == -((a : Int) + 1))
              · have hn := Lib.hid (filt_no hlt hd)
                clear hC hc hflen
                go_wp2
                go_roundw
                case rel => exact ⟨k + 1, by omega, by go_num, by rw [hn.out]; exact ho, hg2, hb⟩
                case measure => simp [intOf]; omega
              · have hn := Lib.hid (filt_yes hlt hd)
                have hbA := (Below.refl wr.heap.size wr).alloc (Nat.le_refl _) (.cells #[.int .i64 (nth xs k).1, .int .i64 (nth xs k).2] 84)
                have hcn := Cells.new wr [.int .i64 (nth xs k).1, .int .i64 (nth xs k).2] 84
                obtain ⟨v4, w4, r4, o4, b4, k4⟩ := PRow.append (P := Try.prog) (t := 46) (ty := 46) (c := 1) i0 _ Try.underlying46 hi hz0 hz1 hz2 rfl (ho.later hbA) hcn ⟨hf1, hf2⟩ (by rw [List.length_append]; omega) (by simp; omega)
                have o4' := Lib.hid (o4.weak (Nat.le_refl _) (D' := fun f => w.heap.size ≤ f ∧ f ≠ wo.heap.size) fun f hf => by
                  rcases hf with hf | hf
                  · exact hf
                  · rw [World.size_alloc] at hf; omega)
                have g4 := Lib.hid (((k4 wo.heap.size (by simp; omega) (fun hd => hd.2 rfl)).trans (hbA.block wo.heap.size hg2l)).trans hg2)
                have hb4 := Lib.hid ((hb.alloc hsz (.cells #[.int .i64 (nth xs k).1, .int .i64 (nth xs k).2] 84)).trans b4)
                clear hC hc hflen o4 b4 k4 hbA hcn ho hg2
                go_wp2_with (at_builtin; refine wpList_append_of rfl _ _ rfl rfl rfl r4 ?_)
                go_roundw
                case rel => exact ⟨k + 1, by omega, by go_num, by rw [hn.out, ← List.append_assoc]; exact o4'.out, g4.out, hb4.out⟩
                case measure => simp [intOf]; omega
            · have hkx : Hid (xs.take k = xs) := List.take_of_length_le (by omega)
              rw [hkx.out] at ho
              go_wp2
              go_roundw
              case rel => exact ⟨2, 2, by omega, rfl, rfl, by rw [List.append_assoc] at ho; exact ho, hg2, hb⟩
              case measure => simp [intOf]
        · obtain rfl : z = (2 : Int) := hz
          rw [show midL xs a 2 = ordTo xs (a + 1) from rfl] at hoM
          have hoN := Lib.hid (hoM.weak (Nat.le_refl _) (D' := fun f => w.heap.size ≤ f) fun f hf => hf.1)
          clear hoM
          go_wp2
          go_roundw
          case rel => exact ⟨a + 1, by omega, by go_num, hoN.out, hbM⟩
          case measure => simp [intOf]; omega
    · obtain rfl : a = 12 := by omega
      go_wp2
      go_ret
      exact ⟨_, rfl, ho, hb⟩

/-- Each literal once, with a W of 1. -/
def newB (ys : List (Int × Int)) (k : Nat) : Bool := decide (k = 0) || ((nth ys k).1 != (nth ys (k - 1)).1)
def onceTo (ys : List (Int × Int)) : Nat → List (Int × Int)
  | 0 => []
  | k + 1 => if newB ys k then onceTo ys k ++ [((nth ys k).1, 1)] else onceTo ys k
theorem onceTo_yes {ys : List (Int × Int)} {k : Nat} (h : newB ys k = true) : onceTo ys (k + 1) = onceTo ys k ++ [((nth ys k).1, 1)] := by simp [onceTo, h]
theorem onceTo_no {ys : List (Int × Int)} {k : Nat} (h : newB ys k = false) : onceTo ys (k + 1) = onceTo ys k := by simp [onceTo, h]
theorem onceTo_len (ys : List (Int × Int)) : ∀ k, (onceTo ys k).length ≤ k
  | 0 => by simp [onceTo]
  | k + 1 => by
    have := onceTo_len ys k
    unfold onceTo
    split
    · rw [List.length_append, List.length_singleton]; omega
    · omega
def onceL (xs : List (Int × Int)) : List (Int × Int) := onceTo (ordL xs) (ordL xs).length

set_option maxHeartbeats 4000000 in
theorem l04Once_calls {v : Value} {xs : List (Int × Int)} {w : World} (h : RdL w [v] xs) (hl : xs.length ≤ 1000) :
    Calls Try.prog 56 #[v] w fun e w' => ∃ v', e = .returned v' ∧ PRow w.heap.size (fun f => w.heap.size ≤ f) w' v' (onceL xs) ∧ Below w.heap.size w w' := by
  obtain ⟨i0, hi, hz0, hz1, hz2⟩ := info_parts info_cloneWLit
  have hbel : Below w.heap.size w (w.alloc (.cells #[] 84)) := (Below.refl _ _).alloc (Nat.le_refl _) _
  have hmade := PRow.lit w (fun f => f = w.heap.size) rfl
  have hol : (ordL xs).length ≤ 24000 := Nat.le_trans (ordTo_len xs 12) (Nat.mul_le_mul_left _ hl)
  obtain ⟨a, cap, rfl, _⟩ := h.sl
  go_enter Try.func56, Try.ntmps56
  go_wp2_with fail
  refine (l04Ordered_calls (Rd.mono (α := List (Int × Int)) hbel h) hl).mono ?_
  rintro e w2 ⟨v2, rfl, o2, b2⟩
  have hmade := hmade.later b2
  have t2 := hbel.step b2
  have z2 := b2.size
  rw [World.size_alloc] at o2 z2
  obtain ⟨ys, hys⟩ : ∃ ys, ys = ordL xs := ⟨_, rfl⟩
  rw [← hys] at o2 hol
  have HY := Lib.hid hys
  clear hys h hbel b2
  have hlY : (ys.length : Int) ≤ 24000 := by omega
  obtain ⟨ay, cy, rfl, hyC⟩ : ∃ ay cy, v2 = .slice ay ys.length cy ∧ (0 < ys.length → ∃ gy, ay = some ⟨gy, 0, none⟩ ∧ w.heap.size < gy ∧ gy < w2.heap.size ∧ ∀ i, i < ys.length → w2.cell? ⟨gy, i * 2, none⟩ = some (.int .i64 (nth ys i).1)) := by
    rcases o2.form with ⟨rfl, rfl⟩ | ⟨g, c, rfl, _, _, hD, hB, hlt⟩
    · exact ⟨none, 0, rfl, fun h => by simp at h⟩
    · exact ⟨_, c, rfl, fun _ => ⟨g, rfl, by omega, hlt, fun i hi => (o2.cell hi).1⟩⟩
  have hyF := o2.fits
  clear o2
  go_wp2
  go_loopw [3, 5] (fun v i wr => ∃ k : Nat, k ≤ ys.length ∧ i = .int .i64 k ∧ PRow w.heap.size (fun f => f = w.heap.size ∨ w2.heap.size ≤ f) wr v (onceTo ys k) ∧ Kp w2.heap.size (fun _ => False) w.heap.size w2 wr) (fun _ i _ => ys.length - (intOf i).toNat)
  case atStart => exact ⟨0, Nat.zero_le _, rfl, hmade.weak (Nat.le_refl _) fun f hf => .inl hf, Kp.refl _ _ _ _⟩
  case round =>
    obtain ⟨k, hk, rfl, ho, hK⟩ := hrel
    clear hmade
    have hsz := hK.size
    by_cases hlt : k < ys.length
    · obtain ⟨gy, rfl, hg1, hg2, hC⟩ := hyC (by omega)
      have u0 := (World.cell?_of_block (a := ⟨gy, k * 2, none⟩) (hK.block gy hg2 (fun h => h) (by omega))).trans (hC k hlt)
      have hkn : (0 : Int) ≤ (k : Int) := by omega
      have hkl : (k : Int) < (ys.length : Int) := by omega
      have hnl := onceTo_len ys k
      have hf := (hyF _ (nth_mem hlt)).1
      cases hN : newB ys k
      · have hz3 : 0 < k := by
          rcases Nat.eq_zero_or_pos k with h0 | h0
          · subst h0; simp [newB] at hN
          · exact h0
        have hne : ((nth ys k).1 != (nth ys (k - 1)).1) = false := by
          unfold newB at hN; rw [Bool.or_eq_false_iff] at hN; exact hN.2
        have hn := Lib.hid (onceTo_no hN)
        have u1 := (World.cell?_of_block (a := ⟨gy, (k - 1) * 2, none⟩) (hK.block gy hg2 (fun h => h) (by omega))).trans (hC (k - 1) (by omega))
        have hz0' : ((k : Int) == 0) = false := by simp; omega
        have hz1' : (0 : Int) ≤ (k : Int) - 1 := by omega
        have hz2' : (k : Int) - 1 < (ys.length : Int) := by omega
        have hw1 : IntKind.i64.wrap ((k : Int) - 1) = (k : Int) - 1 := IntWalk.i64_in _ (by omega)
        have hn1 : ((k : Int) - 1).toNat = k - 1 := by omega
        clear hN hC hyC
        go_wp2
        go_quiet (fail)
        go_wp2
        have hq := below_drewN (Below.refl wr.heap.size wr) nq
        go_roundw
        case rel => exact ⟨k + 1, by omega, by go_num, by rw [hn.out]; exact ho.later hq, hK.step hsz hq⟩
        case measure => simp [intOf]; omega
      · have hn := Lib.hid (onceTo_yes hN)
        by_cases h0 : k = 0
        · have hz0' : ((k : Int) == 0) = true := by simp; omega
          clear hN hC hyC h0
          go_wp2
          go_quiet (fail)
          have hq := below_drewN (Below.refl wr.heap.size wr) nq
          have hbA := (Below.refl (wr.drewN nq).heap.size (wr.drewN nq)).alloc (Nat.le_refl _) (.cells #[.int .i64 (nth ys k).1, .int .i64 1] 84)
          have hcn : Cells ((wr.drewN nq).alloc (.cells #[.int .i64 (nth ys k).1, .int .i64 1] 84)) wr.heap.size 0 [.int .i64 (nth ys k).1, .int .i64 1] := Cells.new (wr.drewN nq) [.int .i64 (nth ys k).1, .int .i64 1] 84
          obtain ⟨v4, w4, r4, o4, b4, k4⟩ := PRow.append (P := Try.prog) (t := 46) (ty := 46) (c := 1) (p := ((nth ys k).1, 1)) i0 _ Try.underlying46 hi hz0 hz1 hz2 rfl ((ho.later hq).later hbA) hcn ⟨hf, by show Fits (1 : Int); unfold Fits; omega⟩ (by omega) (by have := ho.1.1; have := t2.size; simp; omega)
          have hzA : ((wr.drewN nq).alloc (.cells #[.int .i64 (nth ys k).1, .int .i64 1] 84)).heap.size = wr.heap.size + 1 := World.size_alloc _ _
          have K1 := (hK.step hsz hq).step (w'' := (wr.drewN nq).alloc (.cells #[.int .i64 (nth ys k).1, .int .i64 1] 84)) hsz hbA
          have o4' := Lib.hid (o4.weak (Nat.le_refl _) (D' := fun f => f = w.heap.size ∨ w2.heap.size ≤ f) fun f hf => by
            rcases hf with hf | hf
            · exact hf
            · exact .inr (by omega))
          have K4 : Hid (Kp w2.heap.size (fun _ => False) w.heap.size w2 w4) := ⟨b4.os.trans K1.os, b4.tape.trans K1.tape, b4.output.trans K1.output, Nat.le_trans K1.size b4.size, fun j h1 h2 h3 => (k4 j (by omega) (fun hd => by omega)).trans (K1.block j h1 h2 h3)⟩
          clear o4 b4 k4 K1 hzA hcn hbA hq ho hK hsz
          go_wp2_with (at_builtin; refine wpList_append_of rfl _ _ rfl rfl rfl r4 ?_)
          go_roundw
          case rel => exact ⟨k + 1, by omega, by go_num, by rw [hn.out]; exact o4'.out, K4.out⟩
          case measure => simp [intOf]; omega
        · have hne : ((nth ys k).1 != (nth ys (k - 1)).1) = true := by
            unfold newB at hN; rw [Bool.or_eq_true] at hN; exact hN.resolve_left (by simp [h0])
          have u1 := (World.cell?_of_block (a := ⟨gy, (k - 1) * 2, none⟩) (hK.block gy hg2 (fun h => h) (by omega))).trans (hC (k - 1) (by omega))
          have hz0' : ((k : Int) == 0) = false := by simp; omega
          have hz1' : (0 : Int) ≤ (k : Int) - 1 := by omega
          have hz2' : (k : Int) - 1 < (ys.length : Int) := by omega
          have hw1 : IntKind.i64.wrap ((k : Int) - 1) = (k : Int) - 1 := IntWalk.i64_in _ (by omega)
          have hn1 : ((k : Int) - 1).toNat = k - 1 := by omega
          clear hN hC hyC h0
          go_wp2
          go_quiet (fail)
          clear hw1 hn1 hz1' hz2' u1
          have hq := below_drewN (Below.refl wr.heap.size wr) nq
          have hbA := (Below.refl (wr.drewN nq).heap.size (wr.drewN nq)).alloc (Nat.le_refl _) (.cells #[.int .i64 (nth ys k).1, .int .i64 1] 84)
          have hcn : Cells ((wr.drewN nq).alloc (.cells #[.int .i64 (nth ys k).1, .int .i64 1] 84)) wr.heap.size 0 [.int .i64 (nth ys k).1, .int .i64 1] := Cells.new (wr.drewN nq) [.int .i64 (nth ys k).1, .int .i64 1] 84
          obtain ⟨v4, w4, r4, o4, b4, k4⟩ := PRow.append (P := Try.prog) (t := 46) (ty := 46) (c := 1) (p := ((nth ys k).1, 1)) i0 _ Try.underlying46 hi hz0 hz1 hz2 rfl ((ho.later hq).later hbA) hcn ⟨hf, by show Fits (1 : Int); unfold Fits; omega⟩ (by omega) (by have := ho.1.1; have := t2.size; simp; omega)
          have hzA : ((wr.drewN nq).alloc (.cells #[.int .i64 (nth ys k).1, .int .i64 1] 84)).heap.size = wr.heap.size + 1 := World.size_alloc _ _
          have K1 := (hK.step hsz hq).step (w'' := (wr.drewN nq).alloc (.cells #[.int .i64 (nth ys k).1, .int .i64 1] 84)) hsz hbA
          have o4' := Lib.hid (o4.weak (Nat.le_refl _) (D' := fun f => f = w.heap.size ∨ w2.heap.size ≤ f) fun f hf => by
            rcases hf with hf | hf
            · exact hf
            · exact .inr (by omega))
          have K4 : Hid (Kp w2.heap.size (fun _ => False) w.heap.size w2 w4) := ⟨b4.os.trans K1.os, b4.tape.trans K1.tape, b4.output.trans K1.output, Nat.le_trans K1.size b4.size, fun j h1 h2 h3 => (k4 j (by omega) (fun hd => by omega)).trans (K1.block j h1 h2 h3)⟩
          clear o4 b4 k4 K1 hzA hcn hbA hq ho hK hsz
          go_wp2_with (at_builtin; refine wpList_append_of rfl _ _ rfl rfl rfl r4 ?_)
          go_roundw
          case rel => exact ⟨k + 1, by omega, by go_num, by rw [hn.out]; exact o4'.out, K4.out⟩
          case measure => simp [intOf]; omega
    · obtain rfl : k = ys.length := by omega
      have hE := Lib.hid (show onceTo ys ys.length = onceL xs by rw [HY.out]; rfl)
      have hB := Lib.hid (t2.trans (hK.below (lo := w.heap.size) (by omega) (Nat.le_refl _) fun _ h => h.elim))
      have hO := Lib.hid (ho.weak (Nat.le_refl _) (D' := fun f => w.heap.size ≤ f) fun f hf => by omega)
      clear ho hK
      go_wp2
      go_ret
      exact ⟨_, rfl, by rw [← hE.out]; exact hO.out, hB.out⟩

/-- The first k of a row turned. -/
def mapTo (f : Int × Int → Int × Int) (ys : List (Int × Int)) (k : Nat) : List (Int × Int) := (ys.take k).map f ++ ys.drop k
theorem mapTo_zero (f : Int × Int → Int × Int) (ys : List (Int × Int)) : mapTo f ys 0 = ys := by simp [mapTo]
theorem mapTo_all (f : Int × Int → Int × Int) (ys : List (Int × Int)) : mapTo f ys ys.length = ys.map f := by simp [mapTo]
theorem mapTo_len (f : Int × Int → Int × Int) (ys : List (Int × Int)) {k : Nat} (h : k ≤ ys.length) : (mapTo f ys k).length = ys.length := by simp [mapTo]; omega
theorem mapTo_nth {f : Int × Int → Int × Int} {ys : List (Int × Int)} {k : Nat} (h : k < ys.length) : nth (mapTo f ys k) k = nth ys k := by
  unfold nth mapTo
  rw [List.getD_eq_getElem?_getD, List.getD_eq_getElem?_getD, List.getElem?_append_right (by simp; omega)]
  simp [List.length_take, Nat.min_eq_left (Nat.le_of_lt h)]
theorem mapTo_set {f : Int × Int → Int × Int} {ys : List (Int × Int)} {k : Nat} (h : k < ys.length) : (mapTo f ys k).set k (f (nth ys k)) = mapTo f ys (k + 1) := by
  unfold mapTo
  rw [List.set_append_right _ _ (by simp; omega), take_nth h, List.map_append, List.append_assoc]
  congr 1
  rw [List.length_map, List.length_take, Nat.min_eq_left (Nat.le_of_lt h), Nat.sub_self, List.drop_eq_getElem_cons h]
  rfl
def minI (a b : Int) : Int := if b < a then b else a
def mergeF (xs : List (Int × Int)) (b : Int) (p : Int × Int) : Int × Int := (p.1, minI (sumH (fun q => q.1 == p.1) xs) b)
def mergedL (xs : List (Int × Int)) (b : Int) : List (Int × Int) := (onceL xs).map (mergeF xs b)

set_option maxHeartbeats 4000000 in
theorem l04Merged_calls {v : Value} {xs : List (Int × Int)} {w : World} (bd : Int) (h : RdL w [v] xs) (hw : WOk xs) (hb0 : 0 ≤ bd) (hb1 : bd ≤ 1000000) :
    Calls Try.prog 54 #[v, .int .i64 bd] w fun e w' => ∃ v', e = .returned v' ∧ PRow w.heap.size (fun f => w.heap.size ≤ f) w' v' (mergedL xs bd) ∧ Below w.heap.size w w' := by
  have hl := hw.1
  have HW := Lib.hid hw
  clear hw
  have h0 := h
  obtain ⟨a, cap, rfl, _, hr⟩ := h.sl
  have hm := hr.1
  go_enter Try.func54, Try.ntmps54
  go_wp2_with fail
  refine (l04Once_calls h0 (by omega)).mono ?_
  rintro e w1 ⟨v1, rfl, o1, b1⟩
  obtain ⟨ys, hys⟩ : ∃ ys, ys = onceL xs := ⟨_, rfl⟩
  rw [← hys] at o1
  have HY := Lib.hid hys
  have hly : ys.length ≤ 24000 := by rw [hys]; exact Nat.le_trans (onceTo_len _ _) (Nat.le_trans (ordTo_len xs 12) (Nat.mul_le_mul_left _ (by omega : xs.length ≤ 1000)))
  have hlY : (ys.length : Int) ≤ 24000 := by omega
  clear hys h0
  rcases o1.form with ⟨rfl, rfl⟩ | ⟨g, c, rfl, _, _, _, hgB, hgl⟩
  · go_wp2
    refine wp_loop_rounds 1 ?_
    rw [rounds_succ]
    go_wp2
    go_ret
    exact ⟨_, rfl, by unfold mergedL; rw [← HY.out]; exact PRow.nil _ _ _, b1⟩
  have T0 : PRow w.heap.size (fun f => w.heap.size ≤ f) w1 (.slice (some ⟨g, 0, none⟩) ys.length c) (mapTo (mergeF xs bd) ys 0) := by rw [mapTo_zero]; exact o1
  clear o1
  go_wp2
  go_loopw [6] (fun i wr => ∃ k : Nat, k ≤ ys.length ∧ i = .int .i64 k ∧ PRow w.heap.size (fun f => w.heap.size ≤ f) wr (.slice (some ⟨g, 0, none⟩) ys.length c) (mapTo (mergeF xs bd) ys k) ∧ Below w.heap.size w wr) (fun i _ => ys.length - (intOf i).toNat)
  case atStart => exact ⟨0, Nat.zero_le _, rfl, T0, b1⟩
  case round =>
    obtain ⟨k, hk, rfl, ho, hb⟩ := hrel
    clear T0 b1
    by_cases hlt : k < ys.length
    · have hln := mapTo_len (mergeF xs bd) ys hk
      obtain ⟨c0, c1⟩ := ho.cell (i := k) (by omega)
      rw [mapTo_nth hlt] at c0 c1
      have hkn : (0 : Int) ≤ (k : Int) := by omega
      have hkl : (k : Int) < (ys.length : Int) := by omega
      obtain ⟨wo, rfl⟩ : ∃ wo : World, wo = wr := ⟨_, rfl⟩
      go_wp2
      go_loopw [7, 8] (fun s i wr => ∃ j : Nat, j ≤ xs.length ∧ i = .int .i64 j ∧ s = .int .i64 (sumH (fun q => q.1 == (nth ys k).1) (xs.take j)) ∧ Below wo.heap.size wo wr) (fun _ i _ => xs.length - (intOf i).toNat)
      case atStart => exact ⟨0, Nat.zero_le _, rfl, rfl, Below.refl _ _⟩
      case round =>
        obtain ⟨j, hj, rfl, rfl, hb2⟩ := hrel
        have hsb := sumH_take_bd (f := fun q => q.1 == (nth ys k).1) j HW.out.w hl
        have d0 := cell_kept hb2 c0
        have d1 := cell_kept hb2 c1
        clear c0 c1
        by_cases hjt : j < xs.length
        · obtain ⟨b, off, rfl, hc⟩ := hr.base (by omega)
          obtain ⟨ecs, hC, rfl, hf1, hf2⟩ := hc j hjt
          have hC := hC.later (hb.step hb2)
          have hpw := HW.out.w _ (nth_mem hjt)
          obtain ⟨hp0, hp1⟩ := hpw
          have u0 := hC.c0
          have u1 := hC.c1
          rw [show Rd.k (Int × Int) = 2 from rfl] at u0 u1
          have hjn : (0 : Int) ≤ (j : Int) := by omega
          have hjl : (j : Int) < (xs.length : Int) := by omega
          obtain ⟨sv, hsv⟩ : ∃ sv, sv = sumH (fun q => q.1 == (nth ys k).1) (xs.take j) := ⟨_, rfl⟩
          rw [← hsv] at hsb ⊢
          obtain ⟨hs0, hs1⟩ := hsb
          cases hd : ((nth xs j).1 == (nth ys k).1)
          · have hn := Lib.hid (hsv.trans (sumH_no (f := fun q => q.1 == (nth ys k).1) hjt hd).symm)
            clear hC hc hsv hr
            go_wp2
            go_quiet (fail)
            go_wp2
            go_roundw
            case rel => exact ⟨j + 1, by omega, by go_num, by rw [← hn.out], by first | exact hb2.drew | exact below_drewN hb2 _⟩
            case measure => simp [intOf]; omega
          · have hn0 : sv + (nth xs j).2 = sumH (fun q => q.1 == (nth ys k).1) (xs.take (j + 1)) := by rw [sumH_yes (f := fun q => q.1 == (nth ys k).1) hjt hd, hsv]
            have hn := Lib.hid hn0
            clear hC hc hsv hr hn0
            go_wp2
            go_quiet (fail)
            go_wp2
            go_roundw
            case rel => exact ⟨j + 1, by omega, by go_num, by rw [← hn.out], by first | exact hb2.drew | exact below_drewN hb2 _⟩
            case measure => simp [intOf]; omega
        · have he := sumH_end (f := fun q => q.1 == (nth ys k).1) (l := xs) (k := j) (by omega)
          obtain ⟨sv, hsv⟩ : ∃ sv, sv = sumH (fun q => q.1 == (nth ys k).1) (xs.take j) := ⟨_, rfl⟩
          rw [← hsv] at hsb ⊢
          obtain ⟨hs0, hs1⟩ := hsb
          have ho2 := ho.later hb2
          have hfz := fun j => ho2.frozen j
          have hmn := mapTo_nth (f := mergeF xs bd) hlt
          have hfm : Fits (if bd < sv then bd else sv) := by unfold Fits; split <;> omega
          have hst := ho2.setW (i := k) (by omega) hfm
          rw [hmn] at hst
          have hsx : mergeF xs bd (nth ys k) = ((nth ys k).1, if bd < sv then bd else sv) := by unfold mergeF minI; rw [hsv, he]
          rw [← hsx, mapTo_set hlt] at hst
          have HST := Lib.hid hst
          have HB := Lib.hid (Below.setCell (hb.step hb2) (p := ⟨g, k * 2 + 1, none⟩) hgB (.int .i64 (if bd < sv then bd else sv)))
          clear hst hsx hmn hfm ho2 hsv he ho hb hr
          go_wp2
          go_roundw
          case rel => exact ⟨k + 1, by omega, by go_num, HST.out, HB.out⟩
          case measure => simp [intOf]; omega
    · obtain rfl : k = ys.length := by omega
      have hE := Lib.hid (show mapTo (mergeF xs bd) ys ys.length = mergedL xs bd by rw [mapTo_all, HY.out]; rfl)
      go_wp2
      go_ret
      exact ⟨_, rfl, by rw [← hE.out]; exact ho, hb⟩

end Go.Proofs.Ytgckeaijbmcdcaa
