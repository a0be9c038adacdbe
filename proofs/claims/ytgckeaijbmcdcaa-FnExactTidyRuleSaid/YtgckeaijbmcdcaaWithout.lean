/-
  A rule without its weights. No condition of its own.
-/
import Derived.Test.YtgckeaijbmcdcaaGathO
import Derived.Test.YtgckeaijbmcdcaaTidyR
namespace Go.Proofs.Ytgckeaijbmcdcaa
open Go.RowKit
set_option maxRecDepth 100000

def oneF (p : Pr) : Pr := (p.1, 1)
theorem chg5 (w : World) (b : Nat) (c0 c1 c2 c3 c4 : Value) : ChgF [b] w (((((w.setCell ⟨b, 0, none⟩ c0).setCell ⟨b, 1, none⟩ c1).setCell ⟨b, 2, none⟩ c2).setCell ⟨b, 3, none⟩ c3).setCell ⟨b, 4, none⟩ c4) := put_chg b [c0, c1, c2, c3, c4] w 0
theorem one_gath (xs : List Pr) : (gathL xs).map oneF = onceL xs := gath_one xs
theorem gath_len (xs : List Pr) : (gathL xs).length ≤ (ordL xs).length := by
  unfold gathL; rw [List.length_map]; exact onceTo_len _ _

set_option maxHeartbeats 2000000 in
theorem withoutWeight_calls {ch wt : Bool} {bd : Int} {ah ab : Option Addr} {nh kh nb kb : Nat} {v : Value} {xs : List Pr} {w : World} (h : RdL w [v] xs) (hw : WBg xs) :
    Calls Try.prog 94 #[.agg #[.bool ch, .slice ah nh kh, .bool wt, .int .i64 bd, .slice ab nb kb], v] w fun e w' =>
      ∃ v', e = .returned (.agg #[.bool ch, .slice ah nh kh, .bool false, .int .i64 0, v']) ∧ PRow (w.heap.size + 2) (fun f => w.heap.size + 2 ≤ f) w' v' (onceL xs) ∧ Below w.heap.size w w' := by
  have t0 : Below w.heap.size w ((w.alloc (.cells #[.bool ch, .slice ah nh kh, .bool wt, .int .i64 bd, .slice ab nb kb] 48)).alloc (.cells #[.bool false, .slice none 0 0, .bool false, .int .i64 0, .slice none 0 0] 48)) := ((Below.refl _ _).alloc (by simp) _).alloc (by simp) _
  have CP := (Cells.new w [.bool ch, .slice ah nh kh, .bool wt, .int .i64 bd, .slice ab nb kb] 48).alloc (.cells #[.bool false, .slice none 0 0, .bool false, .int .i64 0, .slice none 0 0] 48)
  have CR := Cells.new (w.alloc (.cells #[.bool ch, .slice ah nh kh, .bool wt, .int .i64 bd, .slice ab nb kb] 48)) [.bool false, .slice none 0 0, .bool false, .int .i64 0, .slice none 0 0] 48
  have hb0 := alloc_block (w.alloc (.cells #[.bool ch, .slice ah nh kh, .bool wt, .int .i64 bd, .slice ab nb kb] 48)) #[.bool false, .slice none 0 0, .bool false, .int .i64 0, .slice none 0 0] 48
  have hG := gathered_calls (Rd.mono (α := List (Int × Int)) t0 h) hw
  have hgl := gath_len xs
  have hol := ordL_len hw.inR
  have hlx := hw.1
  have hs0 : ((w.alloc (.cells #[.bool ch, .slice ah nh kh, .bool wt, .int .i64 bd, .slice ab nb kb] 48)).alloc (.cells #[.bool false, .slice none 0 0, .bool false, .int .i64 0, .slice none 0 0] 48)).heap.size = w.heap.size + 2 := by simp
  rw [World.size_alloc] at CR hb0
  obtain ⟨ar, cr, rfl, _, _⟩ := h.sl
  have hE := one_gath xs
  obtain ⟨ys, hys⟩ : ∃ ys, ys = gathL xs := ⟨_, rfl⟩
  rw [← hys] at hG hgl hE
  have HE := Lib.hid hE
  have hly : (ys.length : Int) ≤ 20 := by omega
  clear h hw hys hgl hol hE
  go_enter Try.func94, Try.ntmps94
  go_wp2_with fail
  refine hG.mono ?_
  rintro e w1 ⟨v1, rfl, o1, b1⟩
  clear hG
  generalize ((w.alloc (.cells #[.bool ch, .slice ah nh kh, .bool wt, .int .i64 bd, .slice ab nb kb] 48)).alloc (.cells #[.bool false, .slice none 0 0, .bool false, .int .i64 0, .slice none 0 0] 48)) = w0 at t0 CP CR hb0 hs0 o1 b1
  rw [hs0] at o1 b1
  have boxP : ∀ W : World, Below (w.heap.size + 2) w0 W → Cells W w.heap.size 0 [.bool ch, .slice ah nh kh, .bool wt, .int .i64 bd, .slice ab nb kb] := fun W hW => CP.later (hs0 ▸ hW)
  have boxZ : ∀ W : World, Below (w.heap.size + 2) w0 W → Cells W (w.heap.size + 1) 0 [.bool false, .slice none 0 0, .bool false, .int .i64 0, .slice none 0 0] := fun W hW => CR.later (hs0 ▸ hW)
  have frzZ : ∀ W : World, Below (w.heap.size + 2) w0 W → ∀ j, W.frozen? ⟨w.heap.size + 1, j, none⟩ = false := fun W hW j => frozen_of_row W (w.heap.size + 1) j _ _ ((hW.block (w.heap.size + 1) (by omega)).trans hb0)
  have allB : ∀ W : World, Below (w.heap.size + 2) w0 W → Below w.heap.size w W := fun W hW => t0.trans (hW.mono (by omega))
  clear t0 CP CR hb0
  rcases o1.form with ⟨rfl, rfl⟩ | ⟨g, c, rfl, _, _, hgD, hgB, hgl⟩
  · go_wp2
    refine wp_loop_rounds 1 ?_
    rw [rounds_succ]
    obtain ⟨x0, x1, x2, x3, x4⟩ := cells5 (boxP w1 b1)
    obtain ⟨z0, z1, z2, z3, z4⟩ := cells5 (boxZ w1 b1)
    have hfz := frzZ w1 b1
    have hB := Lib.hid (allB w1 b1)
    obtain ⟨wr, rfl⟩ : ∃ wr : World, wr = w1 := ⟨_, rfl⟩
    have hO : Hid (PRow (w.heap.size + 2) (fun f => w.heap.size + 2 ≤ f) wr (.slice none 0 0) (onceL xs)) := by show PRow _ _ _ _ _; rw [← HE.out]; exact PRow.nil _ _ _
    clear b1 o1 boxP boxZ frzZ allB hs0
    go_wp2
    refine bodyPost_ret (v := .agg #[.bool ch, .slice ah nh kh, .bool false, .int .i64 0, .slice none 0 0])
      (by simp [results, Try.results94, go_sem, z0, z1, z2, z3, z4]) rfl ⟨_, rfl, ?_, ?_⟩
    · refine PRow.keep (w := wr) (hO.out) fun g _ hB hl => (chg5 _ _ _ _ _ _ _).block g (by simp; omega)
    · exact (hB.out).trans ((chg5 _ _ _ _ _ _ _).below fun g hg => by simp at hg; omega)
  have T0 : PRow (w.heap.size + 2) (fun f => w.heap.size + 2 ≤ f) w1 (.slice (some ⟨g, 0, none⟩) ys.length c) (mapTo oneF ys 0) := by rw [mapTo_zero]; exact o1
  clear o1 hgD
  go_wp2
  go_loopw [6, 11] (fun _ i wr => ∃ k : Nat, k ≤ ys.length ∧ i = .int .i64 k ∧ PRow (w.heap.size + 2) (fun f => w.heap.size + 2 ≤ f) wr (.slice (some ⟨g, 0, none⟩) ys.length c) (mapTo oneF ys k) ∧ Below (w.heap.size + 2) w0 wr) (fun _ i _ => ys.length - (intOf i).toNat)
  case atStart => exact ⟨0, Nat.zero_le _, rfl, T0, b1⟩
  case round =>
    obtain ⟨k, hk, rfl, ho, hb⟩ := hrel
    clear T0 b1
    by_cases hlt : k < ys.length
    · have hln := mapTo_len oneF ys hk
      obtain ⟨c0, c1⟩ := ho.cell (i := k) (by omega)
      have hkn : (0 : Int) ≤ (k : Int) := by omega
      have hkl : (k : Int) < (ys.length : Int) := by omega
      have hfz := fun j => ho.frozen j
      have hmn := mapTo_nth (f := oneF) hlt
      have hst := ho.setW (i := k) (W := 1) (by omega) (by unfold Fits; omega)
      rw [hmn, show ((nth ys k).1, (1 : Int)) = oneF (nth ys k) from rfl, mapTo_set hlt] at hst
      have HST := Lib.hid hst
      have HB := Lib.hid (Below.setCell hb (p := ⟨g, k * 2 + 1, none⟩) hgB (.int .i64 1))
      clear hst hmn ho hb hln boxP boxZ frzZ allB
      go_wp2
      go_roundw
      case rel => exact ⟨k + 1, by omega, by go_num, HST.out, HB.out⟩
      case measure => simp [intOf]; omega
    · obtain rfl : k = ys.length := by omega
      have hO : Hid (PRow (w.heap.size + 2) (fun f => w.heap.size + 2 ≤ f) wr (.slice (some ⟨g, 0, none⟩) ys.length c) (onceL xs)) := by show PRow _ _ _ _ _; rw [← HE.out, ← mapTo_all]; exact ho
      obtain ⟨x0, x1, x2, x3, x4⟩ := cells5 (boxP wr hb)
      obtain ⟨z0, z1, z2, z3, z4⟩ := cells5 (boxZ wr hb)
      have hfz := frzZ wr hb
      have hB := Lib.hid (allB wr hb)
      clear hb ho boxP boxZ frzZ allB hs0 hgB hgl
      go_wp2
      refine bodyPost_ret (v := .agg #[.bool ch, .slice ah nh kh, .bool false, .int .i64 0, .slice (some ⟨g, 0, none⟩) ys.length c])
        (by simp [results, Try.results94, go_sem, z0, z1, z2, z3, z4]) rfl ⟨_, rfl, ?_, ?_⟩
      · refine PRow.keep (w := wr) (hO.out) fun g _ hB hl => (chg5 _ _ _ _ _ _ _).block g (by simp; omega)
      · exact (hB.out).trans ((chg5 _ _ _ _ _ _ _).below fun g hg => by simp at hg; omega)

end Go.Proofs.Ytgckeaijbmcdcaa
