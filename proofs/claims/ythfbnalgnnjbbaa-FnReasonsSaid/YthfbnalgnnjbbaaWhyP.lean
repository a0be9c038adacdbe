/-
  Reasons: what the program answers. No condition of its own.
-/
import Derived.Test.YthfbnalgnnjbbaaWhyI
namespace Go.Proofs.Ythfbnalgnnjbbaa
set_option linter.unusedVariables false
set_option linter.unusedSimpArgs false
open Go.RowKit Go.Shelf
set_option maxRecDepth 100000

set_option maxHeartbeats 4000000 in
theorem implReasons_calls {cs : List Value} {p : ProgD} {w : World} {v v2 : Value} {xs : List Int} {l : List (Int × Int)} (h : Rd.R w cs p) (gx : RdL w [v] xs) (gl : RdL w [v2] l) :
    Calls Try.prog 10 #[.agg cs.toArray, v, v2] w fun e w' => e = .returned (.bool (reaB p xs l)) ∧ Below w.heap.size w w' := by
  obtain ⟨p0, p1, p2, p3, p4, p5, p6, p7, rfl⟩ := list8 (Rd.len h)
  obtain ⟨al, cl, rfl, _, hll⟩ := gl.sl
  have hlm := hll.1
  have t0 : Below w.heap.size w (w.alloc (.cells #[p0, p1, p2, p3, p4, p5, p6, p7] 30)) := (Below.refl _ _).alloc (by simp) _
  cases hW : whyB p xs
  · have hv := Lib.hid (reaB_A (l := l) hW)
    go_enter Try.func10, Try.ntmps10
    go_wp2_with fail
    refine (viewOf_no (Rd.mono t0 h) (Rd.mono (α := List Int) t0 gx) hW).mono ?_
    rintro e w1 ⟨rfl, b1⟩
    go_wp2
    go_ret
    exact ⟨ret_bool hv.out.symm, (t0.step b1).alloc (t0.step b1).size _⟩
  · have hv := Lib.hid (reaB_B (l := l) hW)
    have hP := whyB_isP hW
    have hok : progOkB (foldD p) = true := foldR_ok (whyB_fold hW).1
    have hr12 := rules12 hok
    have hlen := (progOk_rules hok).1
    go_enter Try.func10, Try.ntmps10
    go_wp2_with fail
    refine (viewOf_yes (Rd.mono t0 h) (Rd.mono (α := List Int) t0 gx) hW).mono ?_
    rintro e w1 ⟨x0, x1, x2, x3, x4, x5, x6, x7, rfl, o1, b1⟩
    have hRd := o1.rd
    have l1 := Rd.one hRd
    have st0 := sto Try.prog (l1 x0 (by simp))
    have st1 := sto Try.prog (l1 x1 (by simp))
    have st2 := sto Try.prog (l1 x2 (by simp))
    have st3 := sto Try.prog (l1 x3 (by simp))
    have st4 := sto Try.prog (l1 x4 (by simp))
    have st5 := sto Try.prog (l1 x5 (by simp))
    have st6 := sto Try.prog (l1 x6 (by simp))
    have st7 := sto Try.prog (l1 x7 (by simp))
    have t1 := t0.step b1
    obtain ⟨y0, y1, y2, y3, y4, y5, y6, y7, y8⟩ := cells9 (Cells.new w1 [x0, x1, x2, x3, x4, x5, x6, x7, .int .u16 (maskOf xs : Int)] 70)
    have bV := (Below.refl w1.heap.size w1).alloc (Nat.le_refl _) (.cells #[x0, x1, x2, x3, x4, x5, x6, x7, .int .u16 (maskOf xs : Int)] 70)
    have bA := bV.alloc (by simp) (.cells #[x0, x1, x2, x3, x4, x5, x6, x7, .int .u16 (maskOf xs : Int), .int .u16 0] 74)
    have hA0 := alloc_block (w1.alloc (.cells #[x0, x1, x2, x3, x4, x5, x6, x7, .int .u16 (maskOf xs : Int)] 70)) #[x0, x1, x2, x3, x4, x5, x6, x7, .int .u16 (maskOf xs : Int), .int .u16 0] 74
    rw [World.size_alloc] at hA0
    go_wp2
    clear st0 st1 st2 st3 st4 st5 st6 st7 y0 y1 y2 y3 y4 y5 y6 y7 y8
    have hzA : ((w1.alloc (.cells #[x0, x1, x2, x3, x4, x5, x6, x7, .int .u16 (maskOf xs : Int)] 70)).alloc (.cells #[x0, x1, x2, x3, x4, x5, x6, x7, .int .u16 (maskOf xs : Int), .int .u16 0] 74)).heap.size = w1.heap.size + 2 := by simp
    generalize (w1.alloc (.cells #[x0, x1, x2, x3, x4, x5, x6, x7, .int .u16 (maskOf xs : Int)] 70)).alloc (.cells #[x0, x1, x2, x3, x4, x5, x6, x7, .int .u16 (maskOf xs : Int), .int .u16 0] 74) = wa at *
    have LE := Lib.hid (fun h => lack_end (rs := (foldD p).rules) (l := l) hP h)
    go_loopw [24] (fun iv wr => ∃ k : Nat, k ≤ l.length ∧ iv = .int .i64 k ∧ Hid (alwTo (foldD p).rules xs l k = true) ∧ wr.heap[w1.heap.size + 1]? = some (.cells #[x0, x1, x2, x3, x4, x5, x6, x7, .int .u16 (maskOf xs : Int), .int .u16 (maskOf (fsts (l.take k)) : Int)] 74 (0, 0)) ∧ Below w1.heap.size w1 wr ∧ w1.heap.size + 2 ≤ wr.heap.size) (fun iv _ => l.length - (intOf iv).toNat)
    case atStart => exact ⟨0, Nat.zero_le _, rfl, (rfl : alwTo (foldD p).rules xs l 0 = true), hA0, bA, by omega⟩
    case round =>
      obtain ⟨k, hk, rfl, hA, hV, hB, hS⟩ := hrel
      clear hA0 bA bV hzA
      have tw := t1.trans (hB.mono t1.size)
      obtain ⟨ts, hts⟩ : ∃ ts, ts = fsts (l.take k) := ⟨_, rfl⟩
      rw [← hts] at hV
      have HTS := Lib.hid hts
      clear hts
      obtain ⟨y0, y1, y2, y3, y4, y5, y6, y7, y8, y9⟩ := cells10 (cellsAtY (cs := [x0, x1, x2, x3, x4, x5, x6, x7, .int .u16 (maskOf xs : Int), .int .u16 (maskOf ts : Int)]) hV)
      by_cases hlt : k < l.length
      · have hgl := hll.later tw
        obtain ⟨bl, ol, rfl, hcl⟩ := hgl.base (by omega)
        obtain ⟨els, hCl, hRl⟩ := hcl k hlt
        obtain ⟨A, I, hAI⟩ : ∃ A I, nth l k = (A, I) := ⟨_, _, rfl⟩
        rw [hAI] at hRl
        obtain ⟨rfl, fA, fI⟩ := hRl
        have l0 := hCl.c0
        have l1 := hCl.c1
        rw [show Rd.k (Int × Int) = 2 from rfl] at l0 l1
        clear hCl hcl hgl
        have bA := (Below.refl wr.heap.size wr).alloc (Nat.le_refl _) (.cells #[.int .i64 A, .int .i64 I] 76)
        have CR := Cells.new wr [.int .i64 A, .int .i64 I] 76
        obtain ⟨z0, z1⟩ := cells2 CR
        have hlt1 : w1.heap.size + 1 < wr.heap.size := by omega
        have hAL := Lib.hid (allows_calls xs ts A I (Rd.mono (hB.step bA) hRd) hr12 hlen hP fA fI)
        have HAI := Lib.hid hAI
        have hsn : Hid (fsts (l.take (k + 1)) = ts ++ [A]) := by show _ = _; rw [take_nth hlt, fsts_snoc, hAI, HTS.out]
        clear hAI
        cases hW2 : alwB (foldD p).rules ts xs (A, I)
        · have hv2 : Hid (reaB p xs l = false) := by show _ = _; rw [hv.out]; exact reaQ_no hlt (by rw [HAI.out, ← HTS.out]; exact hW2)
          rw [hW2] at hAL
          clear hW2
          go_wp2_with fail
          refine hAL.out.mono ?_
          rintro e w5 ⟨rfl, b5⟩
          go_wp2
          go_ret
          exact ⟨ret_bool hv2.out.symm, tw.step (bA.step b5)⟩
        · have hA' := Lib.hid (alwTo_step (rs := (foldD p).rules) (xs := xs) hA.out (by rw [HAI.out, ← HTS.out]; exact hW2))
          rw [hW2] at hAL
          clear hW2 hA
          go_wp2_with fail
          refine hAL.out.mono ?_
          rintro e w5 ⟨rfl, b5⟩
          have b6 := bA.step b5
          have hV6 := (b6.block _ (block_lt hV)).trans hV
          have hs6 := b6.size
          have CR5 := CR.later b5
          clear y0 y1 y2 y3 y4 y5 y6 y7 y8 y9 z0 z1
          obtain ⟨z0, z1⟩ := cells2 CR5
          go_wp2_with fail
          refine (take_calls ts A I fA hV6).mono ?_
          rintro e w9 ⟨⟨r9, rfl⟩, hV9, hb9, hk9, hs9⟩
          rw [← hsn.out] at hV9
          have hB9 : Below w1.heap.size w1 w9 := (hB.step b6).trans (hb9.mono (by omega))
          go_wp2
          go_roundw
          case rel => exact ⟨k + 1, by omega, by go_num, hA', hV9, hB9, by omega⟩
          case measure => simp [intOf]; omega
      · obtain rfl : k = l.length := by omega
        have hE := Lib.hid (LE.out hA.out)
        have htl : Hid (ts = fsts l) := by show _ = _; rw [HTS.out, List.take_length]
        rw [htl.out] at y9
        go_wp2_with fail
        refine (lacking_calls xs (fsts l) _).mono ?_
        rintro e w5 ⟨rfl, b5⟩
        go_wp2
        go_ret
        exact ⟨ret_bool (by rw [hv.out, ← hE.out]; rfl), tw.step b5⟩

end Go.Proofs.Ythfbnalgnnjbbaa
