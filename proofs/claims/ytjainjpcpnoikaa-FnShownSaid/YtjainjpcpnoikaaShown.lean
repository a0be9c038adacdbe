/-
  What is shown of a set. No condition of its own.
-/
import Derived.Test.YtjainjpcpnoikaaSeen
import Derived.Test.YtjainjpcpnoikaaHolds
import Derived.Test.YtjainjpcpnoikaaOwnR
namespace Go.Proofs.Ytjainjpcpnoikaa
set_option linter.unusedVariables false
set_option linter.unusedSimpArgs false
open Go.RowKit
set_option maxRecDepth 100000
set_option linter.unusedVariables false
set_option linter.unusedSimpArgs false

theorem info_strW : (Try.prog.info? 9).map (fun i => (i.zero, i.size, i.bytes)) = some (some (.string ByteArray.empty), 1, 16) := by kernel_rfl
theorem own_text {lo : Nat} {w : World} {s : ByteArray} (h : s.size ≤ 9223372036854775807) : Own lo w [.string s] s := ⟨[], ⟨⟨rfl, h⟩, rfl⟩, by simp⟩
/-- Is it shown of a set? -/
def shwB (xs : List Int) (s : ShowD) : Bool := s.cond.all (holdsB xs)
theorem cond_no {xs : List Int} {ls : List Int} {k : Nat} (hk : k < ls.length) (h : holdsB xs (el ls k) = false) : ls.all (holdsB xs) = false := by
  rw [List.all_eq_false]; exact ⟨el ls k, el_mem hk, by rw [h]; exact Bool.false_ne_true⟩
theorem cond_step {xs : List Int} {ls : List Int} {k : Nat} (hk : k < ls.length) (h0 : (ls.take k).all (holdsB xs) = true) (h : holdsB xs (el ls k) = true) : (ls.take (k + 1)).all (holdsB xs) = true := by
  rw [take_el hk, List.all_append, h0]; simp [h]
theorem cond_end {xs : List Int} {ls : List Int} {k : Nat} (hk : ls.length ≤ k) (h0 : (ls.take k).all (holdsB xs) = true) : ls.all (holdsB xs) = true := by rwa [List.take_of_length_le hk] at h0
theorem cond_one {xs : List Int} {ls : List Int} {k : Nat} (hk : k < ls.length) : (ls.take (k + 1)).all (holdsB xs) = ((ls.take k).all (holdsB xs) && holdsB xs (el ls k)) := by
  rw [take_el hk, List.all_append]; simp
/-- The texts that are shown of the first k. -/
def shownTo (ss : List ShowD) (xs : List Int) : Nat → List ByteArray
  | 0 => []
  | k + 1 => if shwB xs (nth ss k) then shownTo ss xs k ++ [(nth ss k).text] else shownTo ss xs k
theorem shownTo_yes {ss : List ShowD} {xs : List Int} {k : Nat} (h : shwB xs (nth ss k) = true) : shownTo ss xs (k + 1) = shownTo ss xs k ++ [(nth ss k).text] := by simp [shownTo, h]
theorem shownTo_no {ss : List ShowD} {xs : List Int} {k : Nat} (h : shwB xs (nth ss k) = false) : shownTo ss xs (k + 1) = shownTo ss xs k := by simp [shownTo, h]
theorem shownTo_len (ss : List ShowD) (xs : List Int) : ∀ k, (shownTo ss xs k).length ≤ k
  | 0 => by simp [shownTo]
  | k + 1 => by
    have ih := shownTo_len ss xs k
    cases h : shwB xs (nth ss k)
    · rw [shownTo_no h]; omega
    · rw [shownTo_yes h, List.length_append, List.length_singleton]; omega
def shownR (p : ProgD) (xs : List Int) : List ByteArray := if progOkB p then shownTo p.shows xs p.shows.length else []
theorem shownR_no {p : ProgD} {xs : List Int} (h : progOkB p = false) : shownR p xs = [] := by simp [shownR, h]
theorem shownR_yes {p : ProgD} {xs : List Int} (h : progOkB p = true) : shownR p xs = shownTo p.shows xs p.shows.length := by simp [shownR, h]
theorem shows_len {p : ProgD} (h : progOkB p = true) : p.shows.length ≤ 20 := by
  simp only [progOkB, Bool.and_eq_true, showsB, decide_eq_true_eq] at h
  omega
theorem shownR_len (p : ProgD) (xs : List Int) : (shownR p xs).length ≤ 20 := by
  cases h : progOkB p
  · rw [shownR_no h]; simp
  · rw [shownR_yes h]
    have := shownTo_len p.shows xs p.shows.length
    have := shows_len h
    omega

set_option maxHeartbeats 1000000 in
theorem shownIn_calls {cs : List Value} {s : ShowD} {w : World} (xs : List Int) (h : Rd.R w cs s) :
    Calls Try.prog 65 #[.agg cs.toArray, .int .u16 (maskOf xs : Int)] w fun e w' => e = .returned (.bool (shwB xs s)) ∧ Below w.heap.size w w' := by
  obtain ⟨c1, rfl, hf, g1⟩ := h
  have tb : Below w.heap.size w (w.alloc (.cells #[.string s.text, c1] 53)) := (Below.refl _ _).alloc (Nat.le_refl _) _
  have g1 := Rd.mono (α := List Int) tb g1
  obtain ⟨a, cap, rfl, _, h1⟩ := g1.sl
  have hI := Lib.hid h1.ints
  have hm := hI.out.1
  clear g1 h1
  go_enter Try.func65, Try.ntmps65
  go_wp2
  go_loop [10] (fun i => ∃ k : Nat, k ≤ s.cond.length ∧ i = .int .i64 k ∧ Hid ((s.cond.take k).all (holdsB xs) = true)) (fun i => s.cond.length - (intOf i).toNat)
  case atStart => exact ⟨0, Nat.zero_le _, rfl, show (s.cond.take 0).all _ = true by simp⟩
  case round =>
    obtain ⟨k, hk, rfl, hS⟩ := hrel
    by_cases hlt : k < s.cond.length
    · obtain ⟨b, off, rfl, hc⟩ := hI.out.at (by omega)
      have hck := hc k hlt
      have hF : Fits (el s.cond k) := hI.out.2.1 _ (el_mem hlt)
      clear hc
      cases hL : holdsB xs (el s.cond k)
      · have hv := Lib.hid (cond_no hlt hL)
        have hL' := (litM_same xs _ hF).trans hL
        clear hS hL
        go_wp2_with (go_at_call 110; refine (litHolds_calls _ _ _ (maskOf_lt _) hF).mono ?_; rintro e w' ⟨he, rfl⟩; rw [hL'] at he; subst he)
        go_ret
        exact ⟨ret_bool hv.out.symm, tb⟩
      · have hS' := Lib.hid (cond_step hlt hS.out hL)
        have hL' := (litM_same xs _ hF).trans hL
        clear hS hL
        go_wp2_with (go_at_call 110; refine (litHolds_calls _ _ _ (maskOf_lt _) hF).mono ?_; rintro e w' ⟨he, rfl⟩; rw [hL'] at he; subst he)
        go_round
        case rel => exact ⟨k + 1, by omega, by go_num, hS'⟩
        case measure => simp [intOf]; omega
    · have hv := Lib.hid (cond_end (by omega) hS.out)
      clear hS
      go_wp2
      go_ret
      exact ⟨ret_bool hv.out.symm, tb⟩


set_option maxHeartbeats 4000000 in
theorem implShown_calls {cs : List Value} {p : ProgD} {w : World} {v : Value} {xs : List Int} (h : Rd.R w cs p) (gx : RdL w [v] xs) :
    Calls Try.prog 25 #[.agg cs.toArray, v] w fun e w' => ∃ u, e = .returned u ∧ Own w.heap.size w' [u] (shownR p xs) ∧ Below w.heap.size w w' := by
  obtain ⟨i3, hi3, hz30, hz31, hz32⟩ := info_parts info_strW
  have h0 := h
  obtain ⟨c1, c2, c4, c5, c6, c7, rfl, hf, g1, g2, g4, g5, g6, g7⟩ := h0
  obtain ⟨a5, k5, rfl, _, h5⟩ := g5.sl
  obtain ⟨ax, cx, rfl, _, hx⟩ := gx.sl
  have hm := h5.1
  have CX := Cells.new w [.int .i64 p.atoms, c1, c2, .bool p.projOn, c4, .slice a5 p.shows.length k5, c6, c7] 36
  have t0 : Below w.heap.size w (w.alloc (.cells #[.int .i64 p.atoms, c1, c2, .bool p.projOn, c4, .slice a5 p.shows.length k5, c6, c7] 36)) := (Below.refl _ _).alloc (Nat.le_refl _) _
  clear g1 g2 g4 g5 g6 g7
  cases hO : progOkB p
  · have hv := Lib.hid (shownR_no (xs := xs) hO)
    go_enter Try.func25, Try.ntmps25
    go_wp2_with fail
    refine (implProgOk_calls (Rd.mono t0 h)).mono ?_
    rintro e w1 ⟨he, b1⟩
    rw [hO] at he
    subst he
    go_wp2
    go_ret
    exact ⟨_, rfl, by rw [hv.out]; exact (OwnR.nil (α := ByteArray) w.heap.size 9 _).own, t0.step b1⟩
  · have hv := Lib.hid (shownR_yes (xs := xs) hO)
    have hl20 := shows_len hO
    go_enter Try.func25, Try.ntmps25
    go_wp2_with fail
    refine (implProgOk_calls (Rd.mono t0 h)).mono ?_
    rintro e w1 ⟨he, b1⟩
    rw [hO] at he
    subst he
    have t1 := t0.step b1
    have CX1 := CX.later b1
    obtain ⟨y0, y1, y2, y3, y4, y5, y6, y7⟩ := cells8 CX1
    have hxI := (hx.later t1).ints
    have H5 := Lib.hid (h5.later t1)
    clear CX b1 h5 hx
    go_wp2_with (go_at_call 57; refine (atomsIn_calls _ _ _ _ hxI).mono ?_; rintro e w' ⟨rfl, rfl⟩)
    clear y0 y1 y2 y3 y4 y5 y6 y7 hxI
    go_loopw [6, 17] (fun v i wr => ∃ k : Nat, k ≤ p.shows.length ∧ i = .int .i64 k ∧ OwnR (α := ByteArray) w1.heap.size 9 wr v (shownTo p.shows xs k) ∧ Below w1.heap.size w1 wr) (fun _ i _ => p.shows.length - (intOf i).toNat)
    case atStart => exact ⟨0, Nat.zero_le _, rfl, OwnR.nil _ _ _, Below.refl _ _⟩
    case round =>
      obtain ⟨k, hk, rfl, ho, hb1⟩ := hrel
      obtain ⟨av, kv, rfl, _⟩ := ho.form
      by_cases hlt : k < p.shows.length
      · obtain ⟨b, off, rfl, hc⟩ := H5.out.base (by omega)
        obtain ⟨ecs, hC, hR⟩ := hc k hlt
        have hC := hC.later hb1
        have hR := Rd.mono hb1 hR
        have hR0 := hR
        obtain ⟨d1, rfl, hfs, hR1⟩ := hR0
        rw [show Rd.k ShowD = 2 from rfl] at hC
        have u0 := hC.c0
        have u1 := hC.c1
        have s1 := sto Try.prog (hR1.one1)
        have hR := Rd.mono ((Below.refl _ _).alloc (Nat.le_refl _) (.cells #[.string (nth p.shows k).text, d1] 53)) hR
        have CS := Cells.new wr [.string (nth p.shows k).text, d1] 53
        have hbe := (Below.refl wr.heap.size wr).alloc (Nat.le_refl _) (.cells #[.string (nth p.shows k).text, d1] 53)
        have hlen := shownTo_len p.shows xs k
        have hszw := hb1.size
        clear hc hC hR1
        cases hB : shwB xs (nth p.shows k)
        · have hE := Lib.hid (shownTo_no hB)
          go_wp2_with fail
          refine (shownIn_calls xs hR).mono ?_
          rintro e w2 ⟨he, hb2⟩
          rw [hB] at he
          subst he
          have hbe2 := hbe.step hb2
          have ho2 := ho.later hbe2
          clear ho CS hR
          go_wp2
          go_roundw
          case rel => exact ⟨k + 1, by omega, by go_num, by rw [hE.out]; exact ho2, hb1.step hbe2⟩
          case measure => simp [intOf]; omega
        · have hE := Lib.hid (shownTo_yes hB)
          go_wp2_with fail
          refine (shownIn_calls xs hR).mono ?_
          rintro e w2 ⟨he, hb2⟩
          rw [hB] at he
          subst he
          obtain ⟨z0, z1⟩ := cells2 (CS.later hb2)
          have hbN : Below wr.heap.size wr (w2.alloc (.cells #[.string (nth p.shows k).text] 9)) := (hbe.step hb2).alloc (hbe.step hb2).size _
          have hl1 : ((shownTo p.shows xs k).length + 1) * 16 ≤ 140737488355328 := by omega
          have hl2 : (shownTo p.shows xs k).length + 1 ≤ 140737488355328 := by omega
          obtain ⟨v5, w5, r5, ho5, hb5, hg5⟩ := run_append_one (α := ByteArray) (P := Try.prog) (t := 50) (ty := 50) (c := 1) i3 _ 16 Try.underlying50 hi3 hz30 hz31 hz32 rfl (by decide) ho (Nat.le_refl _) hbN (Cells.new w2 [.string (nth p.shows k).text] 9) (own_text hfs) hl1 hl2 hszw
          have hb7 := (hb1.step hbN).trans hb5
          obtain ⟨a5, n5, rfl, _⟩ := ho5.form
          clear ho CS hR hbe hbN hb2
          go_wp2_with (at_builtin; refine wpList_append_of rfl _ _ rfl rfl rfl r5 ?_)
          go_roundw
          case rel => exact ⟨k + 1, by omega, by go_num, by rw [hE.out]; have h9 := ho5; rw [List.length_append] at h9; exact h9, hb7⟩
          case measure => simp [intOf]; omega
      · have hkk : k = p.shows.length := by omega
        have hO5 : Hid (Own w.heap.size wr [.slice av (shownTo p.shows xs k).length kv] (shownR p xs)) := by show Own _ _ _ _; rw [hv.out, ← hkk]; exact ho.own.mono t1.size
        clear ho
        go_wp2
        go_ret
        exact ⟨_, rfl, hO5.out, t1.trans (hb1.mono t1.size)⟩

set_option maxHeartbeats 8000000 in
theorem specShown_calls {cs : List Value} {p : ProgD} {w : World} {v : Value} {xs : List Int} (h : Rd.R w cs p) (gx : RdL w [v] xs) :
    Calls Try.prog 28 #[.agg cs.toArray, v] w fun e w' => ∃ u, e = .returned u ∧ Own w.heap.size w' [u] (shownR p xs) ∧ Below w.heap.size w w' := by
  obtain ⟨i3, hi3, hz30, hz31, hz32⟩ := info_parts info_strW
  have h0 := h
  obtain ⟨c1, c2, c4, c5, c6, c7, rfl, hf, g1, g2, g4, g5, g6, g7⟩ := h0
  obtain ⟨a5, k5, rfl, _, h5⟩ := g5.sl
  obtain ⟨ax, cx, rfl, _, hx⟩ := gx.sl
  have hm := h5.1
  have CX := (Cells.new w [.int .i64 p.atoms, c1, c2, .bool p.projOn, c4, .slice a5 p.shows.length k5, c6, c7] 36).alloc (.cells #[] 9)
  have t0 : Below w.heap.size w ((w.alloc (.cells #[.int .i64 p.atoms, c1, c2, .bool p.projOn, c4, .slice a5 p.shows.length k5, c6, c7] 36)).alloc (.cells #[] 9)) := ((Below.refl _ _).alloc (Nat.le_refl _) _).alloc (by simp) _
  have hn0 : OwnR (α := ByteArray) (w.heap.size + 1) 9 ((w.alloc (.cells #[.int .i64 p.atoms, c1, c2, .bool p.projOn, c4, .slice a5 p.shows.length k5, c6, c7] 36)).alloc (.cells #[] 9)) (.slice (some ⟨w.heap.size + 1, 0, none⟩) 0 0) [] := by
    have := World.ownsRow_lit (e := 9) (size := 1) (base := w.heap.size + 1) (w.alloc (.cells #[.int .i64 p.atoms, c1, c2, .bool p.projOn, c4, .slice a5 p.shows.length k5, c6, c7] 36)) #[] 0 (by simp) (by simp [maxLen]) (by simp)
    rw [World.size_alloc] at this
    exact OwnR.start this
  clear g1 g2 g4 g5 g6 g7
  cases hO : progOkB p
  · have hv := Lib.hid (shownR_no (xs := xs) hO)
    go_enter Try.func28, Try.ntmps28
    go_wp2_with fail
    refine (specProgOk_calls (Rd.mono t0 h)).mono ?_
    rintro e w1 ⟨he, b1⟩
    rw [hO] at he
    subst he
    have hO5 : Hid (Own w.heap.size w1 [.slice (some ⟨w.heap.size + 1, 0, none⟩) 0 0] (shownR p xs)) := by show Own _ _ _ _; rw [hv.out]; exact (hn0.later b1).own.mono (Nat.le_succ _)
    go_wp2
    go_ret
    exact ⟨_, rfl, hO5.out, t0.step b1⟩
  · have hv := Lib.hid (shownR_yes (xs := xs) hO)
    have hl20 := shows_len hO
    go_enter Try.func28, Try.ntmps28
    go_wp2_with fail
    refine (specProgOk_calls (Rd.mono t0 h)).mono ?_
    rintro e w1 ⟨he, b1⟩
    rw [hO] at he
    subst he
    have t1 := t0.step b1
    have CX1 := Lib.hid (CX.later b1)
    have hn1 := hn0.later b1
    have HX := Lib.hid hx
    have H5 := Lib.hid h5
    have hz1 := b1.size
    rw [World.size_alloc, World.size_alloc] at hz1
    clear CX b1 h5 hx hn0
    go_wp2
    go_loopw [5, 6] (fun v i wr => ∃ k : Nat, k ≤ p.shows.length ∧ i = .int .i64 k ∧ OwnR (α := ByteArray) (w.heap.size + 1) 9 wr v (shownTo p.shows xs k) ∧ Below (w.heap.size + 1) w1 wr) (fun _ i _ => p.shows.length - (intOf i).toNat)
    case atStart => exact ⟨0, Nat.zero_le _, rfl, hn1, Below.refl _ _⟩
    case round =>
      obtain ⟨k, hk, rfl, ho, hb1⟩ := hrel
      clear hn1
      obtain ⟨av, kv, rfl, _⟩ := ho.form
      have hwz := hb1.size
      have CXr := Lib.hid (CX1.out.kept (hb1.block w.heap.size (by omega)))
      obtain ⟨y0, y1, y2, y3, y4, y5, y6, y7⟩ := cells8 CXr.out
      by_cases hlt : k < p.shows.length
      · obtain ⟨b, off, rfl, hc⟩ := H5.out.base (by omega)
        obtain ⟨ecs, hC, hR⟩ := hc k hlt
        have hb := t1.trans (hb1.mono (Nat.le_succ _))
        have hC := hC.later hb
        have hR := Rd.mono hb hR
        obtain ⟨d1, rfl, hfs, hR1⟩ := hR
        rw [show Rd.k ShowD = 2 from rfl] at hC
        have u0 := hC.c0
        have u1 := hC.c1
        obtain ⟨ac, kc, rfl, _, hc1⟩ := hR1.sl
        have hI := Lib.hid hc1.ints
        have hmc := hI.out.1
        have hxr := Lib.hid (HX.out.later hb).ints
        have hE1 := fun h => Lib.hid (shownTo_yes (ss := p.shows) (xs := xs) (k := k) h)
        have hE0 := fun h => Lib.hid (shownTo_no (ss := p.shows) (xs := xs) (k := k) h)
        have hlen := shownTo_len p.shows xs k
        have hszw := hb1.size
        clear hc hC hR1 hc1
        generalize nth p.shows k = s at *
        go_wp2
        go_loop [7, 8] (fun a i => ∃ j : Nat, j ≤ s.cond.length ∧ i = .int .i64 j ∧ ∃ b : Bool, a = .bool b ∧ Hid (b = (s.cond.take j).all (holdsB xs))) (fun _ i => s.cond.length - (intOf i).toNat)
        case atStart => exact ⟨0, Nat.zero_le _, rfl, true, rfl, rfl⟩
        case round =>
          obtain ⟨j, hj, rfl, bv, rfl, hbv⟩ := hrel
          by_cases hl2 : j < s.cond.length
          · obtain ⟨b2, off2, rfl, hc2⟩ := hI.out.at (by omega)
            have hck := hc2 j hl2
            have hF : Fits (el s.cond j) := hI.out.2.1 _ (el_mem hl2)
            have hone : Hid ((s.cond.take (j + 1)).all (holdsB xs) = (bv && holdsB xs (el s.cond j))) := by show _ = _; rw [hbv.out]; exact cond_one hl2
            clear hc2 hbv
            cases bv
            · go_wp2
              go_round
              case rel => exact ⟨j + 1, by omega, by go_num, false, rfl, by show _ = _; rw [hone.out]; rfl⟩
              case measure => simp [intOf]; omega
            · go_wp2_with (go_at_call 70; refine (specHolds_calls _ _ _ _ _ hxr.out hF).mono ?_; rintro e w' ⟨rfl, rfl⟩)
              go_round
              case rel => exact ⟨j + 1, by omega, by go_num, _, rfl, by show _ = _; rw [hone.out, Bool.true_and]⟩
              case measure => simp [intOf]; omega
          · obtain rfl : bv = shwB xs s := by rw [hbv.out, List.take_of_length_le (by omega)]; rfl
            clear hbv
            generalize hB : shwB xs s = bv at *
            cases bv
            · have hE := hE0 rfl
              clear hB hE1 hE0
              go_wp2
              go_roundw
              case rel => exact ⟨k + 1, by omega, by go_num, by rw [hE.out]; exact ho, hb1⟩
              case measure => simp [intOf]; omega
            · have hE := hE1 rfl
              clear hB hE1 hE0
              have hbN : Below wr.heap.size wr (wr.alloc (.cells #[.string s.text] 9)) := (Below.refl _ _).alloc (Nat.le_refl _) _
              have hl1 : ((shownTo p.shows xs k).length + 1) * 16 ≤ 140737488355328 := by omega
              have hl2 : (shownTo p.shows xs k).length + 1 ≤ 140737488355328 := by omega
              obtain ⟨v5, w5, r5, ho5, hb5, hg5⟩ := run_append_one (α := ByteArray) (P := Try.prog) (t := 50) (ty := 50) (c := 1) i3 _ 16 Try.underlying50 hi3 hz30 hz31 hz32 rfl (by decide) ho (Nat.le_refl _) hbN (Cells.new wr [.string s.text] 9) (own_text hfs) hl1 hl2 (by omega)
              have hb7 := (hb1.trans (hbN.mono (by omega))).trans hb5
              obtain ⟨a5, n5, rfl, _⟩ := ho5.form
              clear ho hbN
              go_wp2_with (at_builtin; refine wpList_append_of rfl _ _ rfl rfl rfl r5 ?_)
              go_roundw
              case rel => exact ⟨k + 1, by omega, by go_num, by rw [hE.out]; have h9 := ho5; rw [List.length_append] at h9; exact h9, hb7⟩
              case measure => simp [intOf]; omega
      · have hkk : k = p.shows.length := by omega
        have hO5 : Hid (Own w.heap.size wr [.slice av (shownTo p.shows xs k).length kv] (shownR p xs)) := by show Own _ _ _ _; rw [hv.out, ← hkk]; exact ho.own.mono (Nat.le_succ _)
        clear ho
        go_wp2
        go_ret
        exact ⟨_, rfl, hO5.out, t1.trans (hb1.mono (Nat.le_succ _))⟩

end Go.Proofs.Ytjainjpcpnoikaa
