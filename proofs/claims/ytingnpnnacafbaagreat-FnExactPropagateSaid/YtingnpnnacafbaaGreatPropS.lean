/-
  What must be: what spec answers. No condition of its own.
-/
import Derived.Test.YtingnpnnacafbaaGreatPropD
import Derived.Test.YtingnpnnacafbaaGreatLeastS
import Derived.BigQuiet
import Derived.Deep.RegionHeld3
import Derived.Deep.RegionWith
namespace Go.Proofs.YtingnpnnacafbaaGreat
set_option linter.unusedVariables false
set_option linter.unusedSimpArgs false
open Go.RowKit
set_option maxRecDepth 100000
set_option linter.unusedVariables false
set_option linter.unusedSimpArgs false


theorem pow_le12 {n : Nat} (h : n ≤ 12) : 2 ^ n ≤ 4096 := by
  have : (2 : Nat) ^ n ≤ 2 ^ 12 := Nat.pow_le_pow_right (by omega) h
  omega
theorem shl_one' {n : Nat} (h1 : n ≤ 12) : wrap64 ((2 : Int) ^ ((n : Int)).toNat) = ((2 ^ n : Nat) : Int) := by
  have h2 := pow_le12 h1
  rw [Int.toNat_natCast, show (2 : Int) ^ n = ((2 ^ n : Nat) : Int) by simp]
  generalize 2 ^ n = P at *
  unfold wrap64
  omega
theorem l08All_calls (n : Nat) (w : World) (hn : n ≤ 12) :
    Calls Tryz.prog 104 #[.int .i64 (n : Int)] w fun e w' => ∃ v, e = .returned v ∧ OwnI w.heap.size w' v (setOfS ((2 ^ n : Nat) - 1 : Int)) ∧ Below w.heap.size w w' := by
  have hsh := shl_one' hn
  have hpw := pow_le12 hn
  rw [Int.toNat_natCast] at hsh
  obtain ⟨P, hP⟩ : ∃ P : Nat, P = 2 ^ n := ⟨_, rfl⟩
  rw [← hP] at hsh hpw ⊢
  clear hP
  go_enter Tryz.func104, Tryz.ntmps104
  go_wp2_with fail
  refine (specSetOf_calls _ _).mono ?_
  rintro e w1 ⟨v, rfl, ho, hb⟩
  go_wp2
  go_ret
  exact ⟨_, rfl, ho, hb⟩

theorem mapR_len (rs : List RuleD) (no : List Int) : (rs.map (comeR no)).length = rs.length := List.length_map ..
theorem reach_come {rs : List RuleD} {no : List Int} {k : Nat} (hk : k < rs.length) (g : Int × Int → Bool) : reachB (nth (rs.map (comeR no)) k) g = reachB (nth rs k) g := by
  rw [nth_map' hk]; rfl
theorem come_yes {rs : List RuleD} {no xs s : List Int} {k : Nat} (hk : k < rs.length) (h : reachB (nth rs k) (h2B s xs) = true) :
    stepTo (rs.map (comeR no)) xs false s (k + 1) = pickTo (pickJ (stepTo (rs.map (comeR no)) xs false s k) (pickTo (pickL (nth rs k).heads no) 12)) 12 := by
  rw [stepTo_yes (by rw [reach_come hk]; exact h), nth_map' hk, putL_F rfl]; rfl
theorem come_no {rs : List RuleD} {no xs s : List Int} {k : Nat} (hk : k < rs.length) (h : reachB (nth rs k) (h2B s xs) = false) :
    stepTo (rs.map (comeR no)) xs false s (k + 1) = stepTo (rs.map (comeR no)) xs false s k := stepTo_no (by rw [reach_come hk]; exact h)
theorem come_end {rs : List RuleD} {no xs : List Int} {n k : Nat} (h : rs.length = k) : stepTo (rs.map (comeR no)) xs false (iterL (rs.map (comeR no)) xs false n) k = iterL (rs.map (comeR no)) xs false (n + 1) := by
  rw [← h, ← mapR_len rs no]; rfl

theorem Ints.drew {w : World} {a : Option Addr} {xs : List Int} (h : Ints w a xs) : Ints w.drew a xs := h.later (Below.refl _ _).drew
set_option maxHeartbeats 4000000 in
theorem l08Come_calls {cs : List Value} {q : ProgD} {w : World} {v : Value} {vs : List Int} (h : Rd.R w cs q) (gx : RdL w [v] vs) (hok : ∀ r ∈ q.rules, ruleOkB r 12 = true) :
    Calls Tryz.prog 105 #[.agg cs.toArray, v] w fun e w' => ∃ u, e = .returned u ∧ OwnI w.heap.size w' u (comeL q.rules vs) ∧ Below w.heap.size w w' := by
  have HOK := Lib.hid hok
  clear hok
  obtain ⟨c1, c2, c4, c5, c6, c7, rfl, hf, g1, g2, g4, g5, g6, g7⟩ := h
  obtain ⟨a1, k1, rfl, _, h1⟩ := g1.sl
  obtain ⟨ax, cx, rfl, _, hx⟩ := gx.sl
  have hm1 := h1.1
  have CX := Cells.new w [.int .i64 q.atoms, .slice a1 q.rules.length k1, c2, .bool q.projOn, c4, c5, c6, c7] 30
  have tb : Below w.heap.size w (w.alloc (.cells #[.int .i64 q.atoms, .slice a1 q.rules.length k1, c2, .bool q.projOn, c4, c5, c6, c7] 30)) := (Below.refl _ _).alloc (Nat.le_refl _) _
  clear g1 g2 g4 g5 g6 g7 hf
  go_enter Tryz.func105, Tryz.ntmps105
  go_wp2_with fail
  refine (l08With_calls _ _ _ _ _ (hx.later tb).ints).mono ?_
  rintro e w1 ⟨vn, rfl, on, b1⟩
  have t1 := tb.step b1
  go_wp2_with fail
  refine (l08With_calls _ _ _ _ _ (hx.later t1).ints).mono ?_
  rintro e w2 ⟨vy, rfl, oy, b2⟩
  have t2 := t1.step b2
  have on := on.kept b2
  obtain ⟨pn, qn, rfl, hnI0, _⟩ := on.open
  have gy0 : RdL _ _ (withL vs 1) := oy.own.rd
  obtain ⟨py, qy, rfl, _, _⟩ := gy0.sl
  have CX2 := Lib.hid ((CX.later b1).later b2)
  have hz2 : w.heap.size < w2.heap.size := CX2.out.lt
  obtain ⟨no, hno⟩ : ∃ no, no = withL vs 2 := ⟨_, rfl⟩
  obtain ⟨yes, hyes⟩ : ∃ yes, yes = withL vs 1 := ⟨_, rfl⟩
  have HC : Hid (comeL q.rules vs = leastL (q.rules.map (comeR no)) yes false) := by rw [hno, hyes]; rfl
  rw [← hno] at hnI0 ⊢
  rw [← hyes] at gy0 ⊢
  clear hno hyes CX tb b1 b2 on oy t1
  go_wp2
  go_loopw [7] (fun s wo => ∃ n : Nat, n ≤ (iterL (q.rules.map (comeR no)) yes false n).length ∧ OwnI w2.heap.size wo s (iterL (q.rules.map (comeR no)) yes false n) ∧ Below w2.heap.size w2 wo) (fun s _ => 13 - lenOf s)
  case atStart => exact ⟨0, Nat.zero_le _, OwnI.new _ _ (Nat.le_refl _), (Below.refl _ _).alloc (Nat.le_refl _) _⟩
  case round =>
    obtain ⟨n, hn, ho, hb0⟩ := hrel
    have hlen := (iterL_isP (rs := q.rules.map (comeR no)) (xs := yes) (all := false) n).le
    have gs : RdL _ _ (iterL (q.rules.map (comeR no)) yes false n) := ho.own.rd
    obtain ⟨a7, k7, rfl, _, _⟩ := gs.sl
    have Hap := Lib.hid (come_apart (rs := q.rules) (no := no) (yes := yes) n)
    have hsz0 := hb0.size
    obtain ⟨wm, rfl⟩ : ∃ wm : World, wm = wr := ⟨_, rfl⟩
    go_wp2
    go_loopw [8, 9] (fun t i wr => ∃ k : Nat, k ≤ q.rules.length ∧ i = .int .i64 k ∧ OwnI w2.heap.size wr t (stepTo (q.rules.map (comeR no)) yes false (iterL (q.rules.map (comeR no)) yes false n) k) ∧ Below wm.heap.size wm wr) (fun _ i _ => q.rules.length - (intOf i).toNat)
    case atStart => exact ⟨0, Nat.zero_le _, rfl, ho, Below.refl _ _⟩
    case round =>
      obtain ⟨k, hk, rfl, ht, hb⟩ := hrel
      have hb2w := hb0.trans (hb.mono hsz0)
      have hbw := t2.step hb2w
      have hsz : w2.heap.size ≤ wr.heap.size := hb2w.size
      have hX := Lib.hid (CX2.out.later hb2w)
      obtain ⟨y0, y1, y2, y3, y4, y5, y6, y7⟩ := cells8 hX.out
      by_cases hlt : k < q.rules.length
      · obtain ⟨b, off, rfl, hc⟩ := h1.base (by omega)
        obtain ⟨ecs, hC, hR⟩ := hc k hlt
        have hC := hC.later hbw
        have hR := Rd.mono hbw hR
        have hok12 := HOK.out _ (nth_mem hlt)
        have hR0 := hR
        obtain ⟨d1, d4, rfl, hf', r1, r4⟩ := hR0
        obtain ⟨ah, kh, rfl, _, hh⟩ := r1.sl
        obtain ⟨ab, kb, rfl, _, _⟩ := r4.sl
        have HU : Hid (∀ W, Below wr.heap.size wr W → (W.cell? ⟨b, off + k * 5, none⟩ = some (.bool (nth q.rules k).choice) ∧ W.cell? ⟨b, off + k * 5 + 1, none⟩ = some (.slice ah (nth q.rules k).heads.length kh) ∧ W.cell? ⟨b, off + k * 5 + 2, none⟩ = some (.bool (nth q.rules k).weight) ∧ W.cell? ⟨b, off + k * 5 + 3, none⟩ = some (.int .i64 (nth q.rules k).bound) ∧ W.cell? ⟨b, off + k * 5 + 4, none⟩ = some (.slice ab (nth q.rules k).body.length kb))) := fun W hW => by
          have := hC.later hW
          exact ⟨this.c0, this.c1, this.c2, this.c3, this.c4⟩
        obtain ⟨u0, u1, u2, u3, u4⟩ := HU.out _ (Below.refl _ _)
        have hsI := (ho.kept hb).ints
        have hnI := hnI0.later hb2w
        have gy := Rd.mono (α := List Int) hb2w gy0
        clear hC hc r1 r4
        cases hB : reachB (nth q.rules k) (h2B (iterL (q.rules.map (comeR no)) yes false n) yes)
        · have hS := Lib.hid (come_no (no := no) hlt hB)
          go_wp2
          go_region_held3 (fun w' => (w'.cell? ⟨w.heap.size, 0, none⟩ = some (.int .i64 q.atoms) ∧ w'.cell? ⟨w.heap.size, 1, none⟩ = some (.slice (some ⟨b, off, none⟩) q.rules.length k1) ∧ w'.cell? ⟨w.heap.size, 2, none⟩ = some c2 ∧ w'.cell? ⟨w.heap.size, 3, none⟩ = some (.bool q.projOn) ∧ w'.cell? ⟨w.heap.size, 4, none⟩ = some c4 ∧ w'.cell? ⟨w.heap.size, 5, none⟩ = some c5 ∧ w'.cell? ⟨w.heap.size, 6, none⟩ = some c6 ∧ w'.cell? ⟨w.heap.size, 7, none⟩ = some c7) ∧
              (w'.cell? ⟨b, off + k * 5, none⟩ = some (.bool (nth q.rules k).choice) ∧ w'.cell? ⟨b, off + k * 5 + 1, none⟩ = some (.slice ah (nth q.rules k).heads.length kh) ∧ w'.cell? ⟨b, off + k * 5 + 2, none⟩ = some (.bool (nth q.rules k).weight) ∧ w'.cell? ⟨b, off + k * 5 + 3, none⟩ = some (.int .i64 (nth q.rules k).bound) ∧ w'.cell? ⟨b, off + k * 5 + 4, none⟩ = some (.slice ab (nth q.rules k).body.length kb)))
            (first | exact ⟨cells8 hX.out.drew, HU.out _ (Below.refl _ _).drew⟩ | exact ⟨cells8 (hX.out.drew.later b3), HU.out _ ((Below.refl _ _).drew.step b3)⟩ | exact ⟨cells8 ((hX.out.drew.later b3).later b4), HU.out _ (((Below.refl _ _).drew.step b3).step b4)⟩)
            (first | (go_at_call 103; refine (specSetLess_calls _ _ _ _ _ _ _ hsI.drew hnI.drew).mono ?_; rintro e w3 ⟨v3, rfl, ho3, b3⟩; rw [Hap.out] at ho3; have gs3 : RdL _ _ (iterL (q.rules.map (comeR no)) yes false n) := ho3.own.rd; obtain ⟨p3, q3, rfl, _, _⟩ := ho3.open) |
              (go_at_call 101; refine (l02Reaches_calls (Rd.mono ((Below.refl _ _).drew.step b3) hR) gs3 (Rd.mono (α := List Int) ((Below.refl _ _).drew.step b3) gy) hok12).mono ?_; rintro e w4 ⟨he, b4⟩; rw [hB] at he; subst he))
          have bE := ((Below.refl wr.heap.size wr).drew.step b3).step b4
          have ht4 := ht.kept bE
          go_wp2
          go_roundw
          case rel => exact ⟨k + 1, by omega, by go_num, (by rw [hS.out]; exact ht4), (hb.step bE)⟩
          case measure => simp [intOf]; omega
        · have hS := Lib.hid (come_yes (no := no) hlt hB)
          go_wp2
          go_region_held3 (fun w' => (w'.cell? ⟨w.heap.size, 0, none⟩ = some (.int .i64 q.atoms) ∧ w'.cell? ⟨w.heap.size, 1, none⟩ = some (.slice (some ⟨b, off, none⟩) q.rules.length k1) ∧ w'.cell? ⟨w.heap.size, 2, none⟩ = some c2 ∧ w'.cell? ⟨w.heap.size, 3, none⟩ = some (.bool q.projOn) ∧ w'.cell? ⟨w.heap.size, 4, none⟩ = some c4 ∧ w'.cell? ⟨w.heap.size, 5, none⟩ = some c5 ∧ w'.cell? ⟨w.heap.size, 6, none⟩ = some c6 ∧ w'.cell? ⟨w.heap.size, 7, none⟩ = some c7) ∧
              (w'.cell? ⟨b, off + k * 5, none⟩ = some (.bool (nth q.rules k).choice) ∧ w'.cell? ⟨b, off + k * 5 + 1, none⟩ = some (.slice ah (nth q.rules k).heads.length kh) ∧ w'.cell? ⟨b, off + k * 5 + 2, none⟩ = some (.bool (nth q.rules k).weight) ∧ w'.cell? ⟨b, off + k * 5 + 3, none⟩ = some (.int .i64 (nth q.rules k).bound) ∧ w'.cell? ⟨b, off + k * 5 + 4, none⟩ = some (.slice ab (nth q.rules k).body.length kb)))
            (first | exact ⟨cells8 hX.out.drew, HU.out _ (Below.refl _ _).drew⟩ | exact ⟨cells8 (hX.out.drew.later b3), HU.out _ ((Below.refl _ _).drew.step b3)⟩ | exact ⟨cells8 ((hX.out.drew.later b3).later b4), HU.out _ (((Below.refl _ _).drew.step b3).step b4)⟩)
            (first | (go_at_call 103; refine (specSetLess_calls _ _ _ _ _ _ _ hsI.drew hnI.drew).mono ?_; rintro e w3 ⟨v3, rfl, ho3, b3⟩; rw [Hap.out] at ho3; have gs3 : RdL _ _ (iterL (q.rules.map (comeR no)) yes false n) := ho3.own.rd; obtain ⟨p3, q3, rfl, _, _⟩ := ho3.open) |
              (go_at_call 101; refine (l02Reaches_calls (Rd.mono ((Below.refl _ _).drew.step b3) hR) gs3 (Rd.mono (α := List Int) ((Below.refl _ _).drew.step b3) gy) hok12).mono ?_; rintro e w4 ⟨he, b4⟩; rw [hB] at he; subst he))
          have bE := ((Below.refl wr.heap.size wr).drew.step b3).step b4
          have ht4 := ht.kept bE
          obtain ⟨at4, kt4, rfl, htI, htB⟩ := ht4.open
          obtain ⟨s0, s1, s2, s3, s4, s5, s6, s7⟩ := cells8 (hX.out.later bE)
          obtain ⟨z0, z1, z2, z3, z4⟩ := HU.out _ bE
          go_wp2_with fail
          refine (specSetLess_calls _ _ _ _ _ _ _ (hh.later bE).ints (hnI.later bE)).mono ?_
          rintro e w5 ⟨v5, rfl, ho5, b5⟩
          obtain ⟨p5, q5, rfl, hI5, _⟩ := ho5.open
          go_wp2_with fail
          refine (specSetJoin_calls _ _ _ _ _ _ _ (htI.later b5) hI5).mono ?_
          rintro e w6 ⟨v6, rfl, ho6, b6⟩
          have ho6' := ho6.mono (B' := w2.heap.size) (Nat.le_trans hsz ((bE.step b5).size))
          rw [← hS.out] at ho6'
          go_wp2
          go_roundw
          case rel => exact ⟨k + 1, by omega, by go_num, ho6', (hb.step ((bE.step b5).step b6))⟩
          case measure => simp [intOf]; omega
      · obtain rfl : k = q.rules.length := by omega
        have hE := Lib.hid (come_end (rs := q.rules) (no := no) (xs := yes) (n := n) rfl)
        rw [hE.out] at ht
        have hlen2 := (iterL_isP (rs := q.rules.map (comeR no)) (xs := yes) (all := false) (n + 1)).le
        obtain ⟨at2, kt2, rfl, htI, htB⟩ := ht.open
        by_cases hq : (iterL (q.rules.map (comeR no)) yes false (n + 1)).length = (iterL (q.rules.map (comeR no)) yes false n).length
        · have hL := Lib.hid (iterL_end (rs := q.rules.map (comeR no)) (xs := yes) (all := false) (n := n) (by omega) hq)
          have hq' : (((iterL (q.rules.map (comeR no)) yes false (n + 1)).length : Int) == ((iterL (q.rules.map (comeR no)) yes false n).length : Int)) = true := by simp; omega
          have ho2 : ∀ L, iterL (q.rules.map (comeR no)) yes false n = L → OwnI w2.heap.size wr (.slice a7 (iterL (q.rules.map (comeR no)) yes false n).length k7) L := fun L e => by subst e; exact ho.kept hb
          clear hq ho ht
          go_wp2
          go_ret
          exact ⟨_, rfl, by rw [HC.out]; exact (ho2 _ hL.out).mono (by omega), hbw⟩
        · have hN := iterL_n hn hq
          have hq' : (((iterL (q.rules.map (comeR no)) yes false (n + 1)).length : Int) == ((iterL (q.rules.map (comeR no)) yes false n).length : Int)) = false := by simp; omega
          clear hq
          go_wp2
          go_roundw
          case rel => exact ⟨n + 1, hN.1, ht, hb2w⟩
          case measure => simp [lenOf]; omega


/-! ### stores into a row of the call's own -/
theorem OwnI.blk {B : Nat} {w : World} {v : Value} {xs : List Int} (h : OwnI B w v xs) (hne : 0 < xs.length) : ∃ g cap cur, v = .slice (some ⟨g, 0, none⟩) xs.length cap ∧ B ≤ g ∧ w.heap[g]? = some (.cells cur 3 (0, 0)) := by
  obtain ⟨⟨h1, h2⟩, h3, h4⟩ := h
  rcases h2 with ⟨hv, hn⟩ | ⟨g, cap, cur, hv, hg, hh, _⟩
  · omega
  · exact ⟨g, cap, cur, hv, hg, hh⟩
theorem OwnI.setC {B : Nat} {w : World} {g n cap : Nat} {xs : List Int} (h : OwnI B w (.slice (some ⟨g, 0, none⟩) n cap) xs) {i : Nat} (hi : i < xs.length) {x : Int} (hx : Fits x) : OwnI B (w.setCell ⟨g, i, none⟩ (.int .i64 x)) (.slice (some ⟨g, 0, none⟩) n cap) (xs.set i x) := by
  obtain ⟨⟨h1, h2⟩, h3, h4⟩ := h
  rcases h2 with ⟨hv, hn⟩ | ⟨g', cap', cur, hv, hg, hh, hnc, hcm, hcs, ht⟩
  · cases hv
  · cases hv
    refine ⟨⟨by simp, .inr ⟨g, cap, cur.setIfInBounds i (.int .i64 x), by rw [List.length_set], hg, heap_setCell_same w g i _ _ _ hh, by rw [List.length_set]; exact hnc, hcm, by simpa using hcs, ?_⟩⟩, by rw [List.length_set]; exact h3, fun u hu => ?_⟩
    · rw [Array.toList_setIfInBounds, List.length_set, List.take_set, ht, List.map_set]
    · rcases List.mem_or_eq_of_mem_set hu with hu | rfl
      · exact h4 u hu
      · exact hx
theorem OwnI.setB {B : Nat} {w : World} {v : Value} {xs : List Int} (h : OwnI B w v xs) {a : Addr} (ha : a.block < B) (u : Value) : OwnI B (w.setCell a u) v xs := ⟨ownsRow_setCell_below h.1 ha u, h.2⟩
/-- What a slice of ints reads as. -/
def rdI (w : World) (a : Option Addr) (n : Nat) : List Int := (List.range n).map fun i => match a with
  | some p => (match w.cell? ⟨p.block, p.off + i, none⟩ with | some (.int _ x) => x | _ => 0)
  | none => 0
theorem rdI_eq {w : World} {a : Option Addr} {xs : List Int} (h : Ints w a xs) : rdI w a xs.length = xs := by
  refine list_ext_el (by simp [rdI]) fun i hi => ?_
  have hi' : i < xs.length := by simpa [rdI] using hi
  obtain ⟨b, off, rfl, hc⟩ := h.2.2 i hi'
  rw [el_eq hi]
  simp [rdI, hc]
def addrOf : Value → Option Addr
  | .slice a _ _ => a
  | _ => none

theorem rd5 {w : World} {cs : List Value} {r : RuleD} (h : Rd.R w cs r) : ∃ ah kh ab kb, cs = [.bool r.choice, .slice ah r.heads.length kh, .bool r.weight, .int .i64 r.bound, .slice ab r.body.length kb] ∧ Ints w ah r.heads := by
  obtain ⟨d1, d4, rfl, hf', r1, r4⟩ := h
  obtain ⟨ah, kh, rfl, _, hh⟩ := r1.sl
  obtain ⟨ab, kb, rfl, _, _⟩ := r4.sl
  exact ⟨ah, kh, ab, kb, rfl, hh.ints⟩
theorem size1 (w : World) (o : Obj) : (w.alloc o).heap.size = w.heap.size + 1 := World.size_alloc _ _
theorem isSome_none {α : Type} : (none : Option α).isSome = false := rfl
set_option maxHeartbeats 8000000 in
theorem l08Go_calls {cs : List Value} {q : ProgD} {w : World} {v : Value} {vs : List Int} (h : Rd.R w cs q) (gx : RdL w [v] vs) (hn : q.atoms = (vs.length : Int)) (hv : VOk vs.length vs) (hok : ∀ r ∈ q.rules, ruleOkB r (vs.length : Int) = true) :
    Calls Tryz.prog 45 #[.agg cs.toArray, v] w fun e w' => ∃ u, e = .returned (.tuple #[u, .bool (goN q 13 vs).isSome]) ∧ OwnI w.heap.size w' u ((goN q 13 vs).getD []) ∧ Below w.heap.size w w' := by
  have hn12 := hv.2.1
  have hok12 : Hid (∀ r ∈ q.rules, ruleOkB r 12 = true) := fun r hr => ruleOkB_mono (hok r hr) (by omega) (by omega)
  have HOK := Lib.hid hok
  have h0 := h
  clear hok
  obtain ⟨c1, c2, c4, c5, c6, c7, rfl, hf, g1, g2, g4, g5, g6, g7⟩ := h
  obtain ⟨a1, k1, rfl, _, h1⟩ := g1.sl
  obtain ⟨ax, cx, rfl, _, hx⟩ := gx.sl
  have hm1 := h1.1
  have HQN : Hid (q.atoms.toNat = vs.length) := by show _ = _; omega
  rw [hn] at h0 ⊢
  have CX := Cells.new w [.int .i64 (vs.length : Int), .slice a1 q.rules.length k1, c2, .bool q.projOn, c4, c5, c6, c7] 30
  have tb : Below w.heap.size w (w.alloc (.cells #[.int .i64 (vs.length : Int), .slice a1 q.rules.length k1, c2, .bool q.projOn, c4, c5, c6, c7] 30)) := (Below.refl _ _).alloc (Nat.le_refl _) _
  have hoA := OwnI.new (w.alloc (.cells #[.int .i64 (vs.length : Int), .slice a1 q.rules.length k1, c2, .bool q.projOn, c4, c5, c6, c7] 30)) (w.heap.size + 1) (by simp)
  rw [World.size_alloc] at hoA
  have tA := tb.alloc (by simp) (.cells #[] 3)
  obtain ⟨R, hR⟩ : ∃ R, R = goN q 13 vs := ⟨_, rfl⟩
  have HR := Lib.hid hR
  rw [← hR]
  clear g1 g2 g4 g5 g6 g7 hf hR
  obtain ⟨i0, hi, hz0, hz1, hz2⟩ := info_parts info_int
  go_enter Tryz.func45, Tryz.ntmps45
  go_wp2_with (at_builtin; refine wpList_append_flat (α := Int) (B := w.heap.size + 1) rfl _ _ 26 rfl i0 (.int .i64 0) 8 Tryz.underlying26 hi hz0 hz1 hz2 rfl rfl hoA.flat rfl (Rd.mono (α := List Int) tA gx) (by simp; omega) (by simp; omega) (by simp) ?_; intro v1 w1 ho1 hb1 _)
  rw [List.nil_append] at ho1
  have ho1 := ho1.ints (by omega)
  have hb1' : Below (w.heap.size + 1) (w.alloc (.cells #[.int .i64 (vs.length : Int), .slice a1 q.rules.length k1, c2, .bool q.projOn, c4, c5, c6, c7] 30)) w1 := ((Below.refl _ _).alloc (by simp) _).trans hb1
  have CX1 := Lib.hid (CX.kept (hb1'.block w.heap.size (by omega)))
  have t1 : Below w.heap.size w w1 := tb.trans (hb1'.mono (by omega))
  have hz1' : w.heap.size + 1 ≤ w1.heap.size := by have := hb1'.size; rw [size1] at this; exact this
  obtain ⟨av, cv, rfl, _, _⟩ := ho1.open
  clear CX tb hoA tA hb1 hb1'
  go_wp2
  go_loopw [6] (fun _ wo => ∃ (f : Nat) (us : List Int), zer us < f ∧ Hid (goN q f us = R) ∧ Hid (VOk vs.length us) ∧ OwnI (w.heap.size + 1) wo (.slice av vs.length cv) us ∧ Below (w.heap.size + 1) w1 wo) (fun _ wo => zer (rdI wo av vs.length))
  case atStart => exact ⟨13, vs, by have := zer_le vs; omega, HR.out.symm, hv, ho1, Below.refl _ _⟩
  case round =>
    obtain ⟨f, us, hzf, hG, hV, ho, hb⟩ := hrel
    obtain ⟨f, rfl⟩ : ∃ f', f = f' + 1 := ⟨f - 1, by omega⟩
    clear ho1
    have hoB := OwnI.new wr wr.heap.size (Nat.le_refl _)
    have HLU : Hid (us.length = vs.length) := hV.out.1
    have hle : us.length ≤ 12 := by have := HLU.out; omega
    have hav : ∀ p, av = some p → p.block < wr.heap.size := fun p hp => (ho.lt (k := p.block) (by rw [hp]; rfl)).2
    have gU : RdL _ _ us := ho.own.rd
    obtain ⟨wq, rfl⟩ : ∃ wq : World, wq = wr := ⟨_, rfl⟩
    go_wp2_with (at_builtin; refine wpList_append_flat (α := Int) (B := wq.heap.size) rfl _ _ 26 rfl i0 (.int .i64 0) 8 Tryz.underlying26 hi hz0 hz1 hz2 rfl rfl hoB.flat rfl (Rd.mono (α := List Int) ((Below.refl _ _).alloc (Nat.le_refl _) _) gU) (by simp; omega) (by simp; omega) (by simp) ?_; intro v2 w2 ho2 hb2 _)
    rw [List.nil_append] at ho2
    have how := ho2.ints (by omega)
    have hbq : Below wq.heap.size wq w2 := ((Below.refl _ _).alloc (Nat.le_refl _) _).trans hb2
    have hzw := hb.size
    have hb' := hb.trans (hbq.mono (by omega))
    have ho' := ho.kept hbq
    obtain ⟨aw, cw, rfl, _, _⟩ := how.open
    have hRd := rdI_eq ho.ints
    rw [HLU.out] at hRd
    have HRD := Lib.hid hRd
    clear ho2 hb2 hoB gU hRd
    go_wp2
    go_loopw [7] (fun i wr => ∃ (k : Nat) (xs : List Int), k ≤ q.rules.length ∧ i = .int .i64 k ∧ Hid (fTo q.rules us k = some xs) ∧ OwnI (w.heap.size + 1) wr (.slice av vs.length cv) xs ∧ OwnI wq.heap.size wr (.slice aw us.length cw) us ∧ Below (w.heap.size + 1) w1 wr ∧ wq.heap.size ≤ wr.heap.size) (fun i _ => q.rules.length - (intOf i).toNat)
    case atStart => exact ⟨0, us, Nat.zero_le _, rfl, rfl, ho', how, hb', hbq.size⟩
    case round =>
      obtain ⟨k, xs, hk, rfl, hT, ho, how, hb, hsz⟩ := hrel
      have hVx := fTo_ok hV.out HOK.out hk hT.out
      have hX := Lib.hid (CX1.out.kept (hb.block w.heap.size (by omega)))
      obtain ⟨y0, y1, y2, y3, y4, y5, y6, y7⟩ := cells8 hX.out
      have hzr := hb.size
      clear ho' hb' hbq
      by_cases hlt : k < q.rules.length
      · obtain ⟨b, off, rfl, hc⟩ := h1.base (by omega)
        obtain ⟨ecs, hC, hR⟩ := hc k hlt
        have hbw : Below w.heap.size w wr := t1.trans (hb.mono (by omega))
        have hC := hC.later hbw
        have hR := Rd.mono hbw hR
        have hok12k := hok12.out _ (nth_mem hlt)
        have hokk := HOK.out _ (nth_mem hlt)
        obtain ⟨ah, kh, ab, kb, rfl, hhI⟩ := rd5 hR
        have u0 := hC.c0
        have u1 := hC.c1
        have u2 := hC.c2
        have u3 := hC.c3
        have u4 := hC.c4
        rw [show Rd.k RuleD = 5 from rfl] at u0 u1 u2 u3 u4
        clear hC hc
        cases hc : (nth q.rules k).choice
        · rw [hc] at hR u0
          have bA := (Below.refl wr.heap.size wr).alloc (Nat.le_refl _) (.cells #[.bool false, .slice ah (nth q.rules k).heads.length kh, .bool (nth q.rules k).weight, .int .i64 (nth q.rules k).bound, .slice ab (nth q.rules k).body.length kb] 129)
          have CXr := Cells.new wr [.bool false, .slice ah (nth q.rules k).heads.length kh, .bool (nth q.rules k).weight, .int .i64 (nth q.rules k).bound, .slice ab (nth q.rules k).body.length kb] 129
          have HS : Hid (∀ W, Below (wr.alloc (.cells #[.bool false, .slice ah (nth q.rules k).heads.length kh, .bool (nth q.rules k).weight, .int .i64 (nth q.rules k).bound, .slice ab (nth q.rules k).body.length kb] 129)).heap.size (wr.alloc (.cells #[.bool false, .slice ah (nth q.rules k).heads.length kh, .bool (nth q.rules k).weight, .int .i64 (nth q.rules k).bound, .slice ab (nth q.rules k).body.length kb] 129)) W → (W.cell? ⟨wr.heap.size, 0, none⟩ = some (.bool false) ∧ W.cell? ⟨wr.heap.size, 1, none⟩ = some (.slice ah (nth q.rules k).heads.length kh) ∧ W.cell? ⟨wr.heap.size, 2, none⟩ = some (.bool (nth q.rules k).weight) ∧ W.cell? ⟨wr.heap.size, 3, none⟩ = some (.int .i64 (nth q.rules k).bound) ∧ W.cell? ⟨wr.heap.size, 4, none⟩ = some (.slice ab (nth q.rules k).body.length kb)) ∧ W.cell? ⟨w.heap.size, 0, none⟩ = some (.int .i64 (vs.length : Int))) :=
            fun W hW => ⟨cells5 (CXr.later hW), (cells8 ((hX.out.later bA).later hW)).1⟩
          have HLX : Hid (xs.length = vs.length) := hVx.1.1
          have WITH := fun (kk : Int) (W : World) (hW : Below wr.heap.size wr W) => Lib.hid (show Calls Tryz.prog 102 #[.slice av vs.length cv, .int .i64 kk] W fun e w' => ∃ v, e = .returned v ∧ OwnI W.heap.size w' v (withL xs kk) ∧ Below W.heap.size W w' from HLX.out ▸ l08With_calls av xs cv kk W ((ho.kept hW).ints))
          have hms := must_same (vs := xs) hn12 hokk
          cases hM : mustB (nth q.rules k) xs
          · have HMS : Hid (reachB (nth q.rules k) (h2B (withL xs 1) (notS vs.length xs)) = false) := hms.trans hM
            have hN : Hid (fTo q.rules us (k + 1) = some xs) := (fTo_next hT.out).trans (fOne_no hM)
            clear hms hM
            go_wp2
            refine wp_region_held_drew (S := fun w' => (w'.cell? ⟨wr.heap.size, 0, none⟩ = some (.bool false) ∧ w'.cell? ⟨wr.heap.size, 1, none⟩ = some (.slice ah (nth q.rules k).heads.length kh) ∧ w'.cell? ⟨wr.heap.size, 2, none⟩ = some (.bool (nth q.rules k).weight) ∧ w'.cell? ⟨wr.heap.size, 3, none⟩ = some (.int .i64 (nth q.rules k).bound) ∧ w'.cell? ⟨wr.heap.size, 4, none⟩ = some (.slice ab (nth q.rules k).body.length kb)) ∧ w'.cell? ⟨w.heap.size, 0, none⟩ = some (.int .i64 (vs.length : Int))) (by kernel_rfl) (HS.out _ (Below.refl _ _).drew) (fun hHeld => ?_)
            refine takeD (i := 0) (v := .pointer (some ⟨wr.heap.size, 0, none⟩)) (some 29) rfl rfl (by kernel_rfl) (by kernel_rfl) (by kernel_rfl) (fun _ _ _ h => h) (Or.inl ⟨by rfl, fun w' hw' => ?_⟩) hHeld ?_
            · first | (go_simp; done) | (obtain ⟨⟨s0, s1, s2, s3, s4⟩, s5⟩ := hw'; go_simp)
            try simp only [Act.put, List.setIfInBounds_toArray, List.set_cons_zero, List.set_cons_succ]
            refine takeD (i := 1) (v := .bool false) (some 30) rfl rfl (by kernel_rfl) (by kernel_rfl) (by kernel_rfl) (fun _ _ _ h => h) (Or.inl ⟨by rfl, fun w' hw' => ?_⟩) hHeld ?_
            · first | (go_simp; done) | (obtain ⟨⟨s0, s1, s2, s3, s4⟩, s5⟩ := hw'; go_simp)
            try simp only [Act.put, List.setIfInBounds_toArray, List.set_cons_zero, List.set_cons_succ]
            refine takeD (i := 2) (v := .bool false) (some 31) rfl rfl (by kernel_rfl) (by kernel_rfl) (by kernel_rfl) (fun _ _ _ h => h) (Or.inl ⟨by rfl, fun w' hw' => ?_⟩) hHeld ?_
            · first | (go_simp; done) | (obtain ⟨⟨s0, s1, s2, s3, s4⟩, s5⟩ := hw'; go_simp)
            try simp only [Act.put, List.setIfInBounds_toArray, List.set_cons_zero, List.set_cons_succ]
            refine takeD (i := 3) (v := .agg #[.bool false, .slice ah (nth q.rules k).heads.length kh, .bool (nth q.rules k).weight, .int .i64 (nth q.rules k).bound, .slice ab (nth q.rules k).body.length kb]) (some 32) rfl rfl (by kernel_rfl) (by kernel_rfl) (by kernel_rfl) (fun _ _ _ h => h) (Or.inl ⟨by rfl, fun w' hw' => ?_⟩) hHeld ?_
            · first | (go_simp; done) | (obtain ⟨⟨s0, s1, s2, s3, s4⟩, s5⟩ := hw'; go_simp)
            try simp only [Act.put, List.setIfInBounds_toArray, List.set_cons_zero, List.set_cons_succ]
            refine takeD (i := 4) (v := .slice av vs.length cv) (some 33) rfl rfl (by kernel_rfl) (by kernel_rfl) (by kernel_rfl) (fun _ _ _ h => h) (Or.inl ⟨by rfl, fun w' hw' => ?_⟩) hHeld ?_
            · first | (go_simp; done) | (obtain ⟨⟨s0, s1, s2, s3, s4⟩, s5⟩ := hw'; go_simp)
            try simp only [Act.put, List.setIfInBounds_toArray, List.set_cons_zero, List.set_cons_succ]
            refine takeD (i := 6) (v := .pointer (some ⟨w.heap.size, 0, none⟩)) (some 35) rfl rfl (by kernel_rfl) (by kernel_rfl) (by kernel_rfl) (fun _ _ _ h => h) (Or.inl ⟨by rfl, fun w' hw' => ?_⟩) hHeld ?_
            · first | (go_simp; done) | (obtain ⟨⟨s0, s1, s2, s3, s4⟩, s5⟩ := hw'; go_simp)
            try simp only [Act.put, List.setIfInBounds_toArray, List.set_cons_zero, List.set_cons_succ]
            refine takeD (i := 7) (v := .int .i64 (vs.length : Int)) (some 36) rfl rfl (by kernel_rfl) (by kernel_rfl) (by kernel_rfl) (fun _ _ _ h => h) (Or.inl ⟨by rfl, fun w' hw' => ?_⟩) hHeld ?_
            · first | (go_simp; done) | (obtain ⟨⟨s0, s1, s2, s3, s4⟩, s5⟩ := hw'; go_simp)
            try simp only [Act.put, List.setIfInBounds_toArray, List.set_cons_zero, List.set_cons_succ]
            refine takeD (i := 9) (v := .slice av vs.length cv) (some 38) rfl rfl (by kernel_rfl) (by kernel_rfl) (by kernel_rfl) (fun _ _ _ h => h) (Or.inl ⟨by rfl, fun w' hw' => ?_⟩) hHeld ?_
            · first | (go_simp; done) | (obtain ⟨⟨s0, s1, s2, s3, s4⟩, s5⟩ := hw'; go_simp)
            try simp only [Act.put, List.setIfInBounds_toArray, List.set_cons_zero, List.set_cons_succ]
            refine wpAnyH_ready (rs := [5]) (by kernel_rfl) (by simp) ?_
            refine AllReadyH.cons rfl (fun K hK => ?_) AllReadyH.nil
            go_simp
            refine (WITH 1 _ (bA.trans ((Below.refl _ _).drew.mono bA.size))).out.mono ?_
            rintro e w2 ⟨vy, rfl, oy, b2⟩
            obtain ⟨py, qy, rfl, _, _⟩ := oy.open
            have bX2 := (Below.refl _ _).drew.step b2
            refine hK.out _ _ (HS.out _ bX2) (fun hHeld => ?_)
            clear hK K
            try simp only [Act.put, List.setIfInBounds_toArray, List.set_cons_zero, List.set_cons_succ]
            refine wpAnyH_ready (rs := [8]) (by kernel_rfl) (by simp) ?_
            refine AllReadyH.cons rfl (fun K hK => ?_) AllReadyH.nil
            go_simp
            refine (l08All_calls _ _ hn12).mono ?_
            rintro e w3 ⟨va, rfl, oa, b3⟩
            obtain ⟨pa, qa, rfl, _, _⟩ := oa.open
            have bX3 := bX2.step b3
            refine hK.out _ _ (HS.out _ bX3) (fun hHeld => ?_)
            clear hK K
            try simp only [Act.put, List.setIfInBounds_toArray, List.set_cons_zero, List.set_cons_succ]
            refine wpAnyH_ready (rs := [10]) (by kernel_rfl) (by simp) ?_
            refine AllReadyH.cons rfl (fun K hK => ?_) AllReadyH.nil
            go_simp
            refine (WITH 2 _ (bA.trans (bX3.mono bA.size))).out.mono ?_
            rintro e w4 ⟨vf, rfl, of, b4⟩
            obtain ⟨pf, qf, rfl, _, _⟩ := of.open
            have bX4 := bX3.step b4
            refine hK.out _ _ (HS.out _ bX4) (fun hHeld => ?_)
            clear hK K
            try simp only [Act.put, List.setIfInBounds_toArray, List.set_cons_zero, List.set_cons_succ]
            refine wpAnyH_ready (rs := [11]) (by kernel_rfl) (by simp) ?_
            refine AllReadyH.cons rfl (fun K hK => ?_) AllReadyH.nil
            go_simp
            refine (specSetLess_calls _ _ _ _ _ _ _ (oa.kept b4).ints of.ints).mono ?_
            rintro e w5 ⟨vn, rfl, on, b5⟩
            have gn : RdL _ _ (notS vs.length xs) := on.own.rd
            have gy : RdL _ _ (withL xs 1) := (((oy.kept b3).kept b4).kept b5).own.rd
            obtain ⟨pn, qn, rfl, _, _⟩ := on.open
            have bX5 := bX4.step b5
            refine hK.out _ _ (HS.out _ bX5) (fun hHeld => ?_)
            clear hK K
            try simp only [Act.put, List.setIfInBounds_toArray, List.set_cons_zero, List.set_cons_succ]
            refine wpAnyH_ready (rs := [12]) (by kernel_rfl) (by simp) ?_
            refine AllReadyH.cons rfl (fun K hK => ?_) AllReadyH.nil
            go_simp
            refine (l02Reaches_calls (Rd.mono (bA.trans (bX5.mono bA.size)) hR) gy gn hok12k).mono ?_
            rintro e w6 ⟨he, b6⟩
            rw [HMS.out] at he
            subst he
            have bX6 := bX5.step b6
            refine hK.out _ _ (HS.out _ bX6) (fun hHeld => ?_)
            clear hK K
            try simp only [Act.put, List.setIfInBounds_toArray, List.set_cons_zero, List.set_cons_succ]
            refine wpAnyH_ready (rs := [13]) (by kernel_rfl) (by simp) ?_
            refine AllReadyH.cons rfl (fun K hK => ?_) AllReadyH.nil
            go_simp
            refine hK.out _ _ (HS.out _ bX6) (fun hHeld => ?_)
            clear hK K
            try simp only [Act.put, List.setIfInBounds_toArray, List.set_cons_zero, List.set_cons_succ]
            refine wpAnyH_ready (rs := [14]) (by kernel_rfl) (by simp) ?_
            refine AllReadyH.cons rfl (fun K hK => ?_) AllReadyH.nil
            go_simp
            refine hK.out _ _ (HS.out _ bX6) (fun hHeld => ?_)
            clear hK K
            try simp only [Act.put, List.setIfInBounds_toArray, List.set_cons_zero, List.set_cons_succ]
            refine wpAnyH_done (by kernel_rfl) ?_ _
            have bE := bA.trans (bX6.mono bA.size)
            clear WITH
            go_wp2
            go_roundw
            case rel => exact ⟨k + 1, xs, by omega, by go_num, hN, ho.kept bE, how.kept bE, hb.trans (bE.mono (by omega)), by have := bE.size; omega⟩
            case measure => simp [intOf]; omega
          · have HMS : Hid (reachB (nth q.rules k) (h2B (withL xs 1) (notS vs.length xs)) = true) := hms.trans hM
            clear hms hM
            have hM : Hid (mustB (nth q.rules k) xs = true) := (must_same hn12 hokk).symm.trans HMS.out
            have HC := Lib.hid hc
            clear hc
            cases hh : (nth q.rules k).heads with
            | nil =>
              have hRn : Hid (R = none) := by
                show _ = _
                rw [← hG.out]
                exact goN_none (roundV_none (k := k + 1) (by omega) ((fTo_next hT.out).trans (fOne_nil HC.out hM.out hh)))
              have hlb : (((nth q.rules k).heads.length : Int) == 0) = true := by rw [hh]; rfl
              have HH := Lib.hid hh
              clear hh
              go_wp2
              refine wp_region_held_drew (S := fun w' => (w'.cell? ⟨wr.heap.size, 0, none⟩ = some (.bool false) ∧ w'.cell? ⟨wr.heap.size, 1, none⟩ = some (.slice ah (nth q.rules k).heads.length kh) ∧ w'.cell? ⟨wr.heap.size, 2, none⟩ = some (.bool (nth q.rules k).weight) ∧ w'.cell? ⟨wr.heap.size, 3, none⟩ = some (.int .i64 (nth q.rules k).bound) ∧ w'.cell? ⟨wr.heap.size, 4, none⟩ = some (.slice ab (nth q.rules k).body.length kb)) ∧ w'.cell? ⟨w.heap.size, 0, none⟩ = some (.int .i64 (vs.length : Int))) (by kernel_rfl) (HS.out _ (Below.refl _ _).drew) (fun hHeld => ?_)
              refine takeD (i := 0) (v := .pointer (some ⟨wr.heap.size, 0, none⟩)) (some 29) rfl rfl (by kernel_rfl) (by kernel_rfl) (by kernel_rfl) (fun _ _ _ h => h) (Or.inl ⟨by rfl, fun w' hw' => ?_⟩) hHeld ?_
              · first | (go_simp; done) | (obtain ⟨⟨s0, s1, s2, s3, s4⟩, s5⟩ := hw'; go_simp)
              try simp only [Act.put, List.setIfInBounds_toArray, List.set_cons_zero, List.set_cons_succ]
              refine takeD (i := 1) (v := .bool false) (some 30) rfl rfl (by kernel_rfl) (by kernel_rfl) (by kernel_rfl) (fun _ _ _ h => h) (Or.inl ⟨by rfl, fun w' hw' => ?_⟩) hHeld ?_
              · first | (go_simp; done) | (obtain ⟨⟨s0, s1, s2, s3, s4⟩, s5⟩ := hw'; go_simp)
              try simp only [Act.put, List.setIfInBounds_toArray, List.set_cons_zero, List.set_cons_succ]
              refine takeD (i := 2) (v := .bool false) (some 31) rfl rfl (by kernel_rfl) (by kernel_rfl) (by kernel_rfl) (fun _ _ _ h => h) (Or.inl ⟨by rfl, fun w' hw' => ?_⟩) hHeld ?_
              · first | (go_simp; done) | (obtain ⟨⟨s0, s1, s2, s3, s4⟩, s5⟩ := hw'; go_simp)
              try simp only [Act.put, List.setIfInBounds_toArray, List.set_cons_zero, List.set_cons_succ]
              refine takeD (i := 3) (v := .agg #[.bool false, .slice ah (nth q.rules k).heads.length kh, .bool (nth q.rules k).weight, .int .i64 (nth q.rules k).bound, .slice ab (nth q.rules k).body.length kb]) (some 32) rfl rfl (by kernel_rfl) (by kernel_rfl) (by kernel_rfl) (fun _ _ _ h => h) (Or.inl ⟨by rfl, fun w' hw' => ?_⟩) hHeld ?_
              · first | (go_simp; done) | (obtain ⟨⟨s0, s1, s2, s3, s4⟩, s5⟩ := hw'; go_simp)
              try simp only [Act.put, List.setIfInBounds_toArray, List.set_cons_zero, List.set_cons_succ]
              refine takeD (i := 4) (v := .slice av vs.length cv) (some 33) rfl rfl (by kernel_rfl) (by kernel_rfl) (by kernel_rfl) (fun _ _ _ h => h) (Or.inl ⟨by rfl, fun w' hw' => ?_⟩) hHeld ?_
              · first | (go_simp; done) | (obtain ⟨⟨s0, s1, s2, s3, s4⟩, s5⟩ := hw'; go_simp)
              try simp only [Act.put, List.setIfInBounds_toArray, List.set_cons_zero, List.set_cons_succ]
              refine takeD (i := 6) (v := .pointer (some ⟨w.heap.size, 0, none⟩)) (some 35) rfl rfl (by kernel_rfl) (by kernel_rfl) (by kernel_rfl) (fun _ _ _ h => h) (Or.inl ⟨by rfl, fun w' hw' => ?_⟩) hHeld ?_
              · first | (go_simp; done) | (obtain ⟨⟨s0, s1, s2, s3, s4⟩, s5⟩ := hw'; go_simp)
              try simp only [Act.put, List.setIfInBounds_toArray, List.set_cons_zero, List.set_cons_succ]
              refine takeD (i := 7) (v := .int .i64 (vs.length : Int)) (some 36) rfl rfl (by kernel_rfl) (by kernel_rfl) (by kernel_rfl) (fun _ _ _ h => h) (Or.inl ⟨by rfl, fun w' hw' => ?_⟩) hHeld ?_
              · first | (go_simp; done) | (obtain ⟨⟨s0, s1, s2, s3, s4⟩, s5⟩ := hw'; go_simp)
              try simp only [Act.put, List.setIfInBounds_toArray, List.set_cons_zero, List.set_cons_succ]
              refine takeD (i := 9) (v := .slice av vs.length cv) (some 38) rfl rfl (by kernel_rfl) (by kernel_rfl) (by kernel_rfl) (fun _ _ _ h => h) (Or.inl ⟨by rfl, fun w' hw' => ?_⟩) hHeld ?_
              · first | (go_simp; done) | (obtain ⟨⟨s0, s1, s2, s3, s4⟩, s5⟩ := hw'; go_simp)
              try simp only [Act.put, List.setIfInBounds_toArray, List.set_cons_zero, List.set_cons_succ]
              refine wpAnyH_ready (rs := [5]) (by kernel_rfl) (by simp) ?_
              refine AllReadyH.cons rfl (fun K hK => ?_) AllReadyH.nil
              go_simp
              refine (WITH 1 _ (bA.trans ((Below.refl _ _).drew.mono bA.size))).out.mono ?_
              rintro e w2 ⟨vy, rfl, oy, b2⟩
              obtain ⟨py, qy, rfl, _, _⟩ := oy.open
              have bX2 := (Below.refl _ _).drew.step b2
              refine hK.out _ _ (HS.out _ bX2) (fun hHeld => ?_)
              clear hK K
              try simp only [Act.put, List.setIfInBounds_toArray, List.set_cons_zero, List.set_cons_succ]
              refine wpAnyH_ready (rs := [8]) (by kernel_rfl) (by simp) ?_
              refine AllReadyH.cons rfl (fun K hK => ?_) AllReadyH.nil
              go_simp
              refine (l08All_calls _ _ hn12).mono ?_
              rintro e w3 ⟨va, rfl, oa, b3⟩
              obtain ⟨pa, qa, rfl, _, _⟩ := oa.open
              have bX3 := bX2.step b3
              refine hK.out _ _ (HS.out _ bX3) (fun hHeld => ?_)
              clear hK K
              try simp only [Act.put, List.setIfInBounds_toArray, List.set_cons_zero, List.set_cons_succ]
              refine wpAnyH_ready (rs := [10]) (by kernel_rfl) (by simp) ?_
              refine AllReadyH.cons rfl (fun K hK => ?_) AllReadyH.nil
              go_simp
              refine (WITH 2 _ (bA.trans (bX3.mono bA.size))).out.mono ?_
              rintro e w4 ⟨vf, rfl, of, b4⟩
              obtain ⟨pf, qf, rfl, _, _⟩ := of.open
              have bX4 := bX3.step b4
              refine hK.out _ _ (HS.out _ bX4) (fun hHeld => ?_)
              clear hK K
              try simp only [Act.put, List.setIfInBounds_toArray, List.set_cons_zero, List.set_cons_succ]
              refine wpAnyH_ready (rs := [11]) (by kernel_rfl) (by simp) ?_
              refine AllReadyH.cons rfl (fun K hK => ?_) AllReadyH.nil
              go_simp
              refine (specSetLess_calls _ _ _ _ _ _ _ (oa.kept b4).ints of.ints).mono ?_
              rintro e w5 ⟨vn, rfl, on, b5⟩
              have gn : RdL _ _ (notS vs.length xs) := on.own.rd
              have gy : RdL _ _ (withL xs 1) := (((oy.kept b3).kept b4).kept b5).own.rd
              obtain ⟨pn, qn, rfl, _, _⟩ := on.open
              have bX5 := bX4.step b5
              refine hK.out _ _ (HS.out _ bX5) (fun hHeld => ?_)
              clear hK K
              try simp only [Act.put, List.setIfInBounds_toArray, List.set_cons_zero, List.set_cons_succ]
              refine wpAnyH_ready (rs := [12]) (by kernel_rfl) (by simp) ?_
              refine AllReadyH.cons rfl (fun K hK => ?_) AllReadyH.nil
              go_simp
              refine (l02Reaches_calls (Rd.mono (bA.trans (bX5.mono bA.size)) hR) gy gn hok12k).mono ?_
              rintro e w6 ⟨he, b6⟩
              rw [HMS.out] at he
              subst he
              have bX6 := bX5.step b6
              refine hK.out _ _ (HS.out _ bX6) (fun hHeld => ?_)
              clear hK K
              try simp only [Act.put, List.setIfInBounds_toArray, List.set_cons_zero, List.set_cons_succ]
              refine wpAnyH_ready (rs := [13]) (by kernel_rfl) (by simp) ?_
              refine AllReadyH.cons rfl (fun K hK => ?_) AllReadyH.nil
              go_simp
              refine hK.out _ _ (HS.out _ bX6) (fun hHeld => ?_)
              clear hK K
              try simp only [Act.put, List.setIfInBounds_toArray, List.set_cons_zero, List.set_cons_succ]
              refine wpAnyH_ready (rs := [14]) (by kernel_rfl) (by simp) ?_
              refine AllReadyH.cons rfl (fun K hK => ?_) AllReadyH.nil
              go_simp
              refine hK.out _ _ (HS.out _ bX6) (fun hHeld => ?_)
              clear hK K
              try simp only [Act.put, List.setIfInBounds_toArray, List.set_cons_zero, List.set_cons_succ]
              refine wpAnyH_done (by kernel_rfl) ?_ _
              have bE := bA.trans (bX6.mono bA.size)
              clear WITH
              obtain ⟨⟨z0, z1, z2, z3, z4⟩, z5⟩ := HS.out _ bX6
              go_wp2
              refine bodyPost_ret (v := .tuple #[.slice (some ⟨w6.heap.size, 0, none⟩) 0 0, .bool false]) (by simp [results, Tryz.results45, go_sem]) rfl ?_
              refine ⟨_, by rw [hRn.out]; rfl, ?_, ?_⟩
              · rw [hRn.out]
                exact OwnI.new _ _ (Nat.le_trans (by omega) bE.size)
              · exact (t1.trans (hb.mono (by omega))).trans ((bE.mono (by omega)).alloc (Nat.le_trans (by omega) bE.size) _)
            | cons a l =>
              obtain ⟨rfl, ha1, ha2⟩ := head_ok hokk HC.out hh
              obtain ⟨j, rfl⟩ : ∃ j : Nat, a = (j : Int) + 1 := ⟨(a - 1).toNat, by omega⟩
              have hjx : j < xs.length := by have := HLX.out; omega
              have hlh : Hid ((nth q.rules k).heads.length = 1) := by show _ = _; rw [hh]; rfl
              have hel : el (nth q.rules k).heads 0 = (j : Int) + 1 := by rw [hh]; rfl
              have hlb : (((nth q.rules k).heads.length : Int) == 0) = false := by rw [hh]; rfl
              have hpos : (0 : Int) < ((nth q.rules k).heads.length : Int) := by rw [hh]; simp
              have HH := Lib.hid hh
              clear hh
              by_cases h2 : el xs j = 2
              · have hRn : Hid (R = none) := by
                  show _ = _
                  rw [← hG.out]
                  exact goN_none (roundV_none (k := k + 1) (by omega) ((fTo_next hT.out).trans (fOne_clash HC.out hM.out HH.out (valB_yes hjx h2))))
                have h2b : (el xs j == 2) = true := by rw [h2]; rfl
                have hel := Lib.hid hel
                clear h2
                go_wp2
                refine wp_region_held_drew (S := fun w' => (w'.cell? ⟨wr.heap.size, 0, none⟩ = some (.bool false) ∧ w'.cell? ⟨wr.heap.size, 1, none⟩ = some (.slice ah (nth q.rules k).heads.length kh) ∧ w'.cell? ⟨wr.heap.size, 2, none⟩ = some (.bool (nth q.rules k).weight) ∧ w'.cell? ⟨wr.heap.size, 3, none⟩ = some (.int .i64 (nth q.rules k).bound) ∧ w'.cell? ⟨wr.heap.size, 4, none⟩ = some (.slice ab (nth q.rules k).body.length kb)) ∧ w'.cell? ⟨w.heap.size, 0, none⟩ = some (.int .i64 (vs.length : Int))) (by kernel_rfl) (HS.out _ (Below.refl _ _).drew) (fun hHeld => ?_)
                refine takeD (i := 0) (v := .pointer (some ⟨wr.heap.size, 0, none⟩)) (some 29) rfl rfl (by kernel_rfl) (by kernel_rfl) (by kernel_rfl) (fun _ _ _ h => h) (Or.inl ⟨by rfl, fun w' hw' => ?_⟩) hHeld ?_
                · first | (go_simp; done) | (obtain ⟨⟨s0, s1, s2, s3, s4⟩, s5⟩ := hw'; go_simp)
                try simp only [Act.put, List.setIfInBounds_toArray, List.set_cons_zero, List.set_cons_succ]
                refine takeD (i := 1) (v := .bool false) (some 30) rfl rfl (by kernel_rfl) (by kernel_rfl) (by kernel_rfl) (fun _ _ _ h => h) (Or.inl ⟨by rfl, fun w' hw' => ?_⟩) hHeld ?_
                · first | (go_simp; done) | (obtain ⟨⟨s0, s1, s2, s3, s4⟩, s5⟩ := hw'; go_simp)
                try simp only [Act.put, List.setIfInBounds_toArray, List.set_cons_zero, List.set_cons_succ]
                refine takeD (i := 2) (v := .bool false) (some 31) rfl rfl (by kernel_rfl) (by kernel_rfl) (by kernel_rfl) (fun _ _ _ h => h) (Or.inl ⟨by rfl, fun w' hw' => ?_⟩) hHeld ?_
                · first | (go_simp; done) | (obtain ⟨⟨s0, s1, s2, s3, s4⟩, s5⟩ := hw'; go_simp)
                try simp only [Act.put, List.setIfInBounds_toArray, List.set_cons_zero, List.set_cons_succ]
                refine takeD (i := 3) (v := .agg #[.bool false, .slice ah (nth q.rules k).heads.length kh, .bool (nth q.rules k).weight, .int .i64 (nth q.rules k).bound, .slice ab (nth q.rules k).body.length kb]) (some 32) rfl rfl (by kernel_rfl) (by kernel_rfl) (by kernel_rfl) (fun _ _ _ h => h) (Or.inl ⟨by rfl, fun w' hw' => ?_⟩) hHeld ?_
                · first | (go_simp; done) | (obtain ⟨⟨s0, s1, s2, s3, s4⟩, s5⟩ := hw'; go_simp)
                try simp only [Act.put, List.setIfInBounds_toArray, List.set_cons_zero, List.set_cons_succ]
                refine takeD (i := 4) (v := .slice av vs.length cv) (some 33) rfl rfl (by kernel_rfl) (by kernel_rfl) (by kernel_rfl) (fun _ _ _ h => h) (Or.inl ⟨by rfl, fun w' hw' => ?_⟩) hHeld ?_
                · first | (go_simp; done) | (obtain ⟨⟨s0, s1, s2, s3, s4⟩, s5⟩ := hw'; go_simp)
                try simp only [Act.put, List.setIfInBounds_toArray, List.set_cons_zero, List.set_cons_succ]
                refine takeD (i := 6) (v := .pointer (some ⟨w.heap.size, 0, none⟩)) (some 35) rfl rfl (by kernel_rfl) (by kernel_rfl) (by kernel_rfl) (fun _ _ _ h => h) (Or.inl ⟨by rfl, fun w' hw' => ?_⟩) hHeld ?_
                · first | (go_simp; done) | (obtain ⟨⟨s0, s1, s2, s3, s4⟩, s5⟩ := hw'; go_simp)
                try simp only [Act.put, List.setIfInBounds_toArray, List.set_cons_zero, List.set_cons_succ]
                refine takeD (i := 7) (v := .int .i64 (vs.length : Int)) (some 36) rfl rfl (by kernel_rfl) (by kernel_rfl) (by kernel_rfl) (fun _ _ _ h => h) (Or.inl ⟨by rfl, fun w' hw' => ?_⟩) hHeld ?_
                · first | (go_simp; done) | (obtain ⟨⟨s0, s1, s2, s3, s4⟩, s5⟩ := hw'; go_simp)
                try simp only [Act.put, List.setIfInBounds_toArray, List.set_cons_zero, List.set_cons_succ]
                refine takeD (i := 9) (v := .slice av vs.length cv) (some 38) rfl rfl (by kernel_rfl) (by kernel_rfl) (by kernel_rfl) (fun _ _ _ h => h) (Or.inl ⟨by rfl, fun w' hw' => ?_⟩) hHeld ?_
                · first | (go_simp; done) | (obtain ⟨⟨s0, s1, s2, s3, s4⟩, s5⟩ := hw'; go_simp)
                try simp only [Act.put, List.setIfInBounds_toArray, List.set_cons_zero, List.set_cons_succ]
                refine wpAnyH_ready (rs := [5]) (by kernel_rfl) (by simp) ?_
                refine AllReadyH.cons rfl (fun K hK => ?_) AllReadyH.nil
                go_simp
                refine (WITH 1 _ (bA.trans ((Below.refl _ _).drew.mono bA.size))).out.mono ?_
                rintro e w2 ⟨vy, rfl, oy, b2⟩
                obtain ⟨py, qy, rfl, _, _⟩ := oy.open
                have bX2 := (Below.refl _ _).drew.step b2
                refine hK.out _ _ (HS.out _ bX2) (fun hHeld => ?_)
                clear hK K
                try simp only [Act.put, List.setIfInBounds_toArray, List.set_cons_zero, List.set_cons_succ]
                refine wpAnyH_ready (rs := [8]) (by kernel_rfl) (by simp) ?_
                refine AllReadyH.cons rfl (fun K hK => ?_) AllReadyH.nil
                go_simp
                refine (l08All_calls _ _ hn12).mono ?_
                rintro e w3 ⟨va, rfl, oa, b3⟩
                obtain ⟨pa, qa, rfl, _, _⟩ := oa.open
                have bX3 := bX2.step b3
                refine hK.out _ _ (HS.out _ bX3) (fun hHeld => ?_)
                clear hK K
                try simp only [Act.put, List.setIfInBounds_toArray, List.set_cons_zero, List.set_cons_succ]
                refine wpAnyH_ready (rs := [10]) (by kernel_rfl) (by simp) ?_
                refine AllReadyH.cons rfl (fun K hK => ?_) AllReadyH.nil
                go_simp
                refine (WITH 2 _ (bA.trans (bX3.mono bA.size))).out.mono ?_
                rintro e w4 ⟨vf, rfl, of, b4⟩
                obtain ⟨pf, qf, rfl, _, _⟩ := of.open
                have bX4 := bX3.step b4
                refine hK.out _ _ (HS.out _ bX4) (fun hHeld => ?_)
                clear hK K
                try simp only [Act.put, List.setIfInBounds_toArray, List.set_cons_zero, List.set_cons_succ]
                refine wpAnyH_ready (rs := [11]) (by kernel_rfl) (by simp) ?_
                refine AllReadyH.cons rfl (fun K hK => ?_) AllReadyH.nil
                go_simp
                refine (specSetLess_calls _ _ _ _ _ _ _ (oa.kept b4).ints of.ints).mono ?_
                rintro e w5 ⟨vn, rfl, on, b5⟩
                have gn : RdL _ _ (notS vs.length xs) := on.own.rd
                have gy : RdL _ _ (withL xs 1) := (((oy.kept b3).kept b4).kept b5).own.rd
                obtain ⟨pn, qn, rfl, _, _⟩ := on.open
                have bX5 := bX4.step b5
                refine hK.out _ _ (HS.out _ bX5) (fun hHeld => ?_)
                clear hK K
                try simp only [Act.put, List.setIfInBounds_toArray, List.set_cons_zero, List.set_cons_succ]
                refine wpAnyH_ready (rs := [12]) (by kernel_rfl) (by simp) ?_
                refine AllReadyH.cons rfl (fun K hK => ?_) AllReadyH.nil
                go_simp
                refine (l02Reaches_calls (Rd.mono (bA.trans (bX5.mono bA.size)) hR) gy gn hok12k).mono ?_
                rintro e w6 ⟨he, b6⟩
                rw [HMS.out] at he
                subst he
                have bX6 := bX5.step b6
                refine hK.out _ _ (HS.out _ bX6) (fun hHeld => ?_)
                clear hK K
                try simp only [Act.put, List.setIfInBounds_toArray, List.set_cons_zero, List.set_cons_succ]
                refine wpAnyH_ready (rs := [13]) (by kernel_rfl) (by simp) ?_
                refine AllReadyH.cons rfl (fun K hK => ?_) AllReadyH.nil
                go_simp
                refine hK.out _ _ (HS.out _ bX6) (fun hHeld => ?_)
                clear hK K
                try simp only [Act.put, List.setIfInBounds_toArray, List.set_cons_zero, List.set_cons_succ]
                refine wpAnyH_ready (rs := [14]) (by kernel_rfl) (by simp) ?_
                refine AllReadyH.cons rfl (fun K hK => ?_) AllReadyH.nil
                go_simp
                refine hK.out _ _ (HS.out _ bX6) (fun hHeld => ?_)
                clear hK K
                try simp only [Act.put, List.setIfInBounds_toArray, List.set_cons_zero, List.set_cons_succ]
                refine wpAnyH_done (by kernel_rfl) ?_ _
                have bE := bA.trans (bX6.mono bA.size)
                clear WITH
                obtain ⟨⟨z0, z1, z2, z3, z4⟩, z5⟩ := HS.out _ bX6
                obtain ⟨bh, oh, rfl, hch⟩ := (hhI.later bE).at (by omega)
                have hck := hch 0 (by omega)
                rw [hel.out, Nat.add_zero] at hck
                have ho6 := ho.kept bE
                obtain ⟨g, cap, cur, hveq, hgB, hgh⟩ := ho6.blk (by omega)
                simp only [Value.slice.injEq] at hveq
                obtain ⟨rfl, -, rfl⟩ := hveq
                obtain ⟨bv, ov, hbv, hcv⟩ := ho6.ints.at (by omega)
                simp only [Option.some.injEq, Addr.mk.injEq, and_true] at hbv
                obtain ⟨rfl, rfl⟩ := hbv
                have hcj := hcv j hjx
                rw [Nat.zero_add] at hcj
                have hjl : j < vs.length := by have := HLX.out; omega
                clear hch hcv
                go_wp2
                refine bodyPost_ret (v := .tuple #[.slice (some ⟨w6.heap.size, 0, none⟩) 0 0, .bool false]) (by simp [results, Tryz.results45, go_sem]) rfl ?_
                refine ⟨_, by rw [hRn.out]; rfl, ?_, ?_⟩
                · rw [hRn.out]
                  exact OwnI.new _ _ (Nat.le_trans (by omega) bE.size)
                · exact (t1.trans (hb.mono (by omega))).trans ((bE.mono (by omega)).alloc (Nat.le_trans (by omega) bE.size) _)
              · have hN : Hid (fTo q.rules us (k + 1) = some (xs.set j 1)) := by
                  show _ = _
                  rw [fTo_next hT.out, fOne_set HC.out hM.out HH.out (valB_no hjx h2)]
                  unfold setV
                  rw [show ((j : Int) + 1 - 1).toNat = j by omega]
                have h2b : (el xs j == 2) = false := by simpa using h2
                have hel := Lib.hid hel
                clear h2
                go_wp2
                refine wp_region_held_drew (S := fun w' => (w'.cell? ⟨wr.heap.size, 0, none⟩ = some (.bool false) ∧ w'.cell? ⟨wr.heap.size, 1, none⟩ = some (.slice ah (nth q.rules k).heads.length kh) ∧ w'.cell? ⟨wr.heap.size, 2, none⟩ = some (.bool (nth q.rules k).weight) ∧ w'.cell? ⟨wr.heap.size, 3, none⟩ = some (.int .i64 (nth q.rules k).bound) ∧ w'.cell? ⟨wr.heap.size, 4, none⟩ = some (.slice ab (nth q.rules k).body.length kb)) ∧ w'.cell? ⟨w.heap.size, 0, none⟩ = some (.int .i64 (vs.length : Int))) (by kernel_rfl) (HS.out _ (Below.refl _ _).drew) (fun hHeld => ?_)
                refine takeD (i := 0) (v := .pointer (some ⟨wr.heap.size, 0, none⟩)) (some 29) rfl rfl (by kernel_rfl) (by kernel_rfl) (by kernel_rfl) (fun _ _ _ h => h) (Or.inl ⟨by rfl, fun w' hw' => ?_⟩) hHeld ?_
                · first | (go_simp; done) | (obtain ⟨⟨s0, s1, s2, s3, s4⟩, s5⟩ := hw'; go_simp)
                try simp only [Act.put, List.setIfInBounds_toArray, List.set_cons_zero, List.set_cons_succ]
                refine takeD (i := 1) (v := .bool false) (some 30) rfl rfl (by kernel_rfl) (by kernel_rfl) (by kernel_rfl) (fun _ _ _ h => h) (Or.inl ⟨by rfl, fun w' hw' => ?_⟩) hHeld ?_
                · first | (go_simp; done) | (obtain ⟨⟨s0, s1, s2, s3, s4⟩, s5⟩ := hw'; go_simp)
                try simp only [Act.put, List.setIfInBounds_toArray, List.set_cons_zero, List.set_cons_succ]
                refine takeD (i := 2) (v := .bool false) (some 31) rfl rfl (by kernel_rfl) (by kernel_rfl) (by kernel_rfl) (fun _ _ _ h => h) (Or.inl ⟨by rfl, fun w' hw' => ?_⟩) hHeld ?_
                · first | (go_simp; done) | (obtain ⟨⟨s0, s1, s2, s3, s4⟩, s5⟩ := hw'; go_simp)
                try simp only [Act.put, List.setIfInBounds_toArray, List.set_cons_zero, List.set_cons_succ]
                refine takeD (i := 3) (v := .agg #[.bool false, .slice ah (nth q.rules k).heads.length kh, .bool (nth q.rules k).weight, .int .i64 (nth q.rules k).bound, .slice ab (nth q.rules k).body.length kb]) (some 32) rfl rfl (by kernel_rfl) (by kernel_rfl) (by kernel_rfl) (fun _ _ _ h => h) (Or.inl ⟨by rfl, fun w' hw' => ?_⟩) hHeld ?_
                · first | (go_simp; done) | (obtain ⟨⟨s0, s1, s2, s3, s4⟩, s5⟩ := hw'; go_simp)
                try simp only [Act.put, List.setIfInBounds_toArray, List.set_cons_zero, List.set_cons_succ]
                refine takeD (i := 4) (v := .slice av vs.length cv) (some 33) rfl rfl (by kernel_rfl) (by kernel_rfl) (by kernel_rfl) (fun _ _ _ h => h) (Or.inl ⟨by rfl, fun w' hw' => ?_⟩) hHeld ?_
                · first | (go_simp; done) | (obtain ⟨⟨s0, s1, s2, s3, s4⟩, s5⟩ := hw'; go_simp)
                try simp only [Act.put, List.setIfInBounds_toArray, List.set_cons_zero, List.set_cons_succ]
                refine takeD (i := 6) (v := .pointer (some ⟨w.heap.size, 0, none⟩)) (some 35) rfl rfl (by kernel_rfl) (by kernel_rfl) (by kernel_rfl) (fun _ _ _ h => h) (Or.inl ⟨by rfl, fun w' hw' => ?_⟩) hHeld ?_
                · first | (go_simp; done) | (obtain ⟨⟨s0, s1, s2, s3, s4⟩, s5⟩ := hw'; go_simp)
                try simp only [Act.put, List.setIfInBounds_toArray, List.set_cons_zero, List.set_cons_succ]
                refine takeD (i := 7) (v := .int .i64 (vs.length : Int)) (some 36) rfl rfl (by kernel_rfl) (by kernel_rfl) (by kernel_rfl) (fun _ _ _ h => h) (Or.inl ⟨by rfl, fun w' hw' => ?_⟩) hHeld ?_
                · first | (go_simp; done) | (obtain ⟨⟨s0, s1, s2, s3, s4⟩, s5⟩ := hw'; go_simp)
                try simp only [Act.put, List.setIfInBounds_toArray, List.set_cons_zero, List.set_cons_succ]
                refine takeD (i := 9) (v := .slice av vs.length cv) (some 38) rfl rfl (by kernel_rfl) (by kernel_rfl) (by kernel_rfl) (fun _ _ _ h => h) (Or.inl ⟨by rfl, fun w' hw' => ?_⟩) hHeld ?_
                · first | (go_simp; done) | (obtain ⟨⟨s0, s1, s2, s3, s4⟩, s5⟩ := hw'; go_simp)
                try simp only [Act.put, List.setIfInBounds_toArray, List.set_cons_zero, List.set_cons_succ]
                refine wpAnyH_ready (rs := [5]) (by kernel_rfl) (by simp) ?_
                refine AllReadyH.cons rfl (fun K hK => ?_) AllReadyH.nil
                go_simp
                refine (WITH 1 _ (bA.trans ((Below.refl _ _).drew.mono bA.size))).out.mono ?_
                rintro e w2 ⟨vy, rfl, oy, b2⟩
                obtain ⟨py, qy, rfl, _, _⟩ := oy.open
                have bX2 := (Below.refl _ _).drew.step b2
                refine hK.out _ _ (HS.out _ bX2) (fun hHeld => ?_)
                clear hK K
                try simp only [Act.put, List.setIfInBounds_toArray, List.set_cons_zero, List.set_cons_succ]
                refine wpAnyH_ready (rs := [8]) (by kernel_rfl) (by simp) ?_
                refine AllReadyH.cons rfl (fun K hK => ?_) AllReadyH.nil
                go_simp
                refine (l08All_calls _ _ hn12).mono ?_
                rintro e w3 ⟨va, rfl, oa, b3⟩
                obtain ⟨pa, qa, rfl, _, _⟩ := oa.open
                have bX3 := bX2.step b3
                refine hK.out _ _ (HS.out _ bX3) (fun hHeld => ?_)
                clear hK K
                try simp only [Act.put, List.setIfInBounds_toArray, List.set_cons_zero, List.set_cons_succ]
                refine wpAnyH_ready (rs := [10]) (by kernel_rfl) (by simp) ?_
                refine AllReadyH.cons rfl (fun K hK => ?_) AllReadyH.nil
                go_simp
                refine (WITH 2 _ (bA.trans (bX3.mono bA.size))).out.mono ?_
                rintro e w4 ⟨vf, rfl, of, b4⟩
                obtain ⟨pf, qf, rfl, _, _⟩ := of.open
                have bX4 := bX3.step b4
                refine hK.out _ _ (HS.out _ bX4) (fun hHeld => ?_)
                clear hK K
                try simp only [Act.put, List.setIfInBounds_toArray, List.set_cons_zero, List.set_cons_succ]
                refine wpAnyH_ready (rs := [11]) (by kernel_rfl) (by simp) ?_
                refine AllReadyH.cons rfl (fun K hK => ?_) AllReadyH.nil
                go_simp
                refine (specSetLess_calls _ _ _ _ _ _ _ (oa.kept b4).ints of.ints).mono ?_
                rintro e w5 ⟨vn, rfl, on, b5⟩
                have gn : RdL _ _ (notS vs.length xs) := on.own.rd
                have gy : RdL _ _ (withL xs 1) := (((oy.kept b3).kept b4).kept b5).own.rd
                obtain ⟨pn, qn, rfl, _, _⟩ := on.open
                have bX5 := bX4.step b5
                refine hK.out _ _ (HS.out _ bX5) (fun hHeld => ?_)
                clear hK K
                try simp only [Act.put, List.setIfInBounds_toArray, List.set_cons_zero, List.set_cons_succ]
                refine wpAnyH_ready (rs := [12]) (by kernel_rfl) (by simp) ?_
                refine AllReadyH.cons rfl (fun K hK => ?_) AllReadyH.nil
                go_simp
                refine (l02Reaches_calls (Rd.mono (bA.trans (bX5.mono bA.size)) hR) gy gn hok12k).mono ?_
                rintro e w6 ⟨he, b6⟩
                rw [HMS.out] at he
                subst he
                have bX6 := bX5.step b6
                refine hK.out _ _ (HS.out _ bX6) (fun hHeld => ?_)
                clear hK K
                try simp only [Act.put, List.setIfInBounds_toArray, List.set_cons_zero, List.set_cons_succ]
                refine wpAnyH_ready (rs := [13]) (by kernel_rfl) (by simp) ?_
                refine AllReadyH.cons rfl (fun K hK => ?_) AllReadyH.nil
                go_simp
                refine hK.out _ _ (HS.out _ bX6) (fun hHeld => ?_)
                clear hK K
                try simp only [Act.put, List.setIfInBounds_toArray, List.set_cons_zero, List.set_cons_succ]
                refine wpAnyH_ready (rs := [14]) (by kernel_rfl) (by simp) ?_
                refine AllReadyH.cons rfl (fun K hK => ?_) AllReadyH.nil
                go_simp
                refine hK.out _ _ (HS.out _ bX6) (fun hHeld => ?_)
                clear hK K
                try simp only [Act.put, List.setIfInBounds_toArray, List.set_cons_zero, List.set_cons_succ]
                refine wpAnyH_done (by kernel_rfl) ?_ _
                have bE := bA.trans (bX6.mono bA.size)
                clear WITH
                obtain ⟨⟨z0, z1, z2, z3, z4⟩, z5⟩ := HS.out _ bX6
                obtain ⟨bh, oh, rfl, hch⟩ := (hhI.later bE).at (by omega)
                have hck := hch 0 (by omega)
                rw [hel.out, Nat.add_zero] at hck
                have ho6 := ho.kept bE
                obtain ⟨g, cap, cur, hveq, hgB, hgh⟩ := ho6.blk (by omega)
                simp only [Value.slice.injEq] at hveq
                obtain ⟨rfl, -, rfl⟩ := hveq
                obtain ⟨bv, ov, hbv, hcv⟩ := ho6.ints.at (by omega)
                simp only [Option.some.injEq, Addr.mk.injEq, and_true] at hbv
                obtain ⟨rfl, rfl⟩ := hbv
                have hcj := hcv j hjx
                rw [Nat.zero_add] at hcj
                have hjl : j < vs.length := by have := HLX.out; omega
                clear hch hcv
                have hfz := frozen_of_row w6 g j cur _ hgh
                have hgq : g < wq.heap.size := hav _ rfl
                have ho9 := ho6.setC (i := j) hjx (x := 1) ⟨by omega, by omega⟩
                have how9 := (how.kept bE).setB (a := ⟨g, j, none⟩) hgq (.int .i64 1)
                have hb9 := (hb.trans (bE.mono (by omega))).setCell (p := ⟨g, j, none⟩) hgB (.int .i64 1)
                have hs9 : wq.heap.size ≤ (w6.setCell ⟨g, j, none⟩ (.int .i64 1)).heap.size := by
                  have := bE.size
                  have e : (w6.setCell ⟨g, j, none⟩ (.int .i64 1)).heap.size = w6.heap.size := by simp [World.setCell]
                  omega
                go_wp2
                go_roundw
                case rel => exact ⟨k + 1, xs.set j 1, by omega, by go_num, hN, ho9, how9, hb9, hs9⟩
                case measure => simp [intOf]; omega
        · rw [hc] at u0
          have hN : Hid (fTo q.rules us (k + 1) = some xs) := (fTo_next hT.out).trans (fOne_ch hc)
          have bA := (Below.refl wr.heap.size wr).alloc (Nat.le_refl _) (.cells #[.bool true, .slice ah (nth q.rules k).heads.length kh, .bool (nth q.rules k).weight, .int .i64 (nth q.rules k).bound, .slice ab (nth q.rules k).body.length kb] 129)
          obtain ⟨z0, z1, z2, z3, z4⟩ := cells5 (Cells.new wr [.bool true, .slice ah (nth q.rules k).heads.length kh, .bool (nth q.rules k).weight, .int .i64 (nth q.rules k).bound, .slice ab (nth q.rules k).body.length kb] 129)
          go_wp2
          go_quiet (fail)
          have bE := below_drewN bA nq
          go_wp2
          go_roundw
          case rel => exact ⟨k + 1, xs, by omega, by go_num, hN, ho.kept bE, how.kept bE, hb.trans (bE.mono (by omega)), by have := bE.size; omega⟩
          case measure => simp [intOf]; omega
      · obtain rfl : k = q.rules.length := by omega
        have HLX : Hid (xs.length = vs.length) := hVx.1.1
        have hE1 := Lib.hid (roundV_some hT.out)
        have hbw : Below w.heap.size w wr := t1.trans (hb.mono (by omega))
        have gX : RdL _ _ xs := ho.own.rd
        obtain ⟨wc, rfl⟩ : ∃ wc : World, wc = wr := ⟨_, rfl⟩
        go_wp2_with fail
        refine (l08Come_calls (Rd.mono hbw h0) gX hok12.out).mono ?_
        rintro e w3 ⟨vS, rfl, oS, b3⟩
        obtain ⟨S, hS⟩ : ∃ S, S = comeL q.rules xs := ⟨_, rfl⟩
        have HS := Lib.hid hS
        rw [← hS] at oS
        clear hS gX
        obtain ⟨pS, qS, rfl, _, _⟩ := oS.open
        have ho3 := ho.kept b3
        have how3 := how.kept b3
        have hb3 := hb.trans (b3.mono (by omega))
        have hsz3 := b3.size
        clear y0 y1 y2 y3 y4 y5 y6 y7
        go_wp2
        go_loopw [10] (fun i wr => ∃ (k : Nat) (ys : List Int), k ≤ vs.length ∧ i = .int .i64 ((k : Int) + 1) ∧ Hid (exTo S xs k = some ys) ∧ OwnI (w.heap.size + 1) wr (.slice av vs.length cv) ys ∧ OwnI wq.heap.size wr (.slice aw us.length cw) us ∧ OwnI wc.heap.size wr (.slice pS S.length qS) S ∧ Below (w.heap.size + 1) w1 wr ∧ wc.heap.size ≤ wr.heap.size) (fun i _ => vs.length + 1 - (intOf i).toNat)
        case atStart => exact ⟨0, xs, Nat.zero_le _, rfl, rfl, ho3, how3, oS, hb3, hsz3⟩
        case round =>
          obtain ⟨k, ys, hk, rfl, hT2, ho, how, oS, hb, hsz2⟩ := hrel
          have hVy := exTo_ok hVx.1 hk hT2.out
          have HLY : Hid (ys.length = vs.length) := hVy.1.1
          have hX := Lib.hid (CX1.out.kept (hb.block w.heap.size (by omega)))
          obtain ⟨y0, y1, y2, y3, y4, y5, y6, y7⟩ := cells8 hX.out
          have hzr := hb.size
          by_cases hlt : k < vs.length
          · have hd1 : (k : Int) + 1 ≤ (vs.length : Int) := by omega
            have hky : k < ys.length := by have := HLY.out; omega
            cases hH : hasB S ((k : Int) + 1)
            · by_cases h5 : el ys k = 1
              · have hRn : Hid (R = none) := by
                  show _ = _
                  rw [← hG.out]
                  refine goN_none ?_
                  rw [hE1.out]
                  show exTo (comeL q.rules xs) xs q.atoms.toNat = none
                  rw [← HS.out, HQN.out]
                  exact exTo_none ((exTo_next hT2.out).trans (exOne_clash hH h5)) (by omega)
                have h5b : (el ys k == 1) = true := by rw [h5]; rfl
                clear h5
                obtain ⟨g, cap, cur, hveq, hgB, hgh⟩ := ho.blk (by omega)
                simp only [Value.slice.injEq] at hveq
                obtain ⟨rfl, -, rfl⟩ := hveq
                obtain ⟨bv, ov, hbv, hcv⟩ := ho.ints.at (by omega)
                simp only [Option.some.injEq, Addr.mk.injEq, and_true] at hbv
                obtain ⟨rfl, rfl⟩ := hbv
                have hcj := hcv k hky
                rw [Nat.zero_add] at hcj
                clear hcv
                go_wp2_with (go_at_call 91; refine (SetHas_calls _ _ _ _ _ oS.ints).mono ?_; rintro e w' ⟨he, rfl⟩; rw [hH] at he; subst he)
                refine bodyPost_ret (v := .tuple #[.slice (some ⟨wr.heap.size, 0, none⟩) 0 0, .bool false]) (by simp [results, Tryz.results45, go_sem]) rfl ?_
                refine ⟨_, by rw [hRn.out]; rfl, ?_, ?_⟩
                · rw [hRn.out]
                  exact OwnI.new _ _ (by omega)
                · exact (t1.trans (hb.mono (by omega))).alloc (by omega) _
              · have hN : Hid (exTo S xs (k + 1) = some (ys.set k 2)) := (exTo_next hT2.out).trans (exOne_set hH h5)
                have h5b : (el ys k == 1) = false := by simpa using h5
                clear h5
                obtain ⟨g, cap, cur, hveq, hgB, hgh⟩ := ho.blk (by omega)
                simp only [Value.slice.injEq] at hveq
                obtain ⟨rfl, -, rfl⟩ := hveq
                obtain ⟨bv, ov, hbv, hcv⟩ := ho.ints.at (by omega)
                simp only [Option.some.injEq, Addr.mk.injEq, and_true] at hbv
                obtain ⟨rfl, rfl⟩ := hbv
                have hcj := hcv k hky
                rw [Nat.zero_add] at hcj
                clear hcv
                have hfz := frozen_of_row wr g k cur _ hgh
                have hgq : g < wq.heap.size := hav _ rfl
                have ho9 := ho.setC (i := k) hky (x := 2) ⟨by omega, by omega⟩
                have how9 := how.setB (a := ⟨g, k, none⟩) hgq (.int .i64 2)
                have oS9 := oS.setB (a := ⟨g, k, none⟩) (show g < wc.heap.size by omega) (.int .i64 2)
                have hb9 := hb.setCell (p := ⟨g, k, none⟩) hgB (.int .i64 2)
                have hs9 : wc.heap.size ≤ (wr.setCell ⟨g, k, none⟩ (.int .i64 2)).heap.size := by
                  have e : (wr.setCell ⟨g, k, none⟩ (.int .i64 2)).heap.size = wr.heap.size := by simp [World.setCell]
                  omega
                go_wp2_with (go_at_call 91; refine (SetHas_calls _ _ _ _ _ oS.ints).mono ?_; rintro e w' ⟨he, rfl⟩; rw [hH] at he; subst he)
                go_roundw
                case rel => exact ⟨k + 1, ys.set k 2, by omega, by go_num, hN, ho9, how9, oS9, hb9, hs9⟩
                case measure => simp [intOf]; omega
            · have hN : Hid (exTo S xs (k + 1) = some ys) := (exTo_next hT2.out).trans (exOne_in hH)
              go_wp2_with (go_at_call 91; refine (SetHas_calls _ _ _ _ _ oS.ints).mono ?_; rintro e w' ⟨he, rfl⟩; rw [hH] at he; subst he)
              go_roundw
              case rel => exact ⟨k + 1, ys, by omega, by go_num, hN, ho, how, oS, hb, hsz2⟩
              case measure => simp [intOf]; omega
          · obtain rfl : k = vs.length := by omega
            have hd1 : (vs.length : Int) < (vs.length : Int) + 1 := by omega
            have hE2 : Hid (roundV q us = some ys) := by
              show _ = _
              rw [hE1.out]
              show exTo (comeL q.rules xs) xs q.atoms.toNat = some ys
              rw [← HS.out, HQN.out]
              exact hT2.out
            have hsame := Lib.hid (HLY.out ▸ l01Same_calls aw av us ys cw cv wr how.ints ho.ints)
            have hoL := ho
            have tL := t1.trans (hb.mono (show w.heap.size ≤ w.heap.size + 1 by omega))
            by_cases hq : ys = us
            · subst hq
              have hRs : Hid (R = some ys) := hG.out.symm.trans (goN_same hE2.out)
              have hqe := eqB_self ys
              go_wp2_with fail
              refine hsame.out.mono ?_
              rintro e w5 ⟨he, b5⟩
              rw [hqe] at he
              subst he
              go_wp2
              refine bodyPost_ret (v := .tuple #[.slice av vs.length cv, .bool true]) (by simp [results, Tryz.results45, go_sem]) rfl ?_
              refine ⟨_, by rw [hRs.out]; rfl, ?_, tL.trans (b5.mono (by have := tL.size; omega))⟩
              rw [hRs.out]
              exact (hoL.kept b5).mono (by omega)
            · have hqe : eqB us ys = false := by unfold eqB; exact decide_eq_false fun e => hq e.symm
              have hN : Hid (goN q f ys = R) := (goN_next hE2.out hq).symm.trans hG.out
              have hzl := zer_less hV.out (hVx.2.trans hVy.2) hq
              have HV2 := Lib.hid hVy.1
              go_wp2_with fail
              refine hsame.out.mono ?_
              rintro e w5 ⟨he, b5⟩
              rw [hqe] at he
              subst he
              have ho5 := ho.kept b5
              have hR5 := rdI_eq ho5.ints
              rw [HLY.out] at hR5
              have HR5 := Lib.hid hR5
              clear hR5 hq
              go_wp2
              go_roundw
              case rel => exact ⟨f, ys, by omega, hN, HV2, ho5, hb.trans (b5.mono (by omega))⟩
              case measure => rw [HR5.out, HRD.out]; exact hzl


theorem propR_C {p : ProgD} {vs : List Int} (h : valsOkR p vs = true) : (foldD p).atoms = (vs.length : Int) ∧ VOk vs.length vs ∧ ∀ r ∈ (foldD p).rules, ruleOkB r (vs.length : Int) = true := by
  unfold valsOkR at h
  rw [Bool.and_eq_true, Bool.and_eq_true, decide_eq_true_eq, List.all_eq_true] at h
  obtain ⟨h1, h2, h3⟩ := h
  have hok : progOkB (foldD p) = true := foldR_ok h1
  obtain ⟨a0, a1⟩ := progOk_atoms hok
  refine ⟨h2.symm, ⟨rfl, by omega, fun v hv => ?_⟩, fun r hr => by rw [h2]; exact (progOk_rules hok).2 r hr⟩
  have := h3 v hv
  unfold valB2 btwB at this
  rw [decide_eq_true_eq] at this
  omega
set_option maxHeartbeats 2000000 in
theorem specPropagate_calls {cs : List Value} {p : ProgD} {w : World} {v : Value} {vs : List Int} (h : Rd.R w cs p) (gx : RdL w [v] vs) :
    Calls Tryz.prog 10 #[.agg cs.toArray, v] w fun e w' => ∃ u, e = .returned (.tuple #[u, .bool (propO p vs)]) ∧ Own w.heap.size w' [u] (propL p vs) ∧ Below w.heap.size w w' := by
  obtain ⟨p0, p1, p2, p3, p4, p5, p6, p7, rfl⟩ := list8 (Rd.len h)
  obtain ⟨ax, cx, rfl, _, hx⟩ := gx.sl
  have t0 : Below w.heap.size w (w.alloc (.cells #[p0, p1, p2, p3, p4, p5, p6, p7] 30)) := (Below.refl _ _).alloc (by simp) _
  cases hO : valsOkR p vs
  · have hv : Hid (propR p vs = none) := propR_no hO
    go_enter Tryz.func10, Tryz.ntmps10
    go_wp2_with fail
    refine (specValsOk_calls (Rd.mono t0 h) (Rd.mono (α := List Int) t0 gx)).mono ?_
    rintro e w1 ⟨he, b1⟩
    rw [hO] at he
    subst he
    have t1 := t0.step b1
    go_wp2
    refine bodyPost_ret (v := .tuple #[.slice (some ⟨w1.heap.size, 0, none⟩) 0 0, .bool false]) (by simp [results, Tryz.results10, go_sem]) rfl ?_
    refine ⟨_, by unfold propO; rw [hv.out]; rfl, ?_, t1.alloc t1.size _⟩
    unfold propL
    rw [hv.out]
    exact (OwnI.new w1 w.heap.size t1.size).own
  · have hv : Hid (propR p vs = goN (foldD p) 13 vs) := propR_yes hO
    have hF : foldB p = true := by
      unfold valsOkR at hO
      rw [Bool.and_eq_true] at hO
      exact hO.1
    obtain ⟨hq1, hq2, hq3⟩ := propR_C hO
    have HQ1 := Lib.hid hq1
    go_enter Tryz.func10, Tryz.ntmps10
    go_wp2_with fail
    refine (specValsOk_calls (Rd.mono t0 h) (Rd.mono (α := List Int) t0 gx)).mono ?_
    rintro e w1 ⟨he, b1⟩
    rw [hO] at he
    subst he
    have t1 := t0.step b1
    have CX := Cells.new w [p0, p1, p2, p3, p4, p5, p6, p7] 30
    obtain ⟨y0, y1, y2, y3, y4, y5, y6, y7⟩ := cells8 (CX.later b1)
    clear hq1
    go_wp2_with fail
    refine (specFold_calls (Rd.mono t1 h)).mono ?_
    rintro e w2 ⟨cs2, he, o2, b2⟩
    rw [hF] at he
    rw [foldR_yes hF] at o2
    subst he
    have t2 := t1.step b2
    have l2 := Rd.one o2.rd
    obtain ⟨x0, x1, x2, x3, x4, x5, x6, x7, rfl⟩ := list8 (Rd.len o2.rd)
    have st0 := sto Tryz.prog (l2 x0 (by simp))
    have st1 := sto Tryz.prog (l2 x1 (by simp))
    have st2 := sto Tryz.prog (l2 x2 (by simp))
    have st3 := sto Tryz.prog (l2 x3 (by simp))
    have st4 := sto Tryz.prog (l2 x4 (by simp))
    have st5 := sto Tryz.prog (l2 x5 (by simp))
    have st6 := sto Tryz.prog (l2 x6 (by simp))
    have st7 := sto Tryz.prog (l2 x7 (by simp))
    have o3 := o2.alloc (.cells #[x0, x1, x2, x3, x4, x5, x6, x7] 30)
    have t3 := t2.alloc t2.size (.cells #[x0, x1, x2, x3, x4, x5, x6, x7] 30)
    go_wp2_with fail
    refine (l08Go_calls o3.rd (Rd.mono (α := List Int) t3 gx) HQ1.out hq2 hq3).mono ?_
    rintro e w4 ⟨u, rfl, o4, b4⟩
    obtain ⟨pu, cu, rfl, _, _⟩ := o4.open
    go_wp2
    refine bodyPost_ret (v := .tuple #[.slice pu ((goN (foldD p) 13 vs).getD []).length cu, .bool (goN (foldD p) 13 vs).isSome]) (by simp [results, Tryz.results10, go_sem]) rfl ?_
    refine ⟨_, by unfold propO; rw [hv.out], ?_, t3.step b4⟩
    unfold propL
    rw [hv.out]
    exact (o4.mono t3.size).own


end Go.Proofs.YtingnpnnacafbaaGreat
