/-
  The top of a program that is split: what the model answers. No condition of its own.
-/
import Derived.Test.YthikhkeofcjdfaaGreatBotN
import Derived.Test.YthikhkeofcjdfaaGreatCg
namespace Go.Proofs.YthikhkeofcjdfaaGreat
set_option linter.unusedVariables false
set_option linter.unusedSimpArgs false
open Go.RowKit
set_option maxRecDepth 100000



theorem own_bodyS {w w5 : World} {M : Nat} {r : RuleD} {c1 c4 v4 : Value} {fp : List Nat} {ys : List (Int × Int)} {wt : Bool} {bd : Int} (ho : Ow.O w [.bool r.choice, c1, .bool r.weight, .int .i64 r.bound, c4] r fp) (hb : Below w.heap.size w w5) (hv : Own M w5 [v4] ys) (hM : w.heap.size ≤ M) (hf : Fits bd) :
    ∃ fp', Ow.O w5 [.bool r.choice, c1, .bool wt, .int .i64 bd, v4] { r with weight := wt, bound := bd, body := ys } fp' ∧ ∀ f ∈ fp', f ∈ fp ∨ M ≤ f := by
  obtain ⟨d1, d4, f1, f2, e, hf', h1, h4, rfl, hn⟩ := ho
  simp only [List.cons.injEq, and_true, true_and] at e
  obtain ⟨rfl, rfl⟩ := e
  obtain ⟨f3, h3, hl3⟩ := hv
  have h3l := Ow.nodup (α := List (Int × Int)) h3
  have h1l := Ow.lt (α := List Int) h1
  refine ⟨f1 ++ f3, ⟨c1, v4, f1, f3, rfl, hf, Ow.kept (α := List Int) h1 fun g hg => hb.block g (h1l g hg), h3, rfl, List.nodup_append.2 ⟨(List.nodup_append.1 hn).1, h3l, fun a ha b hb e => ?_⟩⟩, fun f hf => ?_⟩
  · have := h1l a ha; have := hl3 b hb; omega
  · rcases List.mem_append.1 hf with hf | hf
    · exact .inl (List.mem_append_left _ hf)
    · exact .inr (hl3 f hf)
set_option maxHeartbeats 2000000 in
theorem specTop_calls {cs : List Value} {p : ProgD} {w : World} {v vx : Value} {us xs : List Int} (h : Rd.R w cs p) (gx : RdL w [v] us) (gy : RdL w [vx] xs) :
    Calls Tryz.prog 38 #[.agg cs.toArray, v, vx] w fun e w' => ∃ cs', e = .returned (.agg cs'.toArray) ∧ Own w.heap.size w' cs' (topD p us xs) ∧ Below w.heap.size w w' := by
  obtain ⟨i0, hi, hzz0, hzz1, hzz2⟩ := info_parts info_cloneWLit
  obtain ⟨i3, hi3, hz30, hz31, hz32⟩ := info_parts info_copiesRule
  obtain ⟨p0, p1, p2, p3, p4, p5, p6, p7, rfl⟩ := list8 (Rd.len h)
  obtain ⟨ax, cx, rfl, _, hx⟩ := gx.sl
  obtain ⟨ay, cy, rfl, _, hy⟩ := gy.sl
  have t0 : Below w.heap.size w ((w.alloc (.cells #[p0, p1, p2, p3, p4, p5, p6, p7] 30)).alloc (.cells #[.int .i64 0, .slice none 0 0, .slice none 0 0, .bool false, .slice none 0 0, .slice none 0 0, .slice none 0 0, .slice none 0 0] 30)) := ((Below.refl _ _).alloc (by simp) _).alloc (by simp) _
  have CP := (Cells.new w [p0, p1, p2, p3, p4, p5, p6, p7] 30).alloc (.cells #[.int .i64 0, .slice none 0 0, .slice none 0 0, .bool false, .slice none 0 0, .slice none 0 0, .slice none 0 0, .slice none 0 0] 30)
  have hb0 := alloc_block (w.alloc (.cells #[p0, p1, p2, p3, p4, p5, p6, p7] 30)) #[.int .i64 0, .slice none 0 0, .slice none 0 0, .bool false, .slice none 0 0, .slice none 0 0, .slice none 0 0, .slice none 0 0] 30
  rw [World.size_alloc] at hb0
  have hzs : ((w.alloc (.cells #[p0, p1, p2, p3, p4, p5, p6, p7] 30)).alloc (.cells #[.int .i64 0, .slice none 0 0, .slice none 0 0, .bool false, .slice none 0 0, .slice none 0 0, .slice none 0 0, .slice none 0 0] 30)).heap.size = w.heap.size + 2 := by simp
  go_enter Tryz.func38, Tryz.ntmps38
  go_wp2_with fail
  refine (specIsSplit_calls (Rd.mono t0 h) (Rd.mono (α := List Int) t0 gx)).mono ?_
  rintro e w0 ⟨rfl, b0⟩
  have hbr0 := (b0.block (w.heap.size + 1) (by rw [hzs]; omega)).trans hb0
  have hz0 : w.heap.size + 2 ≤ w0.heap.size := by have := b0.size; omega
  have t0' := t0.step b0
  have CP0 := CP.later b0
  cases hP : splB p us
  · skip
    have HC := Lib.hid (topD_no (xs := xs) hP)
    obtain ⟨z0, z1, z2, z3, z4, z5, z6, z7⟩ := cells8 (cellsAtB hbr0)
    have hfz := fun j => frozen_of_row _ (w.heap.size + 1) j _ _ hbr0
    clear hb0 b0 hP CP CP0
    go_wp2
    exact bodyPost_ret (v := .agg #[.int .i64 0, .slice none 0 0, .slice none 0 0, .bool false, .slice none 0 0, .slice none 0 0, .slice none 0 0, .slice none 0 0])
      (by simp [results, Tryz.results38, go_sem, z0, z1, z2, z3, z4, z5, z6, z7]) rfl ⟨_, rfl, by rw [HC.out]; exact own_zero _ _, by
      repeat (refine Below.setCell ?_ (by simp; try omega) _)
      exact t0'⟩
  · skip
    have HC := Lib.hid (topD_yes (xs := xs) hP)
    have hFd := splB_fold hP
    have hok : progOkB (foldD p) = true := foldR_ok hFd
    have hr12 := Lib.hid (rules12 hok)
    have nr := (progOk_rules hok).1
    clear hP hok
    obtain ⟨y0, y1, y2, y3, y4, y5, y6, y7⟩ := cells8 CP0
    go_wp2_with fail
    refine (specFold_calls (Rd.mono t0' h)).mono ?_
    rintro e w1 ⟨cs1, he, o1, b1⟩
    rw [hFd] at he
    rw [foldR_yes hFd] at o1
    subst he
    obtain ⟨q, hq⟩ : ∃ q, q = foldD p := ⟨_, rfl⟩
    rw [← hq] at o1 HC hr12 nr
    clear hq hFd
    have hz1 := b1.size
    have hbr1 := (b1.block (w.heap.size + 1) (by omega)).trans hbr0
    have oR := o1.rd
    obtain ⟨c1, c2, c4, c5, c6, c7, rfl, -, g1, g2, g4, g5, g6, g7⟩ := oR
    have st1 := sto Tryz.prog g1.one1
    have st2 := sto Tryz.prog g2.one1
    have st4 := sto Tryz.prog g4.one1
    have st5 := sto Tryz.prog g5.one1
    have st6 := sto Tryz.prog g6.one1
    have st7 := sto Tryz.prog g7.one1
    clear g1 g2 g4 g5 g6 g7 y0 y1 y2 y3 y4 y5 y6 y7
    obtain ⟨a1, k1, g, fps, fpR, rfl, ha, hnd, hfl, hel, -, -, hfa⟩ := own_rules o1
    have CQ0 := Cells.new w1 [.int .i64 q.atoms, .slice a1 q.rules.length k1, c2, .bool q.projOn, c4, c5, c6, c7] 30
    have bQ := (Below.refl w1.heap.size w1).alloc (Nat.le_refl _) (.cells #[.int .i64 q.atoms, .slice a1 q.rules.length k1, c2, .bool q.projOn, c4, c5, c6, c7] 30)
    have bA := bQ.alloc bQ.size (.cells #[.int .i64 q.atoms, .slice none 0 0, .slice none 0 0, .bool false, .slice none 0 0, .slice none 0 0, .slice none 0 0, .slice none 0 0] 30)
    have CQ1 := CQ0.alloc (.cells #[.int .i64 q.atoms, .slice none 0 0, .slice none 0 0, .bool false, .slice none 0 0, .slice none 0 0, .slice none 0 0, .slice none 0 0] 30)
    have hB0 := alloc_block (w1.alloc (.cells #[.int .i64 q.atoms, .slice a1 q.rules.length k1, c2, .bool q.projOn, c4, c5, c6, c7] 30)) #[.int .i64 q.atoms, .slice none 0 0, .slice none 0 0, .bool false, .slice none 0 0, .slice none 0 0, .slice none 0 0, .slice none 0 0] 30
    rw [World.size_alloc] at hB0
    have hzA : ((w1.alloc (.cells #[.int .i64 q.atoms, .slice a1 q.rules.length k1, c2, .bool q.projOn, c4, c5, c6, c7] 30)).alloc (.cells #[.int .i64 q.atoms, .slice none 0 0, .slice none 0 0, .bool false, .slice none 0 0, .slice none 0 0, .slice none 0 0, .slice none 0 0] 30)).heap.size = w1.heap.size + 2 := by simp
    have tA := (t0'.step b1).step bA
    have hbrA := (bA.block (w.heap.size + 1) (by omega)).trans hbr1
    have hPS : PS (w1.heap.size + 1) fps q.atoms ((w1.alloc (.cells #[.int .i64 q.atoms, .slice a1 q.rules.length k1, c2, .bool q.projOn, c4, c5, c6, c7] 30)).alloc (.cells #[.int .i64 q.atoms, .slice none 0 0, .slice none 0 0, .bool false, .slice none 0 0, .slice none 0 0, .slice none 0 0, .slice none 0 0] 30)) ((w1.alloc (.cells #[.int .i64 q.atoms, .slice a1 q.rules.length k1, c2, .bool q.projOn, c4, c5, c6, c7] 30)).alloc (.cells #[.int .i64 q.atoms, .slice none 0 0, .slice none 0 0, .bool false, .slice none 0 0, .slice none 0 0, .slice none 0 0, .slice none 0 0] 30)) 0 [] (.slice none 0 0) :=
      ⟨hB0, OwnD.start (World.ownsRow_nil _ _ _ _) (fun g hg => by simp [Value.ownBlock] at hg), Below.refl _ _, by rw [hzA]; omega⟩
    have HPS := Lib.hid hPS
    have CQA := Lib.hid CQ1
    clear hPS CQ0 CQ1 hB0 hbr0 hbr1 b0 b1 hb0 CP CP0 t0 t0' bQ o1
    obtain ⟨y0, y1, y2, y3, y4, y5, y6, y7⟩ := cells8 CQA.out
    have hlw1 : w1.heap.size < ((w1.alloc (.cells #[.int .i64 q.atoms, .slice a1 q.rules.length k1, c2, .bool q.projOn, c4, c5, c6, c7] 30)).alloc (.cells #[.int .i64 q.atoms, .slice none 0 0, .slice none 0 0, .bool false, .slice none 0 0, .slice none 0 0, .slice none 0 0, .slice none 0 0] 30)).heap.size := by rw [hzA]; omega
    go_wp2
    clear st1 st2 st4 st5 st6 st7 y0 y1 y2 y3 y4 y5 y6 y7 hlw1
    generalize (w1.alloc (.cells #[.int .i64 q.atoms, .slice a1 q.rules.length k1, c2, .bool q.projOn, c4, c5, c6, c7] 30)).alloc (.cells #[.int .i64 q.atoms, .slice none 0 0, .slice none 0 0, .bool false, .slice none 0 0, .slice none 0 0, .slice none 0 0, .slice none 0 0] 30) = wa at *
    go_loopw [10] (fun i wr => ∃ (k : Nat) (v : Value), k ≤ q.rules.length ∧ i = .int .i64 (k : Int) ∧ PS (w1.heap.size + 1) fps q.atoms wa wr k (leftTo (topS us xs) q.rules k) v) (fun i _ => q.rules.length - (intOf i).toNat)
    case atStart => exact ⟨0, _, Nat.zero_le _, rfl, HPS.out⟩
    case round =>
      obtain ⟨k, v, hk, rfl, hPk⟩ := hrel
      clear HPS
      have hsr := hPk.bel.size
      have hlr := hPk.lt
      have hct := leftTo_len (g := topS us xs) (rs := q.rules) k
      have tw : Below w.heap.size w wr := tA.trans (hPk.bel.mono (by omega))
      have hxI := (hx.later tw).ints
      have hyI := (hy.later tw).ints
      have CQr := CQA.out.kept (hPk.bel.block w1.heap.size (by omega))
      obtain ⟨y0, y1, y2, y3, y4, y5, y6, y7⟩ := cells8 CQr
      by_cases hlt : k < q.rules.length
      · skip
        obtain rfl := ha (by omega)
        obtain ⟨ecs, hC, hO⟩ := hel k hlt
        have hgl : g < w1.heap.size := by
          obtain ⟨e0, e1, e2, e3, e4, he5⟩ := list5 (Rd.len (Ow.rd hO))
          rw [he5] at hC
          exact hC.lt
        have hCr := hC.kept ((hPk.bel.block g (by omega)).trans (bA.block g hgl))
        have hOr := Ow.kept hO (w' := wr) fun f hf => (hPk.bel.block f (by have := hfl f (mem_flat hf); omega)).trans (bA.block f (hfl f (mem_flat hf)).2)
        have hRr := Ow.rd hOr
        have hRr0 := hRr
        obtain ⟨d1, d4, rfl, hf', r1, r4⟩ := hRr0
        have so1 := sto Tryz.prog r1.one1
        have so4 := sto Tryz.prog r4.one1
        have u0 := hCr.c0
        have u1 := hCr.c1
        have u2 := hCr.c2
        have u3 := hCr.c3
        have u4 := hCr.c4
        have hok12 := hr12.out _ (nth_mem hlt)
        obtain ⟨ab, kb, rfl, hkb, hbd⟩ := r4.sl
        have hki : (k : Int) < (q.rules.length : Int) := by omega
        obtain ⟨wo, rfl⟩ : ∃ wo : World, wo = wr := ⟨_, rfl⟩
        have bX := (Below.refl wo.heap.size wo).alloc (Nat.le_refl _) (.cells #[.bool (nth q.rules k).choice, d1, .bool (nth q.rules k).weight, .int .i64 (nth q.rules k).bound, .slice ab (nth q.rules k).body.length kb] 34)
        have hbR := alloc_block wo #[.bool (nth q.rules k).choice, d1, .bool (nth q.rules k).weight, .int .i64 (nth q.rules k).bound, .slice ab (nth q.rules k).body.length kb] 34
        have zX : wo.heap.size + 1 ≤ (wo.alloc (.cells #[.bool (nth q.rules k).choice, d1, .bool (nth q.rules k).weight, .int .i64 (nth q.rules k).bound, .slice ab (nth q.rules k).body.length kb] 34)).heap.size := Nat.le_of_eq (World.size_alloc _ _).symm
        obtain ⟨x0, x1, x2, x3, x4⟩ := cells5 (cellsAtB hbR)
        go_wp2_with fail
        refine (specAtomsOf_calls (Rd.mono bX hRr) (sm_ok12 hok12)).mono ?_
        rintro e w3 ⟨v3, rfl, ho3, b3⟩
        obtain ⟨p3, q3, hv3, _, _⟩ := ho3.open
        subst hv3
        go_wp2_with fail
        refine (specSetIn_calls _ _ _ _ _ _ _ ho3.ints ((hxI.later bX).later b3)).mono ?_
        rintro e w4 ⟨he, b4⟩
        have bb := b3.step b4
        have he : e = .returned (.bool (belB us (nth q.rules k))) := he
        have hR4 := (bb.block wo.heap.size (by omega)).trans hbR
        have b04 := bX.trans (bb.mono (by omega))
        have hP4 := hPk.mem b04
        have hz4 := b04.size
        have hz4' : wo.heap.size + 1 ≤ w4.heap.size := by have := bb.size; omega
        clear ho3 u0 u1 u2 u3 u4 x0 x1 x2 x3 x4 y0 y1 y2 y3 y4 y5 y6 y7 hbR
        cases hB : belB us (nth q.rules k)
        · rw [hB] at he
          subst he
          obtain ⟨hn20, hbb, hbw0⟩ := ruleOk_facts hok12
          have HBW := Lib.hid hbw0
          have CQ4 := CQr.later b04
          have HPK := Lib.hid hPk
          have hAS := fun j (hj : j ≤ (nth q.rules k).body.length) => askS_bd (us := us) (xs := xs) (b := (nth q.rules k).body) (k := j) (fun p hp => by have := (hbw0 p hp).2; omega) hn20 hj
          have HAS := Lib.hid hAS
          clear bb b3 b4 bX hRr hCr hok12 hbw0 hAS hP4 hPk
          cases hW : (nth q.rules k).weight
          · rw [hW] at hR4
            have HOR := Lib.hid hOr
            have hgo : Hid (askN us xs (nth q.rules k).body 0 = false) := by show _ = _; simp [askN, askTo]
            clear hOr
            go_wp2
            go_loopw [12, 13, 14] (fun bv gv i wr => ∃ j : Nat, j ≤ (nth q.rules k).body.length ∧ i = .int .i64 (j : Int) ∧ gv = .bool (askN us xs (nth q.rules k).body j) ∧ PRow w4.heap.size (fun f => w4.heap.size ≤ f) wr bv (opnTo us (nth q.rules k).body j) ∧ wr.heap[wo.heap.size]? = some (.cells #[.bool (nth q.rules k).choice, d1, .bool false, .int .i64 ((nth q.rules k).bound), .slice ab (nth q.rules k).body.length kb] 34 (0, 0)) ∧ Cg (fun x => x = wo.heap.size) w4 wr) (fun _ _ i _ => (nth q.rules k).body.length - (intOf i).toNat)
            case atStart => exact ⟨0, Nat.zero_le _, rfl, by rw [hgo.out], PRow.lit w4 _ (Nat.le_refl _), (Below.heap_alloc w4 _ _ (by omega)).trans hR4, (Cg.refl _ _).alloc _⟩
            case round =>
              obtain ⟨j, hj, rfl, rfl, hpr, hRj, hcg⟩ := hrel
              have hzr := hcg.size
              have hbw : Below wo.heap.size wo wr := ⟨hcg.os.trans b04.os, hcg.tape.trans b04.tape, hcg.output.trans b04.output, Nat.le_trans b04.size hcg.size, fun x hx => (hcg.block x (by omega) (by omega)).trans (b04.block x hx)⟩
              obtain ⟨x0, x1, x2, x3, x4⟩ := cells5 (cellsAtB hRj)
              have hfx := fun i => frozen_of_row _ wo.heap.size i _ _ hRj
              have hxr := hxI.later hbw
              have hyr := hyI.later hbw
              have hol := opn_len (us := us) (b := (nth q.rules k).body) (k := j)
              have hsj := HAS.out j hj
              by_cases hlj : j < (nth q.rules k).body.length
              · skip
                obtain ⟨b2, off2, rfl, hc2⟩ := hbd.base (by omega)
                obtain ⟨ecs2, hC2, rfl, hf1, hf2⟩ := hc2 j hlj
                have hb2lt := hC2.lt
                have hC2 := hC2.later hbw
                have v0 := hC2.c0
                have v1 := hC2.c1
                rw [show Rd.k (Int × Int) = 2 from rfl] at v0 v1
                have hlk := lit12 (HBW.out _ (nth_mem hlj)).1
                have hwk1 := (HBW.out _ (nth_mem hlj)).2.1
                have hwk2 := (HBW.out _ (nth_mem hlj)).2.2.1
                have HOY := Lib.hid (fun (h : inU us (nth (nth q.rules k).body j) = false) => opn_yes hlj h)
                have HON := Lib.hid (fun (h : inU us (nth (nth q.rules k).body j) = true) => opn_no hlj h)
                have HS0 := Lib.hid (fun (h : inU us (nth (nth q.rules k).body j) = false) => askS_out (xs := xs) hlj h)
                have HSY := Lib.hid (fun (h : inU us (nth (nth q.rules k).body j) = true) (h' : holdsB xs (nth (nth q.rules k).body j).1 = true) => askS_yes hlj h h')
                have HSN := Lib.hid (fun (h : inU us (nth (nth q.rules k).body j) = true) (h' : holdsB xs (nth (nth q.rules k).body j).1 = false) => askS_no hlj h h')
                have HN0 := Lib.hid (fun (h : inU us (nth (nth q.rules k).body j) = false) => askN_out (xs := xs) hlj h)
                have HN1 := Lib.hid (fun (h : inU us (nth (nth q.rules k).body j) = true) => askN_in (xs := xs) hlj h)
                have hiu : Hid (inU us (nth (nth q.rules k).body j) = (hasB us (nth (nth q.rules k).body j).1 || hasB us (-(nth (nth q.rules k).body j).1))) := rfl
                generalize nth (nth q.rules k).body j = q2 at *
                obtain ⟨l, wv⟩ := q2
                dsimp only at hf1 hf2 v0 v1 hlk hwk1 hwk2
                have hlb1 : -12 ≤ l := by omega
                have hlb2 : l ≤ 12 := by omega
                have hji : (j : Int) < ((nth q.rules k).body.length : Int) := by omega
                clear hC2 hc2 hlk
                cases hA : hasB us l
                · cases hB2 : hasB us (-l)
                  · skip
                    have hin : inU us (l, wv) = false := by rw [hiu.out]; show (hasB us l || hasB us (-l)) = false; rw [hA, hB2]; rfl
                    have HHA := Lib.hid hA
                    have HHB := Lib.hid hB2
                    have hO1 := Lib.hid (HOY.out hin)
                    have hS1 := Lib.hid (HS0.out hin)
                    have hN1 := Lib.hid (HN0.out hin)
                    have hbL := (Below.refl wr.heap.size wr).alloc (Nat.le_refl _) (.cells #[.int .i64 l, .int .i64 wv] 94)
                    have hcn := Cells.new wr [.int .i64 l, .int .i64 wv] 94
                    obtain ⟨v5, w5, r5, o5, b5, k5⟩ := PRow.append (P := Tryz.prog) (t := 32) (ty := 32) (c := 1) (p := (l, wv)) i0 _ Tryz.underlying32 hi hzz0 hzz1 hzz2 rfl (hpr.later hbL) hcn ⟨hf1, hf2⟩ (by omega) (by rw [World.size_alloc]; omega)
                    have O5 := Lib.hid (o5.weak (Nat.le_refl _) (D' := fun f => w4.heap.size ≤ f) fun f hf => by
                      rcases hf with hf | hf
                      · exact hf
                      · rw [World.size_alloc] at hf; omega)
                    have R5 := Lib.hid ((k5 wo.heap.size (by rw [World.size_alloc]; omega) (by omega)).trans ((Below.heap_alloc wr (.cells #[.int .i64 l, .int .i64 wv] 94) wo.heap.size (by omega)).trans hRj))
                    have C5 : Hid (Cg (fun x => x = wo.heap.size) w4 w5) := ⟨b5.os.trans hcg.os, b5.tape.trans hcg.tape, b5.output.trans hcg.output, Nat.le_trans hcg.size (Nat.le_trans (by rw [World.size_alloc]; omega) b5.size), fun x hx hn => (b5.block x hx).trans ((Below.heap_alloc wr _ x (by omega)).trans (hcg.block x hx hn))⟩
                    clear hin hA hB2 hbL hcn o5 b5 k5 hpr hRj hcg hbw
                    go_wp2_with fail
                    refine (SetHas_calls _ _ _ _ _ hxr).mono ?_
                    rintro e w' ⟨he, rfl⟩
                    rw [HHA.out] at he
                    subst he
                    go_wp2_with fail
                    refine (SetHas_calls _ _ _ _ _ hxr).mono ?_
                    rintro e w' ⟨he, rfl⟩
                    rw [HHB.out] at he
                    subst he
                    go_wp2_with (at_builtin; refine wpList_append_of rfl _ _ rfl rfl rfl r5 ?_)
                    go_roundw
                    case rel => exact ⟨j + 1, by omega, by go_num, by rw [hN1.out], by rw [hO1.out]; exact O5.out, R5.out, C5.out⟩
                    case measure => simp [intOf]; omega
                  · have HHA := Lib.hid hA
                    have HHB := Lib.hid hB2
                    have hin : inU us (l, wv) = true := by rw [hiu.out]; show (hasB us l || hasB us (-l)) = true; rw [hA, hB2]; rfl
                    have hO1 := Lib.hid (HON.out hin)
                    have hSY := Lib.hid (HSY.out hin)
                    have hSN := Lib.hid (HSN.out hin)
                    have hN1 := Lib.hid (HN1.out hin)
                    clear hin
                    clear hA hB2
                    cases hH : holdsB xs l
                    · have HH := Lib.hid hH
                      have hN2 : Hid (askN us xs (nth q.rules k).body (j + 1) = true) := by show _ = _; rw [hN1.out]; show (_ || !holdsB xs l) = true; rw [hH]; simp
                      clear hH
                      go_wp2_with fail
                      refine (SetHas_calls _ _ _ _ _ hxr).mono ?_
                      rintro e w' ⟨he, rfl⟩
                      rw [HHA.out] at he
                      subst he
                      go_wp2_with fail
                      refine (SetHas_calls _ _ _ _ _ hxr).mono ?_
                      rintro e w' ⟨he, rfl⟩
                      rw [HHB.out] at he
                      subst he
                      go_wp2_with fail
                      refine (specHolds_calls _ _ _ _ _ hyr hf1).mono ?_
                      rintro e w' ⟨he, rfl⟩
                      rw [HH.out] at he
                      subst he
                      go_wp2
                      go_roundw
                      case rel => exact ⟨j + 1, by omega, by go_num, by rw [hN2.out], by rw [hO1.out]; exact hpr, hRj, hcg⟩
                      case measure => simp [intOf]; omega
                    · have HH := Lib.hid hH
                      have hN2 : Hid (askN us xs (nth q.rules k).body (j + 1) = askN us xs (nth q.rules k).body j) := by show _ = _; rw [hN1.out]; show (_ || !holdsB xs l) = _; rw [hH]; simp
                      clear hH
                      go_wp2_with fail
                      refine (SetHas_calls _ _ _ _ _ hxr).mono ?_
                      rintro e w' ⟨he, rfl⟩
                      rw [HHA.out] at he
                      subst he
                      go_wp2_with fail
                      refine (SetHas_calls _ _ _ _ _ hxr).mono ?_
                      rintro e w' ⟨he, rfl⟩
                      rw [HHB.out] at he
                      subst he
                      go_wp2_with fail
                      refine (specHolds_calls _ _ _ _ _ hyr hf1).mono ?_
                      rintro e w' ⟨he, rfl⟩
                      rw [HH.out] at he
                      subst he
                      go_wp2
                      go_roundw
                      case rel => exact ⟨j + 1, by omega, by go_num, by rw [hN2.out], by rw [hO1.out]; exact hpr, hRj, hcg⟩
                      case measure => simp [intOf]; omega
                · have HHA := Lib.hid hA
                  have hin : inU us (l, wv) = true := by rw [hiu.out]; show (hasB us l || hasB us (-l)) = true; rw [hA]; rfl
                  have hO1 := Lib.hid (HON.out hin)
                  have hSY := Lib.hid (HSY.out hin)
                  have hSN := Lib.hid (HSN.out hin)
                  have hN1 := Lib.hid (HN1.out hin)
                  clear hin
                  clear hA
                  cases hH : holdsB xs l
                  · have HH := Lib.hid hH
                    have hN2 : Hid (askN us xs (nth q.rules k).body (j + 1) = true) := by show _ = _; rw [hN1.out]; show (_ || !holdsB xs l) = true; rw [hH]; simp
                    clear hH
                    go_wp2_with fail
                    refine (SetHas_calls _ _ _ _ _ hxr).mono ?_
                    rintro e w' ⟨he, rfl⟩
                    rw [HHA.out] at he
                    subst he
                    go_wp2_with fail
                    refine (specHolds_calls _ _ _ _ _ hyr hf1).mono ?_
                    rintro e w' ⟨he, rfl⟩
                    rw [HH.out] at he
                    subst he
                    go_wp2
                    go_roundw
                    case rel => exact ⟨j + 1, by omega, by go_num, by rw [hN2.out], by rw [hO1.out]; exact hpr, hRj, hcg⟩
                    case measure => simp [intOf]; omega
                  · have HH := Lib.hid hH
                    have hN2 : Hid (askN us xs (nth q.rules k).body (j + 1) = askN us xs (nth q.rules k).body j) := by show _ = _; rw [hN1.out]; show (_ || !holdsB xs l) = _; rw [hH]; simp
                    clear hH
                    go_wp2_with fail
                    refine (SetHas_calls _ _ _ _ _ hxr).mono ?_
                    rintro e w' ⟨he, rfl⟩
                    rw [HHA.out] at he
                    subst he
                    go_wp2_with fail
                    refine (specHolds_calls _ _ _ _ _ hyr hf1).mono ?_
                    rintro e w' ⟨he, rfl⟩
                    rw [HH.out] at he
                    subst he
                    go_wp2
                    go_roundw
                    case rel => exact ⟨j + 1, by omega, by go_num, by rw [hN2.out], by rw [hO1.out]; exact hpr, hRj, hcg⟩
                    case measure => simp [intOf]; omega
              · skip
                have hjl : j = (nth q.rules k).body.length := by omega
                subst hjl
                obtain ⟨av, nv, rfl, _⟩ := hpr.rd.sl
                cases hN : askN us xs (nth q.rules k).body (nth q.rules k).body.length
                · skip
                  have kS : Cg (fun x => x = wo.heap.size) wr (wr.setCell ⟨wo.heap.size, 4, none⟩ (.slice av (opnTo us (nth q.rules k).body (nth q.rules k).body.length).length nv)) := Cg.set (Cg.refl _ _) 4 _ rfl
                  have hWR := heap_setCell_same wr wo.heap.size 4 _ _ (.slice av (opnTo us (nth q.rules k).body (nth q.rules k).body.length).length nv) hRj
                  have hpW := hpr.keep (w' := wr.setCell ⟨wo.heap.size, 4, none⟩ (.slice av (opnTo us (nth q.rules k).body (nth q.rules k).body.length).length nv)) fun g hg _ hl => kS.block g hl (by omega)
                  have hbW := Below.setCell hbw (p := ⟨wo.heap.size, 4, none⟩) (Nat.le_refl _) (.slice av (opnTo us (nth q.rules k).body (nth q.rules k).body.length).length nv)
                  go_upto_region 29 with fail
                  clear hRj hcg hpr kS
                  generalize wr.setCell ⟨wo.heap.size, 4, none⟩ (.slice av (opnTo us (nth q.rules k).body (nth q.rules k).body.length).length nv) = W at *
                  have hWR : W.heap[wo.heap.size]? = some (.cells #[.bool (nth q.rules k).choice, d1, .bool false, .int .i64 (nth q.rules k).bound, .slice av (opnTo us (nth q.rules k).body (nth q.rules k).body.length).length nv] 34 (0, 0)) := hWR
                  obtain ⟨fq, q1, q2⟩ := own_bodyS (wt := false) (bd := (nth q.rules k).bound) HOR.out hbW hpW.1.own (by omega) (by unfold Fits; omega)
                  have hre : ({ (nth q.rules k) with weight := false, bound := (nth q.rules k).bound, body := opnTo us (nth q.rules k).body (nth q.rules k).body.length } : RuleD) = { (nth q.rules k) with body := opnTo us (nth q.rules k).body (nth q.rules k).body.length } := by rw [← hW]
                  rw [hre] at q1
                  have hE := Lib.hid (leftTo_yes (rs := q.rules) (topS_Y (xs := xs) hB hW hN))
                  clear hre hpW hN hB hW
                  clear x0 x1 x2 x3 x4 hfx
                  obtain ⟨x0, x1, x2, x3, x4⟩ := cells5 (cellsAtB hWR)
                  have bY := (Below.refl W.heap.size W).alloc (Nat.le_refl _) (.cells #[.bool (nth q.rules k).choice, d1, .bool false, .int .i64 ((nth q.rules k).bound), (.slice av (opnTo us (nth q.rules k).body (nth q.rules k).body.length).length nv)] 34)
                  have hPW := HPK.out.mem hbW
                  obtain ⟨a9, q9, w9, r9, x9, P9, b9⟩ := PS.push (c := 1) (ty := 24) i3 _ hi3 hz30 hz31 hz32 rfl HPK.out (hbW.alloc hbW.size (.cells #[.bool (nth q.rules k).choice, d1, .bool false, .int .i64 ((nth q.rules k).bound), (.slice av (opnTo us (nth q.rules k).body (nth q.rules k).body.length).length nv)] 34)) hnd (fun f hf => by have := hfl f hf; omega) (Cells.new W [.bool (nth q.rules k).choice, d1, .bool false, .int .i64 ((nth q.rules k).bound), (.slice av (opnTo us (nth q.rules k).body (nth q.rules k).body.length).length nv)] 34) (Ow.kept q1 fun f hf => bY.block f (Ow.lt q1 f hf)) (fun f hf => (q2 f hf).imp id fun h => by omega) (by omega)
                  have hf9 := frozen_of_row w9 (w1.heap.size + 1) 1 _ _ x9
                  have hc9 : w9.cell? ⟨w1.heap.size + 1, 1, none⟩ = some v := by rw [cell_of_row w9 (w1.heap.size + 1) 1 _ _ _ x9]; rfl
                  have hX1 : W.cell? ⟨w1.heap.size + 1, 1, none⟩ = some v := by rw [cell_of_row W (w1.heap.size + 1) 1 _ _ _ hPW.box]; rfl
                  obtain ⟨avv, nvv, hv0⟩ := hPW.row.form
                  obtain ⟨nT, hnT⟩ : ∃ nT : Nat, nT = (leftTo (topS us xs) q.rules k).length := ⟨_, rfl⟩
                  rw [← hnT] at r9 P9 hv0
                  subst hv0
                  have PP := Lib.hid P9
                  clear hWR bY hPW P9 x9 b9 hnT q1 q2 hbW hct
                  go_wp2_with (at_builtin; refine wpList_append_of rfl _ _ rfl rfl rfl r9 ?_)
                  go_roundw
                  case rel => exact ⟨k + 1, _, by omega, by go_num, by rw [hE.out]; exact PP.out⟩
                  case measure => simp [intOf]; omega
                · have hE := Lib.hid (leftTo_no (rs := q.rules) (topS_N (xs := xs) hB hW hN))
                  have H4 := Lib.hid (HPK.out.mem hbw).up
                  clear hN hB hpr hRj hcg hW
                  go_wp2
                  go_roundw
                  case rel => exact ⟨k + 1, v, by omega, by go_num, by rw [hE.out]; exact H4.out⟩
                  case measure => simp [intOf]; omega
          · rw [hW] at hR4
            have HOR := Lib.hid hOr
            have hgo : Hid ((nth q.rules k).bound - askS us xs (nth q.rules k).body 0 = (nth q.rules k).bound) := by show _ = _; simp [askS, askTo, sumH]
            clear hOr
            go_wp2
            go_loopw [12, 13, 14] (fun bv gv i wr => ∃ j : Nat, j ≤ (nth q.rules k).body.length ∧ i = .int .i64 (j : Int) ∧ gv = .bool false ∧ PRow w4.heap.size (fun f => w4.heap.size ≤ f) wr bv (opnTo us (nth q.rules k).body j) ∧ wr.heap[wo.heap.size]? = some (.cells #[.bool (nth q.rules k).choice, d1, .bool true, .int .i64 ((nth q.rules k).bound - askS us xs (nth q.rules k).body j), .slice ab (nth q.rules k).body.length kb] 34 (0, 0)) ∧ Cg (fun x => x = wo.heap.size) w4 wr) (fun _ _ i _ => (nth q.rules k).body.length - (intOf i).toNat)
            case atStart => exact ⟨0, Nat.zero_le _, rfl, rfl, PRow.lit w4 _ (Nat.le_refl _), by rw [hgo.out]; exact (Below.heap_alloc w4 _ _ (by omega)).trans hR4, (Cg.refl _ _).alloc _⟩
            case round =>
              obtain ⟨j, hj, rfl, rfl, hpr, hRj, hcg⟩ := hrel
              have hzr := hcg.size
              have hbw : Below wo.heap.size wo wr := ⟨hcg.os.trans b04.os, hcg.tape.trans b04.tape, hcg.output.trans b04.output, Nat.le_trans b04.size hcg.size, fun x hx => (hcg.block x (by omega) (by omega)).trans (b04.block x hx)⟩
              obtain ⟨x0, x1, x2, x3, x4⟩ := cells5 (cellsAtB hRj)
              have hfx := fun i => frozen_of_row _ wo.heap.size i _ _ hRj
              have hxr := hxI.later hbw
              have hyr := hyI.later hbw
              have hol := opn_len (us := us) (b := (nth q.rules k).body) (k := j)
              have hsj := HAS.out j hj
              by_cases hlj : j < (nth q.rules k).body.length
              · skip
                obtain ⟨b2, off2, rfl, hc2⟩ := hbd.base (by omega)
                obtain ⟨ecs2, hC2, rfl, hf1, hf2⟩ := hc2 j hlj
                have hb2lt := hC2.lt
                have hC2 := hC2.later hbw
                have v0 := hC2.c0
                have v1 := hC2.c1
                rw [show Rd.k (Int × Int) = 2 from rfl] at v0 v1
                have hlk := lit12 (HBW.out _ (nth_mem hlj)).1
                have hwk1 := (HBW.out _ (nth_mem hlj)).2.1
                have hwk2 := (HBW.out _ (nth_mem hlj)).2.2.1
                have HOY := Lib.hid (fun (h : inU us (nth (nth q.rules k).body j) = false) => opn_yes hlj h)
                have HON := Lib.hid (fun (h : inU us (nth (nth q.rules k).body j) = true) => opn_no hlj h)
                have HS0 := Lib.hid (fun (h : inU us (nth (nth q.rules k).body j) = false) => askS_out (xs := xs) hlj h)
                have HSY := Lib.hid (fun (h : inU us (nth (nth q.rules k).body j) = true) (h' : holdsB xs (nth (nth q.rules k).body j).1 = true) => askS_yes hlj h h')
                have HSN := Lib.hid (fun (h : inU us (nth (nth q.rules k).body j) = true) (h' : holdsB xs (nth (nth q.rules k).body j).1 = false) => askS_no hlj h h')
                have HN0 := Lib.hid (fun (h : inU us (nth (nth q.rules k).body j) = false) => askN_out (xs := xs) hlj h)
                have HN1 := Lib.hid (fun (h : inU us (nth (nth q.rules k).body j) = true) => askN_in (xs := xs) hlj h)
                have hiu : Hid (inU us (nth (nth q.rules k).body j) = (hasB us (nth (nth q.rules k).body j).1 || hasB us (-(nth (nth q.rules k).body j).1))) := rfl
                generalize nth (nth q.rules k).body j = q2 at *
                obtain ⟨l, wv⟩ := q2
                dsimp only at hf1 hf2 v0 v1 hlk hwk1 hwk2
                have hlb1 : -12 ≤ l := by omega
                have hlb2 : l ≤ 12 := by omega
                have hji : (j : Int) < ((nth q.rules k).body.length : Int) := by omega
                clear hC2 hc2 hlk
                cases hA : hasB us l
                · cases hB2 : hasB us (-l)
                  · skip
                    have hin : inU us (l, wv) = false := by rw [hiu.out]; show (hasB us l || hasB us (-l)) = false; rw [hA, hB2]; rfl
                    have HHA := Lib.hid hA
                    have HHB := Lib.hid hB2
                    have hO1 := Lib.hid (HOY.out hin)
                    have hS1 := Lib.hid (HS0.out hin)
                    have hN1 := Lib.hid (HN0.out hin)
                    have hbL := (Below.refl wr.heap.size wr).alloc (Nat.le_refl _) (.cells #[.int .i64 l, .int .i64 wv] 94)
                    have hcn := Cells.new wr [.int .i64 l, .int .i64 wv] 94
                    obtain ⟨v5, w5, r5, o5, b5, k5⟩ := PRow.append (P := Tryz.prog) (t := 32) (ty := 32) (c := 1) (p := (l, wv)) i0 _ Tryz.underlying32 hi hzz0 hzz1 hzz2 rfl (hpr.later hbL) hcn ⟨hf1, hf2⟩ (by omega) (by rw [World.size_alloc]; omega)
                    have O5 := Lib.hid (o5.weak (Nat.le_refl _) (D' := fun f => w4.heap.size ≤ f) fun f hf => by
                      rcases hf with hf | hf
                      · exact hf
                      · rw [World.size_alloc] at hf; omega)
                    have R5 := Lib.hid ((k5 wo.heap.size (by rw [World.size_alloc]; omega) (by omega)).trans ((Below.heap_alloc wr (.cells #[.int .i64 l, .int .i64 wv] 94) wo.heap.size (by omega)).trans hRj))
                    have C5 : Hid (Cg (fun x => x = wo.heap.size) w4 w5) := ⟨b5.os.trans hcg.os, b5.tape.trans hcg.tape, b5.output.trans hcg.output, Nat.le_trans hcg.size (Nat.le_trans (by rw [World.size_alloc]; omega) b5.size), fun x hx hn => (b5.block x hx).trans ((Below.heap_alloc wr _ x (by omega)).trans (hcg.block x hx hn))⟩
                    clear hin hA hB2 hbL hcn o5 b5 k5 hpr hRj hcg hbw
                    go_wp2_with fail
                    refine (SetHas_calls _ _ _ _ _ hxr).mono ?_
                    rintro e w' ⟨he, rfl⟩
                    rw [HHA.out] at he
                    subst he
                    go_wp2_with fail
                    refine (SetHas_calls _ _ _ _ _ hxr).mono ?_
                    rintro e w' ⟨he, rfl⟩
                    rw [HHB.out] at he
                    subst he
                    go_wp2_with (at_builtin; refine wpList_append_of rfl _ _ rfl rfl rfl r5 ?_)
                    go_roundw
                    case rel => exact ⟨j + 1, by omega, by go_num, rfl, by rw [hO1.out]; exact O5.out, by rw [hS1.out]; exact R5.out, C5.out⟩
                    case measure => simp [intOf]; omega
                  · have HHA := Lib.hid hA
                    have HHB := Lib.hid hB2
                    have hin : inU us (l, wv) = true := by rw [hiu.out]; show (hasB us l || hasB us (-l)) = true; rw [hA, hB2]; rfl
                    have hO1 := Lib.hid (HON.out hin)
                    have hSY := Lib.hid (HSY.out hin)
                    have hSN := Lib.hid (HSN.out hin)
                    have hN1 := Lib.hid (HN1.out hin)
                    clear hin
                    clear hA hB2
                    cases hH : holdsB xs l
                    · have HH := Lib.hid hH
                      have hS2 := Lib.hid (hSN.out hH)
                      clear hH
                      go_wp2_with fail
                      refine (SetHas_calls _ _ _ _ _ hxr).mono ?_
                      rintro e w' ⟨he, rfl⟩
                      rw [HHA.out] at he
                      subst he
                      go_wp2_with fail
                      refine (SetHas_calls _ _ _ _ _ hxr).mono ?_
                      rintro e w' ⟨he, rfl⟩
                      rw [HHB.out] at he
                      subst he
                      go_wp2_with fail
                      refine (specHolds_calls _ _ _ _ _ hyr hf1).mono ?_
                      rintro e w' ⟨he, rfl⟩
                      rw [HH.out] at he
                      subst he
                      go_wp2
                      go_roundw
                      case rel => exact ⟨j + 1, by omega, by go_num, rfl, by rw [hO1.out]; exact hpr, by rw [hS2.out]; exact hRj, hcg⟩
                      case measure => simp [intOf]; omega
                    · have HH := Lib.hid hH
                      have hS2 := Lib.hid (hSY.out hH)
                      clear hH
                      go_wp2_with fail
                      refine (SetHas_calls _ _ _ _ _ hxr).mono ?_
                      rintro e w' ⟨he, rfl⟩
                      rw [HHA.out] at he
                      subst he
                      go_wp2_with fail
                      refine (SetHas_calls _ _ _ _ _ hxr).mono ?_
                      rintro e w' ⟨he, rfl⟩
                      rw [HHB.out] at he
                      subst he
                      go_wp2_with fail
                      refine (specHolds_calls _ _ _ _ _ hyr hf1).mono ?_
                      rintro e w' ⟨he, rfl⟩
                      rw [HH.out] at he
                      subst he
                      obtain ⟨bdj, hbdj⟩ : ∃ bdj, bdj = (nth q.rules k).bound - askS us xs (nth q.rules k).body j := ⟨_, rfl⟩
                      rw [← hbdj] at hRj x3
                      have hwr : IntKind.i64.wrap (bdj - wv) = bdj - wv := IntWalk.i64_in _ (by omega)
                      have hRn : Hid ((nth q.rules k).bound - askS us xs (nth q.rules k).body (j + 1) = bdj - wv) := by show _ = _; rw [hS2.out, hbdj]; show _ - (_ + wv) = _; omega
                      go_upto_region 20 with fail
                      have hRd : wr.drew.heap[wo.heap.size]? = _ := hRj
                      have hR20 := heap_setCell_same wr.drew wo.heap.size 3 _ _ (.int .i64 (bdj - wv)) hRd
                      have kS : Cg (fun x => x = wo.heap.size) wr (wr.drew.setCell ⟨wo.heap.size, 3, none⟩ (.int .i64 (bdj - wv))) := Cg.set ((Cg.refl _ _).drew) 3 _ rfl
                      have hp20 := hpr.keep (w' := wr.drew.setCell ⟨wo.heap.size, 3, none⟩ (.int .i64 (bdj - wv))) fun g hg _ hl => kS.block g hl (by omega)
                      have c20 := hcg.trans kS
                      have e4 : (wr.drew.setCell ⟨wo.heap.size, 3, none⟩ (.int .i64 (bdj - wv))).cell? ⟨wo.heap.size, 4, none⟩ = some (.slice (some ⟨b2, off2, none⟩) (nth q.rules k).body.length kb) := by rw [cell_of_row _ wo.heap.size 4 _ _ _ hR20]; rfl
                      have e1 : (wr.drew.setCell ⟨wo.heap.size, 3, none⟩ (.int .i64 (bdj - wv))).cell? ⟨b2, off2 + j * 2 + 1, none⟩ = some (.int .i64 wv) := by rw [← v1]; exact World.cell?_of_block (a := ⟨b2, off2 + j * 2 + 1, none⟩) (kS.block b2 (by omega) (by omega))
                      have x4q : wr.drew.cell? ⟨wo.heap.size, 4, none⟩ = some (.slice (some ⟨b2, off2, none⟩) (nth q.rules k).body.length kb) := x4
                      have v1q : wr.drew.cell? ⟨b2, off2 + j * 2 + 1, none⟩ = some (.int .i64 wv) := v1
                      have x3d : wr.drew.cell? ⟨wo.heap.size, 3, none⟩ = some (.int .i64 bdj) := x3
                      have fxd : wr.drew.frozen? ⟨wo.heap.size, 3, none⟩ = false := frozen_of_row wr.drew wo.heap.size 3 _ _ hRd
                      have P20 := Lib.hid hp20
                      have R20 := Lib.hid hR20
                      have C20 := Lib.hid c20
                      clear hp20 hR20 c20 kS hpr hRj hcg hbdj
                      refine wp_region_held_drew (S := fun W' => W'.cell? ⟨wo.heap.size, 4, none⟩ = some (.slice (some ⟨b2, off2, none⟩) (nth q.rules k).body.length kb) ∧ W'.cell? ⟨b2, off2 + j * 2 + 1, none⟩ = some (.int .i64 wv)) (by kernel_rfl) ⟨x4, v1⟩ (fun hHeld => ?_)
                      generalize wr.drew = wq at *
                      refine takeD (i := 0) (v := .pointer (some ⟨wo.heap.size, 3, none⟩)) (some 88) rfl rfl (by kernel_rfl) (by kernel_rfl) (by kernel_rfl) (fun _ _ _ h => h) (Or.inl ⟨by rfl, fun w' hw' => ?_⟩) hHeld ?_
                      · first | (go_simp; done) | (obtain ⟨s0, s1⟩ := hw'; go_simp; done)
                      try simp only [Act.put, List.setIfInBounds_toArray, List.set_cons_zero, List.set_cons_succ]
                      refine takeD (i := 2) (v := .pointer (some ⟨wo.heap.size, 4, none⟩)) (some 90) rfl rfl (by kernel_rfl) (by kernel_rfl) (by kernel_rfl) (fun _ _ _ h => h) (Or.inl ⟨by rfl, fun w' hw' => ?_⟩) hHeld ?_
                      · first | (go_simp; done) | (obtain ⟨s0, s1⟩ := hw'; go_simp; done)
                      try simp only [Act.put, List.setIfInBounds_toArray, List.set_cons_zero, List.set_cons_succ]
                      refine takeD (i := 3) (v := .slice (some ⟨b2, off2, none⟩) (nth q.rules k).body.length kb) (some 91) rfl rfl (by kernel_rfl) (by kernel_rfl) (by kernel_rfl) (fun _ _ _ h => h) (Or.inl ⟨by rfl, fun w' hw' => ?_⟩) hHeld ?_
                      · first | (go_simp; done) | (obtain ⟨s0, s1⟩ := hw'; go_simp; done)
                      try simp only [Act.put, List.setIfInBounds_toArray, List.set_cons_zero, List.set_cons_succ]
                      refine takeD (i := 4) (v := .int .i64 (j : Int)) (some 92) rfl rfl (by kernel_rfl) (by kernel_rfl) (by kernel_rfl) (fun _ _ _ h => h) (Or.inl ⟨by rfl, fun w' hw' => ?_⟩) hHeld ?_
                      · first | (go_simp; done) | (obtain ⟨s0, s1⟩ := hw'; go_simp; done)
                      try simp only [Act.put, List.setIfInBounds_toArray, List.set_cons_zero, List.set_cons_succ]
                      refine takeD (i := 5) (v := .pointer (some ⟨b2, off2 + j * 2, none⟩)) (some 93) rfl rfl (by kernel_rfl) (by kernel_rfl) (by kernel_rfl) (fun _ _ _ h => h) (Or.inl ⟨by rfl, fun w' hw' => ?_⟩) hHeld ?_
                      · first | (go_simp; done) | (obtain ⟨s0, s1⟩ := hw'; go_simp; done)
                      try simp only [Act.put, List.setIfInBounds_toArray, List.set_cons_zero, List.set_cons_succ]
                      refine takeD (i := 6) (v := .pointer (some ⟨b2, off2 + j * 2 + 1, none⟩)) (some 94) rfl rfl (by kernel_rfl) (by kernel_rfl) (by kernel_rfl) (fun _ _ _ h => h) (Or.inl ⟨by rfl, fun w' hw' => ?_⟩) hHeld ?_
                      · first | (go_simp; done) | (obtain ⟨s0, s1⟩ := hw'; go_simp; done)
                      try simp only [Act.put, List.setIfInBounds_toArray, List.set_cons_zero, List.set_cons_succ]
                      refine takeD (i := 7) (v := .int .i64 wv) (some 95) rfl rfl (by kernel_rfl) (by kernel_rfl) (by kernel_rfl) (fun _ _ _ h => h) (Or.inl ⟨by rfl, fun w' hw' => ?_⟩) hHeld ?_
                      · first | (go_simp; done) | (obtain ⟨s0, s1⟩ := hw'; go_simp; done)
                      try simp only [Act.put, List.setIfInBounds_toArray, List.set_cons_zero, List.set_cons_succ]
                      refine wpAnyH_ready (rs := [1]) (by kernel_rfl) (by simp) ?_
                      refine AllReadyH.cons rfl (fun K hK => ?_) AllReadyH.nil
                      go_simp
                      refine hK.out _ _ ⟨x4q, v1q⟩ (fun hHeld => ?_)
                      clear hK K
                      try simp only [Act.put, List.setIfInBounds_toArray, List.set_cons_zero, List.set_cons_succ]
                      refine takeD (i := 8) (v := .int .i64 (bdj - wv)) (some 96) rfl rfl (by kernel_rfl) (by kernel_rfl) (by kernel_rfl) (fun _ _ _ h => h) (Or.inl ⟨by rfl, fun w' hw' => ?_⟩) hHeld ?_
                      · first | (go_simp; done) | (obtain ⟨s0, s1⟩ := hw'; go_simp; done)
                      try simp only [Act.put, List.setIfInBounds_toArray, List.set_cons_zero, List.set_cons_succ]
                      refine takeD (i := 9) (v := .pointer (some ⟨wo.heap.size, 3, none⟩)) (some 97) rfl rfl (by kernel_rfl) (by kernel_rfl) (by kernel_rfl) (fun _ _ _ h => h) (Or.inl ⟨by rfl, fun w' hw' => ?_⟩) hHeld ?_
                      · first | (go_simp; done) | (obtain ⟨s0, s1⟩ := hw'; go_simp; done)
                      try simp only [Act.put, List.setIfInBounds_toArray, List.set_cons_zero, List.set_cons_succ]
                      refine wpAnyH_ready (rs := [10]) (by kernel_rfl) (by simp) ?_
                      refine AllReadyH.cons rfl (fun K hK => ?_) AllReadyH.nil
                      go_simp
                      refine hK.out _ _ ⟨e4, e1⟩ (fun hHeld => ?_)
                      clear hK K
                      try simp only [Act.put, List.setIfInBounds_toArray, List.set_cons_zero, List.set_cons_succ]
                      refine wpAnyH_done (by kernel_rfl) ?_ _
                      go_wp2
                      go_roundw
                      case rel => exact ⟨j + 1, by omega, by go_num, rfl, by rw [hO1.out]; exact P20.out, by rw [hRn.out]; exact R20.out, C20.out⟩
                      case measure => simp [intOf]; omega
                · have HHA := Lib.hid hA
                  have hin : inU us (l, wv) = true := by rw [hiu.out]; show (hasB us l || hasB us (-l)) = true; rw [hA]; rfl
                  have hO1 := Lib.hid (HON.out hin)
                  have hSY := Lib.hid (HSY.out hin)
                  have hSN := Lib.hid (HSN.out hin)
                  have hN1 := Lib.hid (HN1.out hin)
                  clear hin
                  clear hA
                  cases hH : holdsB xs l
                  · have HH := Lib.hid hH
                    have hS2 := Lib.hid (hSN.out hH)
                    clear hH
                    go_wp2_with fail
                    refine (SetHas_calls _ _ _ _ _ hxr).mono ?_
                    rintro e w' ⟨he, rfl⟩
                    rw [HHA.out] at he
                    subst he
                    go_wp2_with fail
                    refine (specHolds_calls _ _ _ _ _ hyr hf1).mono ?_
                    rintro e w' ⟨he, rfl⟩
                    rw [HH.out] at he
                    subst he
                    go_wp2
                    go_roundw
                    case rel => exact ⟨j + 1, by omega, by go_num, rfl, by rw [hO1.out]; exact hpr, by rw [hS2.out]; exact hRj, hcg⟩
                    case measure => simp [intOf]; omega
                  · have HH := Lib.hid hH
                    have hS2 := Lib.hid (hSY.out hH)
                    clear hH
                    go_wp2_with fail
                    refine (SetHas_calls _ _ _ _ _ hxr).mono ?_
                    rintro e w' ⟨he, rfl⟩
                    rw [HHA.out] at he
                    subst he
                    go_wp2_with fail
                    refine (specHolds_calls _ _ _ _ _ hyr hf1).mono ?_
                    rintro e w' ⟨he, rfl⟩
                    rw [HH.out] at he
                    subst he
                    obtain ⟨bdj, hbdj⟩ : ∃ bdj, bdj = (nth q.rules k).bound - askS us xs (nth q.rules k).body j := ⟨_, rfl⟩
                    rw [← hbdj] at hRj x3
                    have hwr : IntKind.i64.wrap (bdj - wv) = bdj - wv := IntWalk.i64_in _ (by omega)
                    have hRn : Hid ((nth q.rules k).bound - askS us xs (nth q.rules k).body (j + 1) = bdj - wv) := by show _ = _; rw [hS2.out, hbdj]; show _ - (_ + wv) = _; omega
                    go_upto_region 20 with fail
                    have hRd : wr.drew.heap[wo.heap.size]? = _ := hRj
                    have hR20 := heap_setCell_same wr.drew wo.heap.size 3 _ _ (.int .i64 (bdj - wv)) hRd
                    have kS : Cg (fun x => x = wo.heap.size) wr (wr.drew.setCell ⟨wo.heap.size, 3, none⟩ (.int .i64 (bdj - wv))) := Cg.set ((Cg.refl _ _).drew) 3 _ rfl
                    have hp20 := hpr.keep (w' := wr.drew.setCell ⟨wo.heap.size, 3, none⟩ (.int .i64 (bdj - wv))) fun g hg _ hl => kS.block g hl (by omega)
                    have c20 := hcg.trans kS
                    have e4 : (wr.drew.setCell ⟨wo.heap.size, 3, none⟩ (.int .i64 (bdj - wv))).cell? ⟨wo.heap.size, 4, none⟩ = some (.slice (some ⟨b2, off2, none⟩) (nth q.rules k).body.length kb) := by rw [cell_of_row _ wo.heap.size 4 _ _ _ hR20]; rfl
                    have e1 : (wr.drew.setCell ⟨wo.heap.size, 3, none⟩ (.int .i64 (bdj - wv))).cell? ⟨b2, off2 + j * 2 + 1, none⟩ = some (.int .i64 wv) := by rw [← v1]; exact World.cell?_of_block (a := ⟨b2, off2 + j * 2 + 1, none⟩) (kS.block b2 (by omega) (by omega))
                    have x4q : wr.drew.cell? ⟨wo.heap.size, 4, none⟩ = some (.slice (some ⟨b2, off2, none⟩) (nth q.rules k).body.length kb) := x4
                    have v1q : wr.drew.cell? ⟨b2, off2 + j * 2 + 1, none⟩ = some (.int .i64 wv) := v1
                    have x3d : wr.drew.cell? ⟨wo.heap.size, 3, none⟩ = some (.int .i64 bdj) := x3
                    have fxd : wr.drew.frozen? ⟨wo.heap.size, 3, none⟩ = false := frozen_of_row wr.drew wo.heap.size 3 _ _ hRd
                    have P20 := Lib.hid hp20
                    have R20 := Lib.hid hR20
                    have C20 := Lib.hid c20
                    clear hp20 hR20 c20 kS hpr hRj hcg hbdj
                    refine wp_region_held_drew (S := fun W' => W'.cell? ⟨wo.heap.size, 4, none⟩ = some (.slice (some ⟨b2, off2, none⟩) (nth q.rules k).body.length kb) ∧ W'.cell? ⟨b2, off2 + j * 2 + 1, none⟩ = some (.int .i64 wv)) (by kernel_rfl) ⟨x4, v1⟩ (fun hHeld => ?_)
                    generalize wr.drew = wq at *
                    refine takeD (i := 0) (v := .pointer (some ⟨wo.heap.size, 3, none⟩)) (some 88) rfl rfl (by kernel_rfl) (by kernel_rfl) (by kernel_rfl) (fun _ _ _ h => h) (Or.inl ⟨by rfl, fun w' hw' => ?_⟩) hHeld ?_
                    · first | (go_simp; done) | (obtain ⟨s0, s1⟩ := hw'; go_simp; done)
                    try simp only [Act.put, List.setIfInBounds_toArray, List.set_cons_zero, List.set_cons_succ]
                    refine takeD (i := 2) (v := .pointer (some ⟨wo.heap.size, 4, none⟩)) (some 90) rfl rfl (by kernel_rfl) (by kernel_rfl) (by kernel_rfl) (fun _ _ _ h => h) (Or.inl ⟨by rfl, fun w' hw' => ?_⟩) hHeld ?_
                    · first | (go_simp; done) | (obtain ⟨s0, s1⟩ := hw'; go_simp; done)
                    try simp only [Act.put, List.setIfInBounds_toArray, List.set_cons_zero, List.set_cons_succ]
                    refine takeD (i := 3) (v := .slice (some ⟨b2, off2, none⟩) (nth q.rules k).body.length kb) (some 91) rfl rfl (by kernel_rfl) (by kernel_rfl) (by kernel_rfl) (fun _ _ _ h => h) (Or.inl ⟨by rfl, fun w' hw' => ?_⟩) hHeld ?_
                    · first | (go_simp; done) | (obtain ⟨s0, s1⟩ := hw'; go_simp; done)
                    try simp only [Act.put, List.setIfInBounds_toArray, List.set_cons_zero, List.set_cons_succ]
                    refine takeD (i := 4) (v := .int .i64 (j : Int)) (some 92) rfl rfl (by kernel_rfl) (by kernel_rfl) (by kernel_rfl) (fun _ _ _ h => h) (Or.inl ⟨by rfl, fun w' hw' => ?_⟩) hHeld ?_
                    · first | (go_simp; done) | (obtain ⟨s0, s1⟩ := hw'; go_simp; done)
                    try simp only [Act.put, List.setIfInBounds_toArray, List.set_cons_zero, List.set_cons_succ]
                    refine takeD (i := 5) (v := .pointer (some ⟨b2, off2 + j * 2, none⟩)) (some 93) rfl rfl (by kernel_rfl) (by kernel_rfl) (by kernel_rfl) (fun _ _ _ h => h) (Or.inl ⟨by rfl, fun w' hw' => ?_⟩) hHeld ?_
                    · first | (go_simp; done) | (obtain ⟨s0, s1⟩ := hw'; go_simp; done)
                    try simp only [Act.put, List.setIfInBounds_toArray, List.set_cons_zero, List.set_cons_succ]
                    refine takeD (i := 6) (v := .pointer (some ⟨b2, off2 + j * 2 + 1, none⟩)) (some 94) rfl rfl (by kernel_rfl) (by kernel_rfl) (by kernel_rfl) (fun _ _ _ h => h) (Or.inl ⟨by rfl, fun w' hw' => ?_⟩) hHeld ?_
                    · first | (go_simp; done) | (obtain ⟨s0, s1⟩ := hw'; go_simp; done)
                    try simp only [Act.put, List.setIfInBounds_toArray, List.set_cons_zero, List.set_cons_succ]
                    refine takeD (i := 7) (v := .int .i64 wv) (some 95) rfl rfl (by kernel_rfl) (by kernel_rfl) (by kernel_rfl) (fun _ _ _ h => h) (Or.inl ⟨by rfl, fun w' hw' => ?_⟩) hHeld ?_
                    · first | (go_simp; done) | (obtain ⟨s0, s1⟩ := hw'; go_simp; done)
                    try simp only [Act.put, List.setIfInBounds_toArray, List.set_cons_zero, List.set_cons_succ]
                    refine wpAnyH_ready (rs := [1]) (by kernel_rfl) (by simp) ?_
                    refine AllReadyH.cons rfl (fun K hK => ?_) AllReadyH.nil
                    go_simp
                    refine hK.out _ _ ⟨x4q, v1q⟩ (fun hHeld => ?_)
                    clear hK K
                    try simp only [Act.put, List.setIfInBounds_toArray, List.set_cons_zero, List.set_cons_succ]
                    refine takeD (i := 8) (v := .int .i64 (bdj - wv)) (some 96) rfl rfl (by kernel_rfl) (by kernel_rfl) (by kernel_rfl) (fun _ _ _ h => h) (Or.inl ⟨by rfl, fun w' hw' => ?_⟩) hHeld ?_
                    · first | (go_simp; done) | (obtain ⟨s0, s1⟩ := hw'; go_simp; done)
                    try simp only [Act.put, List.setIfInBounds_toArray, List.set_cons_zero, List.set_cons_succ]
                    refine takeD (i := 9) (v := .pointer (some ⟨wo.heap.size, 3, none⟩)) (some 97) rfl rfl (by kernel_rfl) (by kernel_rfl) (by kernel_rfl) (fun _ _ _ h => h) (Or.inl ⟨by rfl, fun w' hw' => ?_⟩) hHeld ?_
                    · first | (go_simp; done) | (obtain ⟨s0, s1⟩ := hw'; go_simp; done)
                    try simp only [Act.put, List.setIfInBounds_toArray, List.set_cons_zero, List.set_cons_succ]
                    refine wpAnyH_ready (rs := [10]) (by kernel_rfl) (by simp) ?_
                    refine AllReadyH.cons rfl (fun K hK => ?_) AllReadyH.nil
                    go_simp
                    refine hK.out _ _ ⟨e4, e1⟩ (fun hHeld => ?_)
                    clear hK K
                    try simp only [Act.put, List.setIfInBounds_toArray, List.set_cons_zero, List.set_cons_succ]
                    refine wpAnyH_done (by kernel_rfl) ?_ _
                    go_wp2
                    go_roundw
                    case rel => exact ⟨j + 1, by omega, by go_num, rfl, by rw [hO1.out]; exact P20.out, by rw [hRn.out]; exact R20.out, C20.out⟩
                    case measure => simp [intOf]; omega
              · skip
                have hjl : j = (nth q.rules k).body.length := by omega
                subst hjl
                obtain ⟨av, nv, rfl, _⟩ := hpr.rd.sl
                obtain ⟨bdj, hbdj⟩ : ∃ bdj, bdj = (nth q.rules k).bound - askS us xs (nth q.rules k).body (nth q.rules k).body.length := ⟨_, rfl⟩
                rw [← hbdj] at hRj x3
                have hbf : -120000 ≤ bdj ∧ bdj ≤ 100000 := by omega
                have kS : Cg (fun x => x = wo.heap.size) wr (wr.setCell ⟨wo.heap.size, 4, none⟩ (.slice av (opnTo us (nth q.rules k).body (nth q.rules k).body.length).length nv)) := Cg.set (Cg.refl _ _) 4 _ rfl
                have hWR : (wr.setCell ⟨wo.heap.size, 4, none⟩ (.slice av (opnTo us (nth q.rules k).body (nth q.rules k).body.length).length nv)).heap[wo.heap.size]? = some (.cells #[.bool (nth q.rules k).choice, d1, .bool true, .int .i64 bdj, .slice av (opnTo us (nth q.rules k).body (nth q.rules k).body.length).length nv] 34 (0, 0)) := heap_setCell_same wr wo.heap.size 4 _ _ (.slice av (opnTo us (nth q.rules k).body (nth q.rules k).body.length).length nv) hRj
                have hpW := hpr.keep (w' := wr.setCell ⟨wo.heap.size, 4, none⟩ (.slice av (opnTo us (nth q.rules k).body (nth q.rules k).body.length).length nv)) fun g hg _ hl => kS.block g hl (by omega)
                have hbW := Below.setCell hbw (p := ⟨wo.heap.size, 4, none⟩) (Nat.le_refl _) (.slice av (opnTo us (nth q.rules k).body (nth q.rules k).body.length).length nv)
                by_cases hle : bdj ≤ 0
                · have hgs : Hid ((bdj ≤ 0) = True) := by show _ = _; exact eq_true hle
                  have hE := Lib.hid (leftTo_yes (rs := q.rules) (topS_wY (xs := xs) hB hW (by omega)))
                  clear hpW
                  have hW2 : ((wr.setCell ⟨wo.heap.size, 4, none⟩ (.slice av (opnTo us (nth q.rules k).body (nth q.rules k).body.length).length nv)).setCell ⟨wo.heap.size, 2, none⟩ (.bool false)).heap[wo.heap.size]? = some (.cells #[.bool (nth q.rules k).choice, d1, .bool false, .int .i64 bdj, .slice av (opnTo us (nth q.rules k).body (nth q.rules k).body.length).length nv] 34 (0, 0)) := heap_setCell_same _ wo.heap.size 2 _ _ (.bool false) hWR
                  have hW3 : (((wr.setCell ⟨wo.heap.size, 4, none⟩ (.slice av (opnTo us (nth q.rules k).body (nth q.rules k).body.length).length nv)).setCell ⟨wo.heap.size, 2, none⟩ (.bool false)).setCell ⟨wo.heap.size, 3, none⟩ (.int .i64 0)).heap[wo.heap.size]? = some (.cells #[.bool (nth q.rules k).choice, d1, .bool false, .int .i64 0, .slice av (opnTo us (nth q.rules k).body (nth q.rules k).body.length).length nv] 34 (0, 0)) := heap_setCell_same _ wo.heap.size 3 _ _ (.int .i64 0) hW2
                  have hbW3 := Below.setCell (Below.setCell hbW (p := ⟨wo.heap.size, 2, none⟩) (Nat.le_refl _) (.bool false)) (p := ⟨wo.heap.size, 3, none⟩) (Nat.le_refl _) (.int .i64 0)
                  have hsz3 : w4.heap.size ≤ (((wr.setCell ⟨wo.heap.size, 4, none⟩ (.slice av (opnTo us (nth q.rules k).body (nth q.rules k).body.length).length nv)).setCell ⟨wo.heap.size, 2, none⟩ (.bool false)).setCell ⟨wo.heap.size, 3, none⟩ (.int .i64 0)).heap.size := by simp; omega
                  go_upto_region 28 with fail
                  clear hW2 hWR hbW hRj hcg hpr kS x0 x1 x2 x3 x4 hfx
                  generalize ((wr.setCell ⟨wo.heap.size, 4, none⟩ (.slice av (opnTo us (nth q.rules k).body (nth q.rules k).body.length).length nv)).setCell ⟨wo.heap.size, 2, none⟩ (.bool false)).setCell ⟨wo.heap.size, 3, none⟩ (.int .i64 0) = W2 at *
                  obtain ⟨x0, x1, x2, x3, x4⟩ := cells5 (cellsAtB hW3)
                  have hfx := fun i => frozen_of_row _ wo.heap.size i _ _ hW3
                  have hp2 := PRow.lit W2 (fun f => w4.heap.size ≤ f) hsz3
                  have hW5 := (Below.heap_alloc W2 (.cells #[] 94) wo.heap.size (by omega)).trans hW3
                  have kS : Cg (fun x => x = wo.heap.size) (W2.alloc (.cells #[] 94)) ((W2.alloc (.cells #[] 94)).setCell ⟨wo.heap.size, 4, none⟩ (.slice (some ⟨W2.heap.size, 0, none⟩) 0 0)) := Cg.set (Cg.refl _ _) 4 _ rfl
                  have hWR : ((W2.alloc (.cells #[] 94)).setCell ⟨wo.heap.size, 4, none⟩ (.slice (some ⟨W2.heap.size, 0, none⟩) 0 0)).heap[wo.heap.size]? = some (.cells #[.bool (nth q.rules k).choice, d1, .bool false, .int .i64 0, .slice (some ⟨W2.heap.size, 0, none⟩) 0 0] 34 (0, 0)) := heap_setCell_same _ wo.heap.size 4 _ _ (.slice (some ⟨W2.heap.size, 0, none⟩) 0 0) hW5
                  have hpW := hp2.keep (w' := (W2.alloc (.cells #[] 94)).setCell ⟨wo.heap.size, 4, none⟩ (.slice (some ⟨W2.heap.size, 0, none⟩) 0 0)) fun g hg _ hl => kS.block g hl (by omega)
                  have hbW := Below.setCell (hbW3.alloc hbW3.size (.cells #[] 94)) (p := ⟨wo.heap.size, 4, none⟩) (Nat.le_refl _) (.slice (some ⟨W2.heap.size, 0, none⟩) 0 0)
                  obtain ⟨m0, m1, m2, m3, m4⟩ := cells5 (cellsAtB hW5)
                  have hfm := fun i => frozen_of_row _ wo.heap.size i _ _ hW5
                  have hlt2 : wo.heap.size < W2.heap.size := by omega
                  clear hp2 hW5 hW3 kS
                  go_upto_region 29 with fail
                  have hq := hpW.1.own
                  clear hpW hbW3 m0 m1 m2 m3 m4 hfm
                  rw [World.setCell_alloc_past _ wo.heap.size 4 _ hlt2] at hWR hbW hq
                  generalize (W2.setCell ⟨wo.heap.size, 4, none⟩ (.slice (some ⟨W2.heap.size, 0, none⟩) 0 0)).alloc (.cells #[] 94) = W at *
                  obtain ⟨fq, q1, q2⟩ := own_bodyS (wt := false) (bd := 0) HOR.out hbW hq (by omega) (by unfold Fits; omega)
                  clear hq hB hW hbdj hgs hle
                  clear x0 x1 x2 x3 x4 hfx
                  obtain ⟨x0, x1, x2, x3, x4⟩ := cells5 (cellsAtB hWR)
                  have bY := (Below.refl W.heap.size W).alloc (Nat.le_refl _) (.cells #[.bool (nth q.rules k).choice, d1, .bool false, .int .i64 (0), (.slice (some ⟨W2.heap.size, 0, none⟩) 0 0)] 34)
                  have hPW := HPK.out.mem hbW
                  obtain ⟨a9, q9, w9, r9, x9, P9, b9⟩ := PS.push (c := 1) (ty := 24) i3 _ hi3 hz30 hz31 hz32 rfl HPK.out (hbW.alloc hbW.size (.cells #[.bool (nth q.rules k).choice, d1, .bool false, .int .i64 (0), (.slice (some ⟨W2.heap.size, 0, none⟩) 0 0)] 34)) hnd (fun f hf => by have := hfl f hf; omega) (Cells.new W [.bool (nth q.rules k).choice, d1, .bool false, .int .i64 (0), (.slice (some ⟨W2.heap.size, 0, none⟩) 0 0)] 34) (Ow.kept q1 fun f hf => bY.block f (Ow.lt q1 f hf)) (fun f hf => (q2 f hf).imp id fun h => by omega) (by omega)
                  have hf9 := frozen_of_row w9 (w1.heap.size + 1) 1 _ _ x9
                  have hc9 : w9.cell? ⟨w1.heap.size + 1, 1, none⟩ = some v := by rw [cell_of_row w9 (w1.heap.size + 1) 1 _ _ _ x9]; rfl
                  have hX1 : W.cell? ⟨w1.heap.size + 1, 1, none⟩ = some v := by rw [cell_of_row W (w1.heap.size + 1) 1 _ _ _ hPW.box]; rfl
                  obtain ⟨avv, nvv, hv0⟩ := hPW.row.form
                  obtain ⟨nT, hnT⟩ : ∃ nT : Nat, nT = (leftTo (topS us xs) q.rules k).length := ⟨_, rfl⟩
                  rw [← hnT] at r9 P9 hv0
                  subst hv0
                  have PP := Lib.hid P9
                  clear hWR bY hPW P9 x9 b9 hnT q1 q2 hbW hct
                  go_wp2_with (at_builtin; refine wpList_append_of rfl _ _ rfl rfl rfl r9 ?_)
                  go_roundw
                  case rel => exact ⟨k + 1, _, by omega, by go_num, by rw [hE.out]; exact PP.out⟩
                  case measure => simp [intOf]; omega
                · have hre : ({ (nth q.rules k) with weight := true, bound := bdj, body := opnTo us (nth q.rules k).body (nth q.rules k).body.length } : RuleD) = { (nth q.rules k) with bound := (nth q.rules k).bound - askS us xs (nth q.rules k).body (nth q.rules k).body.length, body := opnTo us (nth q.rules k).body (nth q.rules k).body.length } := by rw [← hW, hbdj]
                  have hE := Lib.hid (leftTo_yes (rs := q.rules) (topS_wN (xs := xs) hB hW (by omega)))
                  have hlen : ¬ bdj ≤ 0 := hle
                  clear hRj hcg hpr kS
                  go_upto_region 29 with fail
                  generalize wr.setCell ⟨wo.heap.size, 4, none⟩ (.slice av (opnTo us (nth q.rules k).body (nth q.rules k).body.length).length nv) = W at *
                  obtain ⟨fq, q1, q2⟩ := own_bodyS (wt := true) (bd := bdj) HOR.out hbW hpW.1.own (by omega) (by unfold Fits; omega)
                  rw [hre] at q1
                  clear hre hpW hB hW hbdj
                  clear x0 x1 x2 x3 x4 hfx
                  obtain ⟨x0, x1, x2, x3, x4⟩ := cells5 (cellsAtB hWR)
                  have bY := (Below.refl W.heap.size W).alloc (Nat.le_refl _) (.cells #[.bool (nth q.rules k).choice, d1, .bool true, .int .i64 (bdj), (.slice av (opnTo us (nth q.rules k).body (nth q.rules k).body.length).length nv)] 34)
                  have hPW := HPK.out.mem hbW
                  obtain ⟨a9, q9, w9, r9, x9, P9, b9⟩ := PS.push (c := 1) (ty := 24) i3 _ hi3 hz30 hz31 hz32 rfl HPK.out (hbW.alloc hbW.size (.cells #[.bool (nth q.rules k).choice, d1, .bool true, .int .i64 (bdj), (.slice av (opnTo us (nth q.rules k).body (nth q.rules k).body.length).length nv)] 34)) hnd (fun f hf => by have := hfl f hf; omega) (Cells.new W [.bool (nth q.rules k).choice, d1, .bool true, .int .i64 (bdj), (.slice av (opnTo us (nth q.rules k).body (nth q.rules k).body.length).length nv)] 34) (Ow.kept q1 fun f hf => bY.block f (Ow.lt q1 f hf)) (fun f hf => (q2 f hf).imp id fun h => by omega) (by omega)
                  have hf9 := frozen_of_row w9 (w1.heap.size + 1) 1 _ _ x9
                  have hc9 : w9.cell? ⟨w1.heap.size + 1, 1, none⟩ = some v := by rw [cell_of_row w9 (w1.heap.size + 1) 1 _ _ _ x9]; rfl
                  have hX1 : W.cell? ⟨w1.heap.size + 1, 1, none⟩ = some v := by rw [cell_of_row W (w1.heap.size + 1) 1 _ _ _ hPW.box]; rfl
                  obtain ⟨avv, nvv, hv0⟩ := hPW.row.form
                  obtain ⟨nT, hnT⟩ : ∃ nT : Nat, nT = (leftTo (topS us xs) q.rules k).length := ⟨_, rfl⟩
                  rw [← hnT] at r9 P9 hv0
                  subst hv0
                  have PP := Lib.hid P9
                  clear hWR bY hPW P9 x9 b9 hnT q1 q2 hbW hct
                  go_wp2_with (at_builtin; refine wpList_append_of rfl _ _ rfl rfl rfl r9 ?_)
                  go_roundw
                  case rel => exact ⟨k + 1, _, by omega, by go_num, by rw [hE.out]; exact PP.out⟩
                  case measure => simp [intOf]; omega
        · have hE := Lib.hid (leftTo_no (rs := q.rules) (topS_bel (xs := xs) hB))
          have H4 := Lib.hid hP4.up
          rw [hB] at he
          subst he
          clear hB hP4 hPk hRr hOr hCr
          go_wp2
          go_roundw
          case rel => exact ⟨k + 1, v, by omega, by go_num, by rw [hE.out]; exact H4.out⟩
          case measure => simp [intOf]; omega
      · obtain rfl : k = q.rules.length := by omega
        have hRr := (hPk.bel.block (w.heap.size + 1) (by omega)).trans hbrA
        obtain ⟨z0, z1, z2, z3, z4, z5, z6, z7⟩ := cells8 (cellsAtB hRr)
        have hfz := fun j => frozen_of_row _ (w.heap.size + 1) j _ _ hRr
        obtain ⟨av, nv, rfl⟩ := hPk.row.form
        obtain ⟨fpv, hov, hdv⟩ := hPk.row.own
        obtain ⟨nT, hnT⟩ : ∃ nT : Nat, nT = (leftTo (topS us xs) q.rules q.rules.length).length := ⟨_, rfl⟩
        have hbx := hPk.box
        rw [← hnT] at hov hbx
        obtain ⟨x0, x1, x2, x3, x4, x5, x6, x7⟩ := cells8 (cellsAtB hbx)
        have hlv : ∀ f ∈ fpv, w.heap.size ≤ f ∧ f ≠ w.heap.size + 1 := fun f hf => by
          rcases hdv f hf with h | h
          · have := hfl f (take_in h); omega
          · omega
        have HV := Lib.hid hlv
        have HO := Lib.hid hov
        have TW := Lib.hid tw
        clear hPk hRr hnT hbx hdv hlv hov tw
        go_wp2
        refine bodyPost_ret (v := .agg #[.int .i64 q.atoms, .slice av nT nv, .slice none 0 0, .bool false, .slice none 0 0, .slice none 0 0, .slice none 0 0, .slice none 0 0])
          (by simp [results, Tryz.results38, go_sem, z0, z1, z2, z3, z4, z5, z6, z7]) rfl ⟨_, rfl, ?_, ?_⟩
        · rw [HC.out]
          exact own_partS (w := put wr (w.heap.size + 1) 0 [.int .i64 q.atoms, .slice av nT nv, .slice none 0 0, .bool false, .slice none 0 0, .slice none 0 0, .slice none 0 0, .slice none 0 0]) hfa ⟨fpv, Ow.kept (α := List RuleD) HO.out fun f hf => (put_chg (w.heap.size + 1) _ wr 0).block f (by have := (HV.out f hf).2; simp; omega), fun f hf => (HV.out f hf).1⟩
        · exact TW.out.trans ((put_chg (w.heap.size + 1) [.int .i64 q.atoms, .slice av nT nv, .slice none 0 0, .bool false, .slice none 0 0, .slice none 0 0, .slice none 0 0, .slice none 0 0] wr 0).below fun f hf => by simp at hf; omega)
end Go.Proofs.YthikhkeofcjdfaaGreat
