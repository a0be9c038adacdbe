/-
  The rules that stay after all steps, and Bottom's and Top's pure part (Left, BotD). No condition of its own.
-/
import Derived.Test.YthikhkeofcjdfaaGreatAnsD
import Derived.Test.YthikhkeofcjdfaaGreatMak
import Derived.Test.YthikhkeofcjdfaaGreatBothI
import Derived.Test.YthikhkeofcjdfaaGreatAppend
import Derived.Test.YthikhkeofcjdfaaGreatOwnD
import Derived.Test.YthikhkeofcjdfaaGreatPRow
import Derived.Test.YthikhkeofcjdfaaGreatOwnR
import Derived.Deep.RegionHeld3
import Derived.Test.YthikhkeofcjdfaaGreatSplD
namespace Go.Proofs.YthikhkeofcjdfaaGreat
set_option linter.unusedVariables false
set_option linter.unusedSimpArgs false
open Go.RowKit
set_option maxRecDepth 100000

/-! ### Left -/
theorem cellsAt {W : World} {b : Nat} {cs : List Value} {t : TypeId} (h : W.heap[b]? = some (.cells cs.toArray t (0, 0))) : Cells W b 0 cs := fun j v hv => by
  rw [Nat.zero_add, cell_of_row W b j _ _ _ h]; simpa using hv
theorem flat_take {fps : List (List Nat)} {k f : Nat} (hn : fps.flatten.Nodup) (h1 : f ∈ (fps.take k).flatten) (h2 : f ∈ fps.getD k []) : False := by
  by_cases hk : k < fps.length
  · have e : fps = fps.take k ++ fps.drop k := (List.take_append_drop k fps).symm
    rw [e, List.flatten_append] at hn
    refine (List.nodup_append.1 hn).2.2 f h1 f ?_ rfl
    rw [List.getD_eq_getElem?_getD, List.getElem?_eq_getElem hk] at h2
    rw [List.drop_eq_getElem_cons hk, List.flatten_cons]
    exact List.mem_append_left _ h2
  · rw [List.getD_eq_getElem?_getD, List.getElem?_eq_none (by omega)] at h2
    cases h2
theorem take_up {fps : List (List Nat)} {k f : Nat} (h : f ∈ (fps.take k).flatten ∨ f ∈ fps.getD k []) : f ∈ (fps.take (k + 1)).flatten := by
  by_cases hk : k < fps.length
  · rw [List.take_add_one, List.flatten_append, List.mem_append]
    rcases h with h | h
    · exact .inl h
    · rw [List.getD_eq_getElem?_getD] at h
      rw [List.getElem?_eq_getElem hk] at h ⊢
      exact .inr (by simpa using h)
  · rw [List.take_of_length_le (by omega)]
    rcases h with h | h
    · rwa [List.take_of_length_le (by omega)] at h
    · rw [List.getD_eq_getElem?_getD, List.getElem?_eq_none (by omega)] at h; cases h
theorem take_in {fps : List (List Nat)} {k f : Nat} (h : f ∈ (fps.take k).flatten) : f ∈ fps.flatten := by
  obtain ⟨l, h1, h2⟩ := List.mem_flatten.1 h
  exact List.mem_flatten.2 ⟨l, List.mem_of_mem_take h1, h2⟩

/-- Where the rules lie that have been put together: in what the first k rules had, or in what is new. -/
def DC (fps : List (List Nat)) (T k : Nat) (f : Nat) : Prop := f ∈ (fps.take k).flatten ∨ T ≤ f
theorem DC.up {fps : List (List Nat)} {T k f : Nat} (h : DC fps T k f) : DC fps T (k + 1) f := h.imp (fun h => take_up (.inl h)) id

theorem cut_app {w0 w5 : World} {T k g c : Nat} {fps : List (List Nat)} {v : Value} {xs : List RuleD} {y : RuleD} {ecs : List Value} {fp : List Nat} {ty : TypeId}
    (i : TypeInfo) (z : Value) (hin : Tryz.prog.info? 34 = some i) (hz : i.zero = some z) (hsize : i.size = Rd.k RuleD) (hby : i.bytes = 72) (hzs : z.cells.size = Rd.k RuleD)
    (h : OwnD T (DC fps T k) 34 w0 v xs) (hT : T ≤ w0.heap.size) (hb : Below w0.heap.size w0 w5) (hn : fps.flatten.Nodup) (hl : ∀ f ∈ fps.flatten, f < T)
    (hc : Cells w5 g 0 ecs) (ho : Ow.O w5 ecs y fp) (hfp : ∀ f ∈ fp, f ∈ fps.getD k [] ∨ w0.heap.size ≤ f) (hx : xs.length ≤ 1000) :
    ∃ a q w6, (Builtin.append_ #[24, 24] ty #[v, .slice (some ⟨g, 0, none⟩) 1 c]).run Tryz.prog w5 = .ok (.slice a (xs.length + 1) q) w6 ∧ OwnD T (DC fps T (k + 1)) 34 w6 (.slice a (xs.length + 1) q) (xs ++ [y]) ∧ Below T w5 w6 := by
  have hsz := hb.size
  obtain ⟨v', w', r1, r2, r3, r4⟩ := run_append_D (α := RuleD) (P := Tryz.prog) (w := w5) (zs := [y]) (fps2 := [fp]) (ad := ⟨g, 0, none⟩) (c := c) (ty := ty) (D2 := fun f => f ∈ fps.getD k [] ∨ w0.heap.size ≤ f) i z 72 Tryz.underlying24 hin hz hsize hby hzs (by decide) (h.ltD.later hb)
    ⟨g, 0, rfl, rfl, by simpa using Ow.nodup ho, fun j hj => by
      have : j = 0 := by simp at hj; omega
      subst this
      exact ⟨ecs, by rw [Nat.zero_mul]; exact hc, ho⟩⟩ (fun f hf => hfp f (by simpa using hf)) (fun f h1 h2 => by
      obtain ⟨h1, h3⟩ := h1
      rcases h2 with h2 | h2
      · rcases h1 with h1 | h1
        · exact flat_take hn h1 h2
        · have := hl f (mem_flat h2); omega
      · omega) (by simp; omega) (by simp; omega) (by omega)
  have r5 := r2.weak (B' := T) (D' := DC fps T (k + 1)) (Nat.le_refl _) fun f hf => by
    rcases hf with hf | hf | hf
    · exact hf.1.up
    · rcases hf with hf | hf
      · exact .inl (take_up (.inr hf))
      · exact .inr (Nat.le_trans hT hf)
    · exact .inr (by omega)
  obtain ⟨a, q, rfl⟩ := r5.form
  rw [List.length_append] at r1 r5
  exact ⟨a, q, w', r1, r5, r3⟩

/-- A rule with another body. -/
theorem own_body {w w5 : World} {M : Nat} {r : RuleD} {c1 c4 v4 : Value} {fp : List Nat} {ys : List (Int × Int)} (ho : Ow.O w [.bool r.choice, c1, .bool r.weight, .int .i64 r.bound, c4] r fp) (hb : Below w.heap.size w w5) (hv : Own M w5 [v4] ys) (hM : w.heap.size ≤ M) :
    ∃ fp', Ow.O w5 [.bool r.choice, c1, .bool r.weight, .int .i64 r.bound, v4] { r with body := ys } fp' ∧ ∀ f ∈ fp', f ∈ fp ∨ M ≤ f := by
  obtain ⟨d1, d4, f1, f2, e, hf, h1, h4, rfl, hn⟩ := ho
  simp only [List.cons.injEq, and_true, true_and] at e
  obtain ⟨rfl, rfl⟩ := e
  obtain ⟨f3, h3, hl3⟩ := hv
  have h3l := Ow.nodup (α := List (Int × Int)) h3
  have h1l := Ow.lt (α := List Int) h1
  refine ⟨f1 ++ f3, ⟨c1, v4, f1, f3, rfl, hf, Ow.kept (α := List Int) h1 fun g hg => hb.block g (h1l g hg), h3, rfl, List.nodup_append.2 ⟨(List.nodup_append.1 hn).1, h3l, fun a ha b hb e => ?_⟩⟩, fun f hf => ?_⟩
  · have := h1l a ha; have := hl3 b hb; omega
  · rcases List.mem_append.1 hf with hf | hf
    · exact .inl (List.mem_append_left _ hf)
    · exact .inr (hl3 f hf)

/-- The rules of a program of the call's own, and its rest. -/
theorem own_rules {lo : Nat} {w : World} {c1 c2 c4 c5 c6 c7 : Value} {q : ProgD} (h : Own lo w [.int .i64 q.atoms, c1, c2, .bool q.projOn, c4, c5, c6, c7] q) :
    ∃ (a : Option Addr) (cap g : Nat) (fps : List (List Nat)) (fpR : List Nat), c1 = .slice a q.rules.length cap ∧ (0 < q.rules.length → a = some ⟨g, 0, none⟩) ∧ fps.flatten.Nodup ∧ (∀ f ∈ fps.flatten, lo ≤ f ∧ f < w.heap.size) ∧ (∀ i, i < q.rules.length → ∃ ecs, Cells w g (i * 5) ecs ∧ Ow.O w ecs (nth q.rules i) (fps.getD i [])) ∧
      Rest w c2 c4 c5 c6 c7 q fpR ∧ (∀ f ∈ fpR, lo ≤ f ∧ f < w.heap.size ∧ f ∉ fps.flatten) ∧ Fits q.atoms := by
  obtain ⟨fp, ⟨d1, d2, d4, d5, d6, d7, f1, f2, f4, f5, f6, f7, e, hf, o1, o2, o4, o5, o6, o7, rfl, hn⟩, hl⟩ := h
  simp only [List.cons.injEq, and_true, true_and] at e
  obtain ⟨rfl, rfl, rfl, rfl, rfl, rfl⟩ := e
  have l1 := Ow.lt (α := List RuleD) o1
  have hnn := List.nodup_append.1 hn
  have hR : Rest w c2 c4 c5 c6 c7 q (f2 ++ (f4 ++ (f5 ++ (f6 ++ f7)))) := ⟨f2, f4, f5, f6, f7, o2, o4, o5, o6, o7, rfl, hnn.2.1⟩
  have hRl := hR.lt
  obtain ⟨a, cap, e, _, _, h3⟩ := o1
  simp at e
  rcases h3 with ⟨hr, rfl, _⟩ | ⟨g, t, cur, fps, rfl, hh, hs, hfl, rfl, hnd, h4⟩
  · refine ⟨a, cap, 0, [], _, e, fun h => by rw [hr] at h; simp at h, by simp, by simp, fun i hi => by rw [hr] at hi; simp at hi, hR, fun f hf => ⟨hl f (List.mem_append_right _ hf), hRl f hf, by simp⟩, hf⟩
  · refine ⟨_, cap, g, fps, _, e, fun _ => rfl, (List.nodup_cons.1 hnd).2, fun f hf => ⟨hl f (List.mem_append_left _ (List.mem_cons_of_mem _ hf)), l1 f (List.mem_cons_of_mem _ hf)⟩, fun i hi => h4 i hi, hR, fun f hf => ⟨hl f (List.mem_append_right _ hf), hRl f hf, fun hm => hnn.2.2 f (List.mem_cons_of_mem _ hm) f hf rfl⟩, hf⟩

/-- A program with other rules. -/
theorem own_cut {lo T n : Nat} {w wz : World} {fps : List (List Nat)} {fpR : List Nat} {v c2 c4 c5 c6 c7 : Value} {q : ProgD} {xs : List RuleD} (hR : Rest w c2 c4 c5 c6 c7 q fpR) (hb : ∀ g, g < w.heap.size → wz.heap[g]? = w.heap[g]?) (hRl : ∀ f ∈ fpR, lo ≤ f ∧ f < w.heap.size ∧ f ∉ fps.flatten) (hf : Fits q.atoms)
    (hl : ∀ f ∈ fps.flatten, lo ≤ f) (hT : w.heap.size ≤ T) (hlo : lo ≤ T) (ho : OwnD T (DC fps T n) 34 wz v xs) : OwnPR lo w.heap.size (DC fps T n) wz v c2 c4 c5 c6 c7 { q with rules := xs } := by
  refine ⟨fpR, hf, ho.weak hlo fun f h => h, ?_, fun g hg => ⟨(hRl g hg).1, (hRl g hg).2.1, fun hd => ?_⟩, fun g hd => ?_⟩
  · have hk := hR.kept (w' := wz) fun g hg => hb g (hRl g hg).2.1
    exact hk
  · rcases hd with hd | hd
    · exact (hRl g hg).2.2 (take_in hd)
    · have := hRl g hg; omega
  · rcases hd with hd | hd
    · exact hl g (take_in hd)
    · omega


def leftTo (g : RuleD → Option RuleD) (rs : List RuleD) : Nat → List RuleD
  | 0 => []
  | k + 1 => match g (nth rs k) with
    | some y => leftTo g rs k ++ [y]
    | none => leftTo g rs k
section
variable {g : RuleD → Option RuleD} {rs : List RuleD}
theorem leftTo_yes {k : Nat} {y : RuleD} (h : g (nth rs k) = some y) : leftTo g rs (k + 1) = leftTo g rs k ++ [y] := by simp [leftTo, h]
theorem leftTo_no {k : Nat} (h : g (nth rs k) = none) : leftTo g rs (k + 1) = leftTo g rs k := by simp [leftTo, h]
theorem leftTo_len : ∀ k, (leftTo g rs k).length ≤ k
  | 0 => by simp [leftTo]
  | k + 1 => by
    have ih := leftTo_len k
    cases h : g (nth rs k)
    · rw [leftTo_no h]; omega
    · rw [leftTo_yes h, List.length_append, List.length_singleton]; omega
end
/-- What a step leaves of a rule: a rule of its own but for what it was made of, or none. -/
def StepQ (w : World) (r : RuleD) (fp : List Nat) (g : RuleD → Option RuleD) (e : Ending) (w' : World) : Prop :=
  Below w.heap.size w w' ∧ ((∃ y ecs fp', g r = some y ∧ e = .returned (.tuple #[.agg (List.toArray ecs), .bool true]) ∧ Ow.O w' ecs y fp' ∧ ∀ f ∈ fp', f ∈ fp ∨ w.heap.size ≤ f) ∨
    (g r = none ∧ e = .returned (.tuple #[.agg #[.bool false, .slice none 0 0, .bool false, .int .i64 0, .slice none 0 0], .bool false])))
set_option maxHeartbeats 8000000 in
theorem leftOf_calls {W : World} {a1 : Option Addr} {k1 G : Nat} {u : Value} {rs : List RuleD} {fps : List (List Nat)} {g : RuleD → Option RuleD}
    (ha : 0 < rs.length → a1 = some ⟨G, 0, none⟩) (hnd : fps.flatten.Nodup) (hfl : ∀ f ∈ fps.flatten, f < W.heap.size)
    (hel : ∀ i, i < rs.length → ∃ ecs, Cells W G (i * 5) ecs ∧ Ow.O W ecs (nth rs i) (fps.getD i [])) (hl : rs.length ≤ 60)
    (HS : ∀ i, i < rs.length → ∀ w' ecs, Below W.heap.size W w' → Ow.O w' ecs (nth rs i) (fps.getD i []) → Calls Tryz.prog 265 #[.agg ecs.toArray, u] w' (StepQ w' (nth rs i) (fps.getD i []) g)) :
    Calls Tryz.prog 238 #[.slice a1 rs.length k1, u] W fun e w' => ∃ v, e = .returned v ∧ OwnD W.heap.size (DC fps W.heap.size rs.length) 34 w' v (leftTo g rs rs.length) ∧ Below W.heap.size W w' := by
  obtain ⟨i3, hi3, hz30, hz31, hz32⟩ := info_parts info_copiesRule
  go_enter Tryz.func238, Tryz.ntmps238
  go_wp2
  go_loopw [5, 7, 8, 9, 12] (fun v _ _ _ i wr => ∃ k : Nat, k ≤ rs.length ∧ i = .int .i64 k ∧ OwnD W.heap.size (DC fps W.heap.size k) 34 wr v (leftTo g rs k) ∧ Below W.heap.size W wr) (fun _ _ _ _ i _ => rs.length - (intOf i).toNat)
  case atStart => exact ⟨0, Nat.zero_le _, rfl, OwnD.start (World.ownsRow_nil _ _ _ _) (fun g hg => by simp [Value.ownBlock] at hg), Below.refl _ _⟩
  case round =>
    obtain ⟨k, hk, rfl, ho, hb⟩ := hrel
    have hz := hb.size
    have hct := leftTo_len (g := g) (rs := rs) k
    by_cases hlt : k < rs.length
    · obtain rfl := ha (by omega)
      obtain ⟨ecs, hC, hO⟩ := hel k hlt
      have HSk := HS k hlt
      have hOr := Ow.kept hO (w' := wr) fun f hf => hb.block f (Ow.lt hO f hf)
      have hRr := Ow.rd hOr
      have hCr := hC.later hb
      have lx := Rd.one hRr
      obtain ⟨e0, e1, e2, e3, e4, rfl⟩ := list5 (Rd.len hRr)
      have so0 := sto Tryz.prog (lx e0 (by simp))
      have so1 := sto Tryz.prog (lx e1 (by simp))
      have so2 := sto Tryz.prog (lx e2 (by simp))
      have so3 := sto Tryz.prog (lx e3 (by simp))
      have so4 := sto Tryz.prog (lx e4 (by simp))
      have u0 := hCr.c0
      have u1 := hCr.c1
      have u2 := hCr.c2
      have u3 := hCr.c3
      have u4 := hCr.c4
      have bA := (Below.refl wr.heap.size wr).alloc (Nat.le_refl _) (.cells #[e0, e1, e2, e3, e4] 34)
      have hOA := Ow.kept hOr (w' := wr.alloc (.cells #[e0, e1, e2, e3, e4] 34)) fun f hf => bA.block f (Ow.lt hOr f hf)
      have hcon := HSk _ _ (hb.alloc hz (.cells #[e0, e1, e2, e3, e4] 34)) hOA
      have zA : (wr.alloc (.cells #[e0, e1, e2, e3, e4] 34)).heap.size = wr.heap.size + 1 := World.size_alloc _ _
      obtain ⟨x0, x1, x2, x3, x4⟩ := cells5 (Cells.new wr [e0, e1, e2, e3, e4] 34)
      have HN := Lib.hid (fun (h : g (nth rs k) = none) => leftTo_no (rs := rs) h)
      have HY := Lib.hid (fun y (h : g (nth rs k) = some y) => leftTo_yes (rs := rs) h)
      have hki : (k : Int) < (rs.length : Int) := by omega
      clear hC hCr hel hO HS HSk lx hRr ha
      go_wp2_with fail
      refine hcon.mono ?_
      rintro e w5 ⟨b5, hst⟩
      have bq := bA.trans (b5.mono (by omega))
      clear u0 u1 u2 u3 u4 x0 x1 x2 x3 x4 so0 so1 so2 so3 so4 hcon hOA
      rcases hst with ⟨y, ecs', fp', hgy, rfl, hO5, hfp'⟩ | ⟨hgn, rfl⟩
      · have lx := Rd.one (Ow.rd hO5)
        obtain ⟨d0, d1, d2, d3, d4, rfl⟩ := list5 (Rd.len (Ow.rd hO5))
        have so0 := sto Tryz.prog (lx d0 (by simp))
        have so1 := sto Tryz.prog (lx d1 (by simp))
        have so2 := sto Tryz.prog (lx d2 (by simp))
        have so3 := sto Tryz.prog (lx d3 (by simp))
        have so4 := sto Tryz.prog (lx d4 (by simp))
        have bB := bq.alloc bq.size (.cells #[d0, d1, d2, d3, d4] 34)
        have bC := bB.alloc bB.size (.cells #[d0, d1, d2, d3, d4] 34)
        have hcn := Cells.new (w5.alloc (.cells #[d0, d1, d2, d3, d4] 34)) [d0, d1, d2, d3, d4] 34
        rw [World.size_alloc] at hcn
        obtain ⟨x0, x1, x2, x3, x4⟩ := cells5 (Cells.new w5 [d0, d1, d2, d3, d4] 34)
        have hO7 := Ow.kept hO5 (w' := (w5.alloc (.cells #[d0, d1, d2, d3, d4] 34)).alloc (.cells #[d0, d1, d2, d3, d4] 34)) fun f hf => by
          have := Ow.lt hO5 f hf
          exact (Below.heap_alloc _ _ f (by simp; omega)).trans (Below.heap_alloc _ _ f this)
        obtain ⟨a6, q6, w6, r6, o6, b6⟩ := cut_app (c := 1) (ty := 24) i3 _ hi3 hz30 hz31 hz32 rfl ho (by omega) bC hnd hfl hcn hO7 (fun f hf => (hfp' f hf).imp id fun h => by omega) (by omega)
        obtain ⟨av, nv, hv0⟩ := ho.form
        have hE := HY.out y hgy
        have HE := Lib.hid hE
        have O6 := Lib.hid o6
        have B6 := Lib.hid ((hb.trans (bC.mono hz)).trans b6)
        obtain ⟨nT, hnT⟩ : ∃ nT : Nat, nT = (leftTo g rs k).length := ⟨_, rfl⟩
        rw [← hnT] at r6 O6 hv0
        subst hv0
        clear hgy hO5 hfp' lx bB bC hcn hO7 o6 b6 ho hb bq b5 bA hOr hnT hE HN HY
        go_wp2_with (at_builtin; refine wpList_append_of rfl _ _ rfl rfl rfl r6 ?_)
        go_roundw
        case rel => exact ⟨k + 1, by omega, by go_num, by rw [HE.out]; exact O6.out, B6.out⟩
        case measure => simp [intOf]; omega
      · have HE := Lib.hid (HN.out hgn)
        have bB := bq.alloc bq.size (.cells #[.bool false, .slice none 0 0, .bool false, .int .i64 0, .slice none 0 0] 34)
        have O6 := Lib.hid ((ho.later bB).weak (Nat.le_refl _) fun f hf => DC.up hf)
        have B6 := Lib.hid (hb.trans (bB.mono hz))
        clear hgn ho hb bq b5 bA bB hOr HN HY
        go_wp2
        go_roundw
        case rel => exact ⟨k + 1, by omega, by go_num, by rw [HE.out]; exact O6.out, B6.out⟩
        case measure => simp [intOf]; omega
    · obtain rfl : k = rs.length := by omega
      go_wp2
      go_ret
      exact ⟨_, rfl, ho, hb⟩


/-! ### BotD -/
/-- A rule lies below: all its atoms are in the set. -/
def belB (us : List Int) (r : RuleD) : Bool := ((pickTo (pickL (atomsB r) us) 12).length : Int) == 0
theorem bel_same {us : List Int} {r : RuleD} (hf : FitsR r) : belB us r = inM (evM r) (maskOf us) := by
  have hm := maskOf_lt us
  unfold belB
  rw [Bool.eq_iff_iff, beq_iff_eq, inM_iff (evM_lt r) hm]
  have hl : (pickTo (pickL (atomsB r) us) 12).length = 0 ↔ ∀ x : Int, 1 ≤ x → x ≤ 12 → pickL (atomsB r) us x = false := by
    rw [List.length_eq_zero_iff]
    constructor
    · intro h x h1 h2
      have h3 := mem_pickTo (pickL (atomsB r) us) x 12
      rw [h] at h3
      cases hx : pickL (atomsB r) us x
      · rfl
      · have := h3.2 ⟨h1, by omega, hx⟩
        cases this
    · intro h
      refine List.eq_nil_iff_forall_not_mem.2 fun x hx => ?_
      obtain ⟨h1, h2, h3⟩ := (mem_pickTo _ x 12).1 hx
      rw [h x h1 (by omega)] at h3
      cases h3
  have hev : ∀ x : Int, 1 ≤ x → x ≤ 12 → hasB (atomsB r) x = hasM (evM r) x := fun x h1 h2 => by rw [← evM_atoms hf, hasB_mset ⟨h1, h2⟩]
  have : (((pickTo (pickL (atomsB r) us) 12).length : Int) = 0) ↔ (pickTo (pickL (atomsB r) us) 12).length = 0 := by omega
  rw [this, hl]
  constructor
  · intro h x h1 h2 hx
    have h3 := h x h1 h2
    unfold pickL pickF at h3
    rw [hev x h1 h2, hx] at h3
    rw [hasM_maskOf _ _ ⟨h1, h2⟩]
    simpa using h3
  · intro h x h1 h2
    unfold pickL pickF
    rw [hev x h1 h2]
    cases hx : hasM (evM r) x
    · cases hasB us x <;> rfl
    · have := h x h1 h2 hx
      rw [hasM_maskOf _ _ ⟨h1, h2⟩] at this
      rw [this]; rfl
/-- A program of as many atoms, and of these rules. -/
def partD (q : ProgD) (rs : List RuleD) : ProgD := ⟨q.atoms, rs, [], false, [], [], [], []⟩
def botS (us : List Int) (r : RuleD) : Option RuleD := if belB us r then some r else none
theorem botS_yes {us : List Int} {r : RuleD} (h : belB us r = true) : botS us r = some r := if_pos h
theorem botS_no {us : List Int} {r : RuleD} (h : belB us r = false) : botS us r = none := by unfold botS; rw [h]; rfl
def botD (p : ProgD) (us : List Int) : ProgD := if splB p us then partD (foldD p) (leftTo (botS us) (foldD p).rules (foldD p).rules.length) else default
theorem botD_no {p : ProgD} {us : List Int} (h : splB p us = false) : botD p us = default := by simp [botD, h]
theorem botD_yes {p : ProgD} {us : List Int} (h : splB p us = true) : botD p us = partD (foldD p) (leftTo (botS us) (foldD p).rules (foldD p).rules.length) := by simp [botD, h]
theorem splB_fold {p : ProgD} {us : List Int} (h : splB p us = true) : foldB p = true := by
  unfold splB at h
  cases hf : foldB p
  · rw [hf] at h; cases h
  · rfl

/-- The literals whose atom is below. -/
def inU (us : List Int) (q : Int × Int) : Bool := hasB us q.1 || hasB us (-q.1)
def opnTo (us : List Int) (b : List (Int × Int)) (k : Nat) : List (Int × Int) := (b.take k).filter fun q => !inU us q
def askTo (us : List Int) (b : List (Int × Int)) (k : Nat) : List (Int × Int) := (b.take k).filter (inU us)
section
variable {us : List Int} {b : List (Int × Int)} {k : Nat}
theorem filt_yes {α : Type} [Inhabited α] {f : α → Bool} {xs : List α} {k : Nat} (hk : k < xs.length) (h : f (nth xs k) = true) : (xs.take (k + 1)).filter f = (xs.take k).filter f ++ [nth xs k] := by
  rw [List.take_succ_eq_append_getElem hk, List.filter_append, ← nth_eq hk, List.filter_cons, h]; rfl
theorem filt_no {α : Type} [Inhabited α] {f : α → Bool} {xs : List α} {k : Nat} (hk : k < xs.length) (h : f (nth xs k) = false) : (xs.take (k + 1)).filter f = (xs.take k).filter f := by
  rw [List.take_succ_eq_append_getElem hk, List.filter_append, ← nth_eq hk, List.filter_cons, h]; simp
theorem opn_yes (hk : k < b.length) (h : inU us (nth b k) = false) : opnTo us b (k + 1) = opnTo us b k ++ [nth b k] := filt_yes hk (by rw [h]; rfl)
theorem opn_no (hk : k < b.length) (h : inU us (nth b k) = true) : opnTo us b (k + 1) = opnTo us b k := filt_no hk (by rw [h]; rfl)
theorem ask_yes (hk : k < b.length) (h : inU us (nth b k) = true) : askTo us b (k + 1) = askTo us b k ++ [nth b k] := filt_yes hk h
theorem ask_no (hk : k < b.length) (h : inU us (nth b k) = false) : askTo us b (k + 1) = askTo us b k := filt_no hk h
theorem opn_len : (opnTo us b k).length ≤ k := Nat.le_trans (List.length_filter_le _ _) (by rw [List.length_take]; omega)
theorem ask_len : (askTo us b k).length ≤ k := Nat.le_trans (List.length_filter_le _ _) (by rw [List.length_take]; omega)
theorem ask_mem {p : Int × Int} (h : p ∈ askTo us b k) : p ∈ b := List.mem_of_mem_take (List.mem_filter.1 h).1
theorem opn_mem {p : Int × Int} (h : p ∈ opnTo us b k) : p ∈ b := List.mem_of_mem_take (List.mem_filter.1 h).1
end
/-- What the literals that are asked weigh together that hold. -/
def askS (us xs : List Int) (b : List (Int × Int)) (k : Nat) : Int := sumH (fun p => holdsB xs p.1) (askTo us b k)
/-- Does one of them not hold? -/
def askN (us xs : List Int) (b : List (Int × Int)) (k : Nat) : Bool := (askTo us b k).any fun p => !holdsB xs p.1
section
variable {us xs : List Int} {b : List (Int × Int)} {k : Nat}
theorem askS_out (hk : k < b.length) (h : inU us (nth b k) = false) : askS us xs b (k + 1) = askS us xs b k := by unfold askS; rw [ask_no hk h]
theorem askS_yes (hk : k < b.length) (h : inU us (nth b k) = true) (hh : holdsB xs (nth b k).1 = true) : askS us xs b (k + 1) = askS us xs b k + (nth b k).2 := by
  unfold askS; rw [ask_yes hk h, sumH_snoc, if_pos hh]
theorem askS_no (hk : k < b.length) (h : inU us (nth b k) = true) (hh : holdsB xs (nth b k).1 = false) : askS us xs b (k + 1) = askS us xs b k := by
  unfold askS; rw [ask_yes hk h, sumH_snoc, hh]; simp
theorem askN_out (hk : k < b.length) (h : inU us (nth b k) = false) : askN us xs b (k + 1) = askN us xs b k := by unfold askN; rw [ask_no hk h]
theorem askN_in (hk : k < b.length) (h : inU us (nth b k) = true) : askN us xs b (k + 1) = (askN us xs b k || !holdsB xs (nth b k).1) := by
  unfold askN; rw [ask_yes hk h, List.any_append]; simp
theorem askS_bd (hw : ∀ p ∈ b, 1 ≤ p.2 ∧ p.2 ≤ 1000) (hl : b.length ≤ 20) (hk : k ≤ b.length) : 0 ≤ askS us xs b k ∧ askS us xs b k ≤ 20000 := by
  have h1 := sumH_bd (f := fun p => holdsB xs p.1) (l := askTo us b k) fun p hp => hw p (ask_mem hp)
  have h2 := ask_len (us := us) (b := b) (k := k)
  unfold askS
  omega
end
def topS (us xs : List Int) (r : RuleD) : Option RuleD :=
  if belB us r then none
  else if r.weight then
    (if r.bound ≤ askS us xs r.body r.body.length then some { r with weight := false, bound := 0, body := [] }
    else some { r with bound := r.bound - askS us xs r.body r.body.length, body := opnTo us r.body r.body.length })
  else if askN us xs r.body r.body.length then none
  else some { r with body := opnTo us r.body r.body.length }
section
variable {us xs : List Int} {r : RuleD}
theorem topS_bel (h : belB us r = true) : topS us xs r = none := if_pos h
theorem topS_wY (h : belB us r = false) (hw : r.weight = true) (hb : r.bound ≤ askS us xs r.body r.body.length) : topS us xs r = some { r with weight := false, bound := 0, body := [] } := by
  unfold topS; rw [h, hw, if_neg (by simp), if_pos rfl, if_pos hb]
theorem topS_wN (h : belB us r = false) (hw : r.weight = true) (hb : ¬ r.bound ≤ askS us xs r.body r.body.length) : topS us xs r = some { r with bound := r.bound - askS us xs r.body r.body.length, body := opnTo us r.body r.body.length } := by
  unfold topS; rw [h, hw, if_neg (by simp), if_pos rfl, if_neg hb]
theorem topS_N (h : belB us r = false) (hw : r.weight = false) (hb : askN us xs r.body r.body.length = true) : topS us xs r = none := by
  unfold topS; rw [h, hw, hb]; simp
theorem topS_Y (h : belB us r = false) (hw : r.weight = false) (hb : askN us xs r.body r.body.length = false) : topS us xs r = some { r with body := opnTo us r.body r.body.length } := by
  unfold topS; rw [h, hw, hb]; simp
end
def topD (p : ProgD) (us xs : List Int) : ProgD := if splB p us then partD (foldD p) (leftTo (topS us xs) (foldD p).rules (foldD p).rules.length) else default
theorem topD_no {p : ProgD} {us xs : List Int} (h : splB p us = false) : topD p us xs = default := by simp [topD, h]
theorem topD_yes {p : ProgD} {us xs : List Int} (h : splB p us = true) : topD p us xs = partD (foldD p) (leftTo (topS us xs) (foldD p).rules (foldD p).rules.length) := by simp [topD, h]
/-- What the program asks: the sum of what is asked, by a mask. -/
theorem ask_sum {us xs : List Int} {b : List (Int × Int)} {k : Nat} (hf : ∀ p ∈ b, Fits p.1) : sumH (fun p => litW (maskOf xs) (maskOf xs) p.1) (askTo us b k) = askS us xs b k := by
  refine sumH_congr fun p hp => ?_
  have : litW (maskOf xs) (maskOf xs) p.1 = litM (maskOf xs) p.1 := by unfold litW; split <;> rfl
  rw [this, litM_same xs p.1 (hf p (ask_mem hp))]
theorem ask_all {us xs : List Int} {b : List (Int × Int)} {k : Nat} (hw : ∀ p ∈ b, p.2 = 1) : (askS us xs b k == ((askTo us b k).length : Int)) = !askN us xs b k := by
  obtain ⟨h1, h2⟩ := sumH_ones (f := fun p => holdsB xs p.1) (l := askTo us b k) fun p hp => hw p (ask_mem hp)
  have h3 : askN us xs b k = !(askTo us b k).all fun p => holdsB xs p.1 := by
    unfold askN; rw [List.all_eq_not_any_not, Bool.not_not]
  rw [h3, Bool.not_not, Bool.eq_iff_iff, beq_iff_eq, ← h2]
  unfold askS
  omega
/-- An atom of a literal is below. -/
theorem inU_mask {us : List Int} {q : Int × Int} (h : (1 ≤ q.1 ∧ q.1 ≤ 12) ∨ (-12 ≤ q.1 ∧ q.1 ≤ -1)) (hu : IsP us) : inU us q = hasM (maskOf us) (atomI q.1) := by
  have hn : ∀ x : Int, x < 1 → hasB us x = false := fun x hx => by
    unfold hasB
    rw [decide_eq_false_iff_not]
    intro hm
    rw [hu] at hm
    have := (mem_pickTo _ _ _).1 hm
    omega
  unfold inU
  rcases h with h | h
  · rw [hn (-q.1) (by omega), Bool.or_false, show atomI q.1 = q.1 by unfold atomI; rw [if_neg (by omega), if_neg (by omega)], hasM_maskOf _ _ h]
  · rw [hn q.1 (by omega), Bool.false_or, show atomI q.1 = -q.1 by unfold atomI; rw [if_neg (by omega), if_pos (by omega)], hasM_maskOf _ _ (by omega)]

end Go.Proofs.YthikhkeofcjdfaaGreat
