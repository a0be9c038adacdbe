/-
 spec.l02Copy: what it answers. No condition of its own.
-/
import Derived.Test.YthikhkeofcjdfaaGreatCopyL
import Derived.Deep.RegionHeld3
import Derived.Deep.RegionWith
namespace Go.Proofs.YthikhkeofcjdfaaGreat
set_option linter.unusedVariables false
set_option linter.unusedSimpArgs false
open Go.RowKit
set_option maxRecDepth 100000

theorem wpAnyH_cap {P : Program} {md : Region.Mode} {ops : Array Oper} {Q : Exit → Act → World → Prop} {S : World → Prop} {fuel : Nat} {listed : Array Bool} {a : Act} {w : World}
  (h : ∀ F : Nat → Array Bool → Act → World → Prop, F = wpAnyH P md ops Q S → F fuel listed a w) : wpAnyH P md ops Q S fuel listed a w := h _ rfl
theorem cap_use {F G : Nat → Array Bool → Act → World → Prop} (h : F = G) {n : Nat} {l : Array Bool} {a : Act} {w : World} (k : F n l a w) : G n l a w := h ▸ k

def zsP : Array Value := #[.int .i64 0, .slice none 0 0, .slice none 0 0, .bool false, .slice none 0 0, .slice none 0 0, .slice none 0 0, .slice none 0 0]
def actL (h : Nat) (p : ProgD) (c1 c2 c4 c5 c6 c7 v11 v14 v15 v18 v19 v22 v3 v23 : Value) : Act := { tmps := #[.agg #[.int .i64 p.atoms, c1, c2, .bool p.projOn, c4, c5, c6, c7], .pointer (some ⟨h, 0, none⟩), .pointer (some ⟨h + 1, 0, none⟩), v3, undef, undef, undef, .pointer (some ⟨h, 0, none⟩), .int .i64 p.atoms, .pointer (some ⟨h, 3, none⟩), .bool p.projOn, v11, .pointer (some ⟨h, 4, none⟩), c4, v14, v15, .pointer (some ⟨h, 6, none⟩), c6, v18, v19, .pointer (some ⟨h, 7, none⟩), c7, v22, v23, undef, undef, undef, undef, undef, undef, undef, undef, undef, undef, undef, undef, undef, undef, undef, undef, undef, undef, undef, undef, undef, undef, undef, undef, undef, undef, undef, undef, undef, undef, undef, undef, undef, undef, undef, undef, undef, undef, undef, undef, undef, undef, undef, undef, undef, undef, undef, undef, undef, undef, undef, undef, undef, undef, undef, undef, undef, undef, undef, undef, undef, undef, undef, undef, undef, undef, undef, undef, undef, undef, undef, undef, undef], defers := [] }


/-- Behind the region: the struct's own variable in block gp. -/
def CE (lo : Nat) (W0 : World) (p : ProgD) (gp : Nat) (v14 v18 v22 : Value) (w : World) : Prop :=
 ∃ F1 F2 F3, OwL w [v14] p.project F1 ∧ OwL w [v18] p.exts F2 ∧ OwL w [v22] p.assume F3 ∧ Apart lo w F1 F2 F3 [gp] ∧ w.heap[gp]? = some (.cells #[.int .i64 p.atoms, .slice none 0 0, .slice none 0 0, .bool p.projOn, v14, .slice none 0 0, v18, v22] 30 (0, 0)) ∧ Below lo W0 w ∧ lo ≤ w.heap.size
theorem CF.stored {lo : Nat} {W0 : World} {p : ProgD} {v11 v14 v15 v18 v19 v22 v3 : Value} {w : World} (h : CF lo W0 p zsP 2 2 2 1 v11 v14 v15 v18 v19 v22 v3 w) :
  ∃ gp, v3 = .pointer (some ⟨gp, 0, none⟩) ∧ w.heap[gp]? = some (.cells zsP 30 (0, 0)) ∧ lo ≤ gp ∧ CE lo W0 p gp v14 v18 v22 (put w gp 0 [.int .i64 p.atoms, .slice none 0 0, .slice none 0 0, .bool p.projOn, v14, .slice none 0 0, v18, v22]) := by
 obtain ⟨F1, F2, F3, F4, i1, i2, i3, i4, ha, hb, hl⟩ := h
 obtain ⟨gp, rfl, hh, rfl⟩ := i4
 have hg := ha.b4 gp (by simp)
 have hc := put_chg gp [.int .i64 p.atoms, .slice none 0 0, .slice none 0 0, .bool p.projOn, v14, .slice none 0 0, v18, v22] w 0
 have hk : ∀ {F : List Nat}, (∀ g, g ∈ F → g ∈ [gp] → False) → ∀ g ∈ F, (put w gp 0 [.int .i64 p.atoms, .slice none 0 0, .slice none 0 0, .bool p.projOn, v14, .slice none 0 0, v18, v22]).heap[g]? = w.heap[g]? := fun hd g hgm => hc.block g fun hx => hd g hgm hx
 obtain ⟨cur', h1, h2, h3⟩ := put_block gp 30 [.int .i64 p.atoms, .slice none 0 0, .slice none 0 0, .bool p.projOn, v14, .slice none 0 0, v18, v22] w 0 zsP hh (by simp [zsP])
 have hcur : cur' = #[.int .i64 p.atoms, .slice none 0 0, .slice none 0 0, .bool p.projOn, v14, .slice none 0 0, v18, v22] := by
  apply Array.ext
  ·rw [h2]; rfl
  ·intro i hi1 hi2
   have := h3 i
   simp at hi2
   rw [if_pos (by simp; omega), Array.getElem?_eq_getElem hi1] at this
   rw [Nat.sub_zero] at this
   apply Option.some.inj
   rw [this]
   simp
 rw [hcur] at h1
 have hsz := hc.size
 refine ⟨gp, rfl, hh, hg.1, F1, F2, F3, Ow.kept (α := List Int) i1 (hk ha.d14), Ow.kept (α := List (Int × Int)) i2 (hk ha.d24), Ow.kept (α := List Int) i3 (hk ha.d34), ?_, h1, ?_, by omega⟩
 ·exact ⟨ha.d12, ha.d13, ha.d14, ha.d23, ha.d24, ha.d34, fun g h => by rw [hsz]; exact ha.b1 g h, fun g h => by rw [hsz]; exact ha.b2 g h, fun g h => by rw [hsz]; exact ha.b3 g h, fun g h => by rw [hsz]; exact ha.b4 g h⟩
 ·exact hb.trans (hc.below fun g h => by simp at h; omega)
theorem CF.forms {lo : Nat} {W0 : World} {p : ProgD} {q4 : Nat} {zs : Array Value} {v11 v14 v15 v18 v19 v22 v3 : Value} {w : World} (h : CF lo W0 p zs 2 2 2 q4 v11 v14 v15 v18 v19 v22 v3 w) :
  ∃ a1 n1 a2 n2 a3 n3, v14 = .slice a1 p.project.length n1 ∧ v18 = .slice a2 p.exts.length n2 ∧ v22 = .slice a3 p.assume.length n3 := by
 obtain ⟨F1, F2, F3, F4, i1, i2, i3, i4, ha, hb, hl⟩ := h
 obtain ⟨a1, n1, e1, _⟩ := (OwL.rd (α := Int) i1).sl
 obtain ⟨a2, n2, e2, _⟩ := (OwL.rd (α := Int × Int) i2).sl
 obtain ⟨a3, n3, e3, _⟩ := (OwL.rd (α := Int) i3).sl
 exact ⟨a1, n1, a2, n2, a3, n3, e1, e2, e3⟩

/-- Below B nothing has been written but in block g. -/
structure BelX (B g : Nat) (w w' : World) : Prop where
 os : w'.os = w.os
 tape : w'.tape = w.tape
 output : w'.output = w.output
 size : w.heap.size ≤ w'.heap.size
 block : ∀ k, k < B → k ≠ g → w'.heap[k]? = w.heap[k]?
theorem BelX.refl (B g : Nat) (w : World) : BelX B g w w := ⟨rfl, rfl, rfl, Nat.le_refl _, fun _ _ _ => rfl⟩
theorem BelX.step {B g : Nat} {w w' w'' : World} (h : BelX B g w w') (k : Below B w' w'') : BelX B g w w'' := ⟨k.os.trans h.os, k.tape.trans h.tape, k.output.trans h.output, Nat.le_trans h.size k.size, fun j h1 h2 => (k.block j h1).trans (h.block j h1 h2)⟩
theorem BelX.set {B g : Nat} {w w' : World} (h : BelX B g w w') (o : Nat) (v : Value) : BelX B g w (w'.setCell ⟨g, o, none⟩ v) := ⟨h.os, h.tape, h.output, by simp [World.setCell]; exact h.size, fun j h1 h2 => (Below.heap_setCell _ _ _ _ h2).trans (h.block j h1 h2)⟩
theorem BelX.below {B g lo : Nat} {w w' : World} (h : BelX B g w w') (h1 : lo ≤ B) (h2 : lo ≤ g) : Below lo w w' := ⟨h.os, h.tape, h.output, h.size, fun j hj => h.block j (by omega) (by omega)⟩
theorem OwnR.ge {α : Type} [Ow α] {B : Nat} {e : TypeId} {w : World} {v : Value} {xs : List α} (h : OwnR B e w v xs) {k : Nat} (hk : v.ownBlock = some k) : B ≤ k := by
 obtain ⟨ys, fps, hr, _⟩ := h
 exact (hr.lt k hk).1

theorem nodup_five {f2 f4 f5 f6 f7 : List Nat} (n2 : f2.Nodup) (n4 : f4.Nodup) (n5 : f5.Nodup) (n6 : f6.Nodup) (n7 : f7.Nodup)
  (d24 : ∀ g, g ∈ f2 → g ∈ f4 → False) (d25 : ∀ g, g ∈ f2 → g ∈ f5 → False) (d26 : ∀ g, g ∈ f2 → g ∈ f6 → False) (d27 : ∀ g, g ∈ f2 → g ∈ f7 → False)
  (d45 : ∀ g, g ∈ f4 → g ∈ f5 → False) (d46 : ∀ g, g ∈ f4 → g ∈ f6 → False) (d47 : ∀ g, g ∈ f4 → g ∈ f7 → False) (d56 : ∀ g, g ∈ f5 → g ∈ f6 → False) (d57 : ∀ g, g ∈ f5 → g ∈ f7 → False) (d67 : ∀ g, g ∈ f6 → g ∈ f7 → False) :
  (f2 ++ (f4 ++ (f5 ++ (f6 ++ f7)))).Nodup := by
 have m6 : (f6 ++ f7).Nodup := List.nodup_append.2 ⟨n6, n7, fun a ha b hb e => d67 a ha (e ▸ hb)⟩
 have m5 : (f5 ++ (f6 ++ f7)).Nodup := List.nodup_append.2 ⟨n5, m6, fun a ha b hb e => by
  subst e
  rcases List.mem_append.1 hb with hb | hb
  ·exact d56 a ha hb
  ·exact d57 a ha hb⟩
 have m4 : (f4 ++ (f5 ++ (f6 ++ f7))).Nodup := List.nodup_append.2 ⟨n4, m5, fun a ha b hb e => by
  subst e
  rcases List.mem_append.1 hb with hb | hb
  ·exact d45 a ha hb
  ·rcases List.mem_append.1 hb with hb | hb
   ·exact d46 a ha hb
   ·exact d47 a ha hb⟩
 exact List.nodup_append.2 ⟨n2, m4, fun a ha b hb e => by
  subst e
  rcases List.mem_append.1 hb with hb | hb
  ·exact d24 a ha hb
  ·rcases List.mem_append.1 hb with hb | hb
   ·exact d25 a ha hb
   ·rcases List.mem_append.1 hb with hb | hb
    ·exact d26 a ha hb
    ·exact d27 a ha hb⟩

theorem takeD {P : Program} {ops : Array Oper} {Q : Exit → Act → World → Prop} {md : Region.Mode} {S : World → Prop} {i : Nat} {oi : Oper} {v : Value} (d : Option Tmp) {fuel : Nat} {listed : Array Bool} {a : Act} {w : World} (hi : ops[i]? = some oi) (hd : oi.dst = d)
  (hs : Region.noSelect ops = true) (hf : Region.free md ops listed i = true) (hr : (Region.ready md ops listed).contains i = true)
  (hQ : ∀ c a w, Q (.panic c) (a.put oi.dst v) w → Q (.panic c) a w) (hy : YieldsIf P ops S oi v a) (hS : S w)
  (h : wpAnyH P md ops Q S fuel (listed.setIfInBounds i true) (a.put d v) w) : wpAnyH P md ops Q S (fuel + 1) listed a w := by
 subst hd
 exact wpAnyH_take hi hs hf hr hQ hy hS h
set_option maxHeartbeats 8000000 in
theorem l02Copy_calls {cs : List Value} {p : ProgD} {w : World} (hRd : Rd.R w cs p) (hs : SzP p) :
  Calls Tryz.prog 91 #[.agg cs.toArray] w fun e w' => ∃ c1 c2 c4 c5 c6 c7 D, e = .returned (.agg #[.int .i64 p.atoms, c1, c2, .bool p.projOn, c4, c5, c6, c7]) ∧ OwnPR w.heap.size w'.heap.size D w' c1 c2 c4 c5 c6 c7 p ∧ (∀ f, D f → f < w'.heap.size) ∧ Below w.heap.size w w' := by
 obtain ⟨i1, hi1, hz10, hz11, hz12⟩ := info_parts info_cloneInt
 obtain ⟨i2, hi2, hz20, hz21, hz22⟩ := info_parts info_cloneExt
 obtain ⟨i3, hi3, hz30, hz31, hz32⟩ := info_parts info_copiesRule
 obtain ⟨i4, hi4, hz40, hz41, hz42⟩ := info_parts info_copiesLevel
 obtain ⟨i5, hi5, hz50, hz51, hz52⟩ := info_parts info_copiesShow
 obtain ⟨i6, hi6, hz60, hz61, hz62⟩ := info_parts info_cloneWLit
 obtain ⟨c1, c2, c4, c5, c6, c7, rfl, hf, g1, g2, g4, g5, g6, g7⟩ := hRd
 have HF := Lib.hid hf
 obtain ⟨s1, s2, s4, s5, s6, s7⟩ := hs
 have o4 := sto Tryz.prog g4.one1
 have o6 := sto Tryz.prog g6.one1
 have o7 := sto Tryz.prog g7.one1
 clear hf
 go_enter Tryz.func91, Tryz.ntmps91
 go_wp2
 have tW := ((Below.refl w.heap.size w).alloc (Nat.le_refl _) (.cells #[.int .i64 p.atoms, c1, c2, .bool p.projOn, c4, c5, c6, c7] 30)).alloc (by simp) (.cells #[.int .i64 0, .slice none 0 0, .slice none 0 0, .bool false, .slice none 0 0, .slice none 0 0, .slice none 0 0, .slice none 0 0] 30)
 have X := (Cells.new w [.int .i64 p.atoms, c1, c2, .bool p.projOn, c4, c5, c6, c7] 30).alloc (.cells #[.int .i64 0, .slice none 0 0, .slice none 0 0, .bool false, .slice none 0 0, .slice none 0 0, .slice none 0 0, .slice none 0 0] 30)
 have hR := alloc_block (w.alloc (.cells #[.int .i64 p.atoms, c1, c2, .bool p.projOn, c4, c5, c6, c7] 30)) #[.int .i64 0, .slice none 0 0, .slice none 0 0, .bool false, .slice none 0 0, .slice none 0 0, .slice none 0 0, .slice none 0 0] 30
 rw [World.size_alloc] at hR
 have hsW : ((w.alloc (.cells #[.int .i64 p.atoms, c1, c2, .bool p.projOn, c4, c5, c6, c7] 30)).alloc (.cells #[.int .i64 0, .slice none 0 0, .slice none 0 0, .bool false, .slice none 0 0, .slice none 0 0, .slice none 0 0, .slice none 0 0] 30)).heap.size = w.heap.size + 1 + 1 := by rw [World.size_alloc, World.size_alloc]
 generalize ((w.alloc (.cells #[.int .i64 p.atoms, c1, c2, .bool p.projOn, c4, c5, c6, c7] 30)).alloc (.cells #[.int .i64 0, .slice none 0 0, .slice none 0 0, .bool false, .slice none 0 0, .slice none 0 0, .slice none 0 0, .slice none 0 0] 30)) = W0 at tW X hR hsW ⊢
 obtain ⟨h, hh⟩ : ∃ h, h = w.heap.size := ⟨_, rfl⟩
 obtain ⟨lo, hlo⟩ : ∃ lo, lo = h + 1 + 1 := ⟨_, rfl⟩
 rw [← hh] at X hR hsW ⊢
 rw [← hlo] at hsW
 have HR := Lib.hid hR
 have keepS : ∀ w', Below lo W0 w' → (w'.cell? ⟨h, 0, none⟩ = some (.int .i64 p.atoms) ∧ w'.cell? ⟨h, 3, none⟩ = some (.bool p.projOn) ∧ w'.cell? ⟨h, 4, none⟩ = some c4 ∧ w'.cell? ⟨h, 6, none⟩ = some c6 ∧ w'.cell? ⟨h, 7, none⟩ = some c7) := fun w' hb => by
  obtain ⟨y0, y1, y2, y3, y4, y5, y6, y7⟩ := cells8 (X.blw hb (by omega))
  exact ⟨y0, y3, y4, y6, y7⟩
 have g1' := Rd.mono (α := List RuleD) tW g1
 have g2' := Rd.mono (α := List LevelD) tW g2
 have g5' := Rd.mono (α := List ShowD) tW g5
 have g4' := Rd.mono (α := List Int) tW g4
 have g6' := Rd.mono (α := List (Int × Int)) tW g6
 have g7' := Rd.mono (α := List Int) tW g7
 have hA1 := fun {q2 q3 q4 v11 v14 v15 v18 v19 v22 v3 w} (hc : CF lo W0 p zsP 1 q2 q3 q4 v11 v14 v15 v18 v19 v22 v3 w) => hc.a1 (P := Tryz.prog) (t := 26) (ty := 26) i1 _ 8 Tryz.underlying26 hi1 hz10 hz11 hz12 rfl g4' (by omega) (by omega) (by omega)
 have hA2 := fun {q1 q3 q4 v11 v14 v15 v18 v19 v22 v3 w} (hc : CF lo W0 p zsP q1 1 q3 q4 v11 v14 v15 v18 v19 v22 v3 w) => hc.a2 (P := Tryz.prog) (t := 28) (ty := 28) i2 _ 16 Tryz.underlying28 hi2 hz20 hz21 hz22 rfl g6' (by omega) (by omega) (by omega)
 have hA3 := fun {q1 q2 q4 v11 v14 v15 v18 v19 v22 v3 w} (hc : CF lo W0 p zsP q1 q2 1 q4 v11 v14 v15 v18 v19 v22 v3 w) => hc.a3 (P := Tryz.prog) (t := 26) (ty := 26) i1 _ 8 Tryz.underlying26 hi1 hz10 hz11 hz12 rfl g7' (by omega) (by omega) (by omega)
 have hC0 : CF lo W0 p zsP 0 0 0 0 undef undef undef undef undef undef undef W0.drew := by
  refine CF.drew ⟨[], [], [], [], rfl, rfl, rfl, rfl, ⟨by simp, by simp, by simp, by simp, by simp, by simp, by simp, by simp, by simp, by simp⟩, Below.refl _ _, by omega⟩
 have hW0 : W0.heap.size ≤ lo := by omega
 have hhl : h < lo := by omega
 have hhl1 : h + 1 < lo := by omega
 have hwh : w.heap.size ≤ h := by omega
 have HH := Lib.hid hh
 have HLO := Lib.hid hlo
 have HW := Lib.hid hsW
 clear hh hlo hsW hR
 refine wp_region_held_drew (S := fun w' => w'.cell? ⟨h, 0, none⟩ = some (.int .i64 p.atoms) ∧ w'.cell? ⟨h, 3, none⟩ = some (.bool p.projOn) ∧ w'.cell? ⟨h, 4, none⟩ = some c4 ∧ w'.cell? ⟨h, 6, none⟩ = some c6 ∧ w'.cell? ⟨h, 7, none⟩ = some c7) (by kernel_rfl) (keepS _ hC0.below) (fun hHeld => ?_)
 refine takeD (i := 0) (v := .pointer (some ⟨h, 0, none⟩)) (some 7) rfl rfl (by kernel_rfl) (by kernel_rfl) (by kernel_rfl) (fun _ _ _ h => h) (Or.inl ⟨by rfl, fun w' hw' => ?_⟩) hHeld ?_
 ·first | (go_simp; done) | (obtain ⟨s0, s1, s2, s3, s4⟩ := hw'; go_simp)
 try simp only [Act.put, put1, put2, put3]
 refine takeD (i := 1) (v := .int .i64 p.atoms) (some 8) rfl rfl (by kernel_rfl) (by kernel_rfl) (by kernel_rfl) (fun _ _ _ h => h) (Or.inl ⟨by rfl, fun w' hw' => ?_⟩) hHeld ?_
 ·first | (go_simp; done) | (obtain ⟨s0, s1, s2, s3, s4⟩ := hw'; go_simp)
 try simp only [Act.put, put1, put2, put3]
 refine takeD (i := 2) (v := .pointer (some ⟨h, 3, none⟩)) (some 9) rfl rfl (by kernel_rfl) (by kernel_rfl) (by kernel_rfl) (fun _ _ _ h => h) (Or.inl ⟨by rfl, fun w' hw' => ?_⟩) hHeld ?_
 ·first | (go_simp; done) | (obtain ⟨s0, s1, s2, s3, s4⟩ := hw'; go_simp)
 try simp only [Act.put, put1, put2, put3]
 refine takeD (i := 3) (v := .bool p.projOn) (some 10) rfl rfl (by kernel_rfl) (by kernel_rfl) (by kernel_rfl) (fun _ _ _ h => h) (Or.inl ⟨by rfl, fun w' hw' => ?_⟩) hHeld ?_
 ·first | (go_simp; done) | (obtain ⟨s0, s1, s2, s3, s4⟩ := hw'; go_simp)
 try simp only [Act.put, put1, put2, put3]
 refine takeD (i := 5) (v := .pointer (some ⟨h, 4, none⟩)) (some 12) rfl rfl (by kernel_rfl) (by kernel_rfl) (by kernel_rfl) (fun _ _ _ h => h) (Or.inl ⟨by rfl, fun w' hw' => ?_⟩) hHeld ?_
 ·first | (go_simp; done) | (obtain ⟨s0, s1, s2, s3, s4⟩ := hw'; go_simp)
 try simp only [Act.put, put1, put2, put3]
 refine takeD (i := 6) (v := c4) (some 13) rfl rfl (by kernel_rfl) (by kernel_rfl) (by kernel_rfl) (fun _ _ _ h => h) (Or.inl ⟨by rfl, fun w' hw' => ?_⟩) hHeld ?_
 ·first | (go_simp; done) | (obtain ⟨s0, s1, s2, s3, s4⟩ := hw'; go_simp)
 try simp only [Act.put, put1, put2, put3]
 refine takeD (i := 9) (v := .pointer (some ⟨h, 6, none⟩)) (some 16) rfl rfl (by kernel_rfl) (by kernel_rfl) (by kernel_rfl) (fun _ _ _ h => h) (Or.inl ⟨by rfl, fun w' hw' => ?_⟩) hHeld ?_
 ·first | (go_simp; done) | (obtain ⟨s0, s1, s2, s3, s4⟩ := hw'; go_simp)
 try simp only [Act.put, put1, put2, put3]
 refine takeD (i := 10) (v := c6) (some 17) rfl rfl (by kernel_rfl) (by kernel_rfl) (by kernel_rfl) (fun _ _ _ h => h) (Or.inl ⟨by rfl, fun w' hw' => ?_⟩) hHeld ?_
 ·first | (go_simp; done) | (obtain ⟨s0, s1, s2, s3, s4⟩ := hw'; go_simp)
 try simp only [Act.put, put1, put2, put3]
 refine takeD (i := 13) (v := .pointer (some ⟨h, 7, none⟩)) (some 20) rfl rfl (by kernel_rfl) (by kernel_rfl) (by kernel_rfl) (fun _ _ _ h => h) (Or.inl ⟨by rfl, fun w' hw' => ?_⟩) hHeld ?_
 ·first | (go_simp; done) | (obtain ⟨s0, s1, s2, s3, s4⟩ := hw'; go_simp)
 try simp only [Act.put, put1, put2, put3]
 refine takeD (i := 14) (v := c7) (some 21) rfl rfl (by kernel_rfl) (by kernel_rfl) (by kernel_rfl) (fun _ _ _ h => h) (Or.inl ⟨by rfl, fun w' hw' => ?_⟩) hHeld ?_
 ·first | (go_simp; done) | (obtain ⟨s0, s1, s2, s3, s4⟩ := hw'; go_simp)
 try simp only [Act.put, put1, put2, put3]
 refine wpAnyH_cap (fun F hF => ?_)
 have fin : ∀ (v11 v15 v19 : Value) (a1 : Option Addr) (n1 : Nat) (a2 : Option Addr) (n2 : Nat) (a3 : Option Addr) (n3 : Nat) (v3 : Value) (w : World), CF lo W0 p zsP 2 2 2 1 v11 (.slice a1 p.project.length n1) v15 (.slice a2 p.exts.length n2) v19 (.slice a3 p.assume.length n3) v3 w →
   F 1 #[true, true, true, true, true, true, true, true, true, true, true, true, true, true, true, true, true, true, false] (actL h p c1 c2 c4 c5 c6 c7 v11 (.slice a1 p.project.length n1) v15 (.slice a2 p.exts.length n2) v19 (.slice a3 p.assume.length n3) v3 (.agg #[.int .i64 p.atoms, .slice none 0 0, .slice none 0 0, .bool p.projOn, .slice a1 p.project.length n1, .slice none 0 0, .slice a2 p.exts.length n2, .slice a3 p.assume.length n3])) w := by
  intro v11 v15 v19 a1 n1 a2 n2 a3 n3 v3 wf hCF
  obtain ⟨gp, rfl, hgp, hlg, hCE⟩ := hCF.stored
  have hfz := fun j => frozen_of_row wf gp j _ _ hgp
  have CZ : Cells wf gp 0 [.int .i64 0, .slice none 0 0, .slice none 0 0, .bool false, .slice none 0 0, .slice none 0 0, .slice none 0 0, .slice none 0 0] := fun j v hv => by
   rw [Nat.zero_add, cell_of_row wf gp j _ _ _ hgp]; simpa [zsP] using hv
  obtain ⟨z0, z1, z2, z3, z4, z5, z6, z7⟩ := cells8 CZ
  clear CZ
  refine cap_use hF.symm ?_
  unfold actL
  refine wpAnyH_ready (rs := [18]) (by kernel_rfl) (by simp) ?_
  refine AllReadyH.cons rfl (fun K hK => ?_) AllReadyH.nil
  go_simp
  refine hK.out _ (put wf gp 0 [.int .i64 p.atoms, .slice none 0 0, .slice none 0 0, .bool p.projOn, .slice a1 p.project.length n1, .slice none 0 0, .slice a2 p.exts.length n2, .slice a3 p.assume.length n3]) (keepS _ (by obtain ⟨_, _, _, _, _, _, _, _, hb, _⟩ := hCE; exact hb)) (fun _ => ?_)
  generalize put wf gp 0 [.int .i64 p.atoms, .slice none 0 0, .slice none 0 0, .bool p.projOn, .slice a1 p.project.length n1, .slice none 0 0, .slice a2 p.exts.length n2, .slice a3 p.assume.length n3] = w1 at hCE ⊢
  clear z0 z1 z2 z3 z4 z5 z6 z7 hK K hfz hgp hCF hA1 hA2 hA3 hHeld
  refine wpAnyH_done (by kernel_rfl) ?_ _
  obtain ⟨F1, F2, F3, q1, q2, q3, hap, HG, hb1, hl1⟩ := hCE
  have hgl : gp < w1.heap.size := block_lt HG
  obtain ⟨ar, kr, rfl, _, hrow1⟩ := g1'.sl
  obtain ⟨al, kl, rfl, _, hrow2⟩ := g2'.sl
  obtain ⟨aS, kS, rfl, _, hrow5⟩ := g5'.sl
  have cellR : ∀ {W : World} {x0 x1 x2 x3 x4 x5 x6 x7 : Value}, W.heap[gp]? = some (.cells #[x0, x1, x2, x3, x4, x5, x6, x7] 30 (0, 0)) → W.cell? ⟨gp, 1, none⟩ = some x1 := fun {W} _ _ _ _ _ _ _ _ hh => by rw [cell_of_row W gp 1 _ _ _ hh]; rfl
  have cell2 : ∀ {W : World} {x0 x1 x2 x3 x4 x5 x6 x7 : Value}, W.heap[gp]? = some (.cells #[x0, x1, x2, x3, x4, x5, x6, x7] 30 (0, 0)) → W.cell? ⟨gp, 2, none⟩ = some x2 := fun {W} _ _ _ _ _ _ _ _ hh => by rw [cell_of_row W gp 2 _ _ _ hh]; rfl
  have cell5 : ∀ {W : World} {x0 x1 x2 x3 x4 x5 x6 x7 : Value}, W.heap[gp]? = some (.cells #[x0, x1, x2, x3, x4, x5, x6, x7] 30 (0, 0)) → W.cell? ⟨gp, 5, none⟩ = some x5 := fun {W} _ _ _ _ _ _ _ _ hh => by rw [cell_of_row W gp 5 _ _ _ hh]; rfl
  have hm1 := hrow1.1
  have hm2 := hrow2.1
  have hm5 := hrow5.1
  have hcx := X.blw hb1 hhl
  obtain ⟨y0, y1, y2, y3, y4, y5, y6, y7⟩ := cells8 hcx
  go_wp2
  clear y0 y1 y2 y3 y4 y5 y6 y7
  have ho0 : OwnR (α := RuleD) w1.heap.size 34 w1 (.slice none 0 0) (p.rules.take 0) := OwnR.nil _ _ _
  go_loopw [4] (fun i wr => ∃ (k : Nat) (vR : Value), k ≤ p.rules.length ∧ i = .int .i64 k ∧ OwnR w1.heap.size 34 wr vR (p.rules.take k) ∧ wr.heap[gp]? = some (.cells #[.int .i64 p.atoms, vR, .slice none 0 0, .bool p.projOn, .slice a1 p.project.length n1, .slice none 0 0, .slice a2 p.exts.length n2, .slice a3 p.assume.length n3] 30 (0, 0)) ∧ BelX w1.heap.size gp w1 wr) (fun i _ => p.rules.length - (intOf i).toNat)
  case atStart => exact ⟨0, _, Nat.zero_le _, rfl, ho0, HG, BelX.refl _ _ _⟩
  case round =>
   obtain ⟨k, vR, hk, rfl, ho, hG, hX⟩ := hrel
   clear ho0
   have hbw := hb1.trans (hX.below hl1 hlg)
   have hcx := X.blw hbw hhl
   obtain ⟨y0, y1, y2, y3, y4, y5, y6, y7⟩ := cells8 hcx
   have hsz := hX.size
   by_cases hlt : k < p.rules.length
   ·obtain ⟨b, off, rfl, hc⟩ := hrow1.base (by omega)
    obtain ⟨ecs, hC0, hRd⟩ := hc k hlt
    have hbW := hbw.mono hW0
    have hRd := Rd.mono hbW hRd
    obtain ⟨e0, e1, e2, e3, e4, rfl⟩ := list5 (Rd.len hRd)
    have hbl : b < lo := by have := hC0.lt; omega
    rw [show Rd.k RuleD = 5 from rfl] at hC0
    have keep1 : ∀ w', Below lo W0 w' → (w'.cell? ⟨h, 1, none⟩ = some (.slice (some ⟨b, off, none⟩) p.rules.length kr) ∧ w'.cell? ⟨b, off + k * 5, none⟩ = some e0 ∧ w'.cell? ⟨b, off + k * 5 + 1, none⟩ = some e1 ∧ w'.cell? ⟨b, off + k * 5 + 2, none⟩ = some e2 ∧ w'.cell? ⟨b, off + k * 5 + 3, none⟩ = some e3 ∧ w'.cell? ⟨b, off + k * 5 + 4, none⟩ = some e4) := fun w' hb => by
     obtain ⟨_, q, _⟩ := cells8 (X.blw hb hhl)
     have C := hC0.blw hb hbl
     exact ⟨q, C.c0, C.c1, C.c2, C.c3, C.c4⟩
    have hsm := s1.2 _ (nth_mem hlt)
    have htk := Lib.hid (take_nth hlt)
    have htl : (p.rules.take k).length = k := by rw [List.length_take]; omega
    have hln : Hid ((p.rules.take k ++ [nth p.rules k]).length = k + 1) := by show _ = _; rw [List.length_append, htl]; rfl
    have hkn : (0 : Int) ≤ (k : Int) := by omega
    have hkl : (k : Int) < (p.rules.length : Int) := by omega
    have B0 := hbw.drew
    have ho' := ho.later (Below.refl _ _).drew
    have hRd' := Rd.mono (Below.refl _ _).drew hRd
    have hls : lo ≤ wr.heap.size := by omega
    have s1l := s1.1
    have f2 := cellR hG
    clear hC0 hc hRd
    go_wp2
    refine wp_region_held_drew (S := fun w' => w'.cell? ⟨h, 1, none⟩ = some (.slice (some ⟨b, off, none⟩) p.rules.length kr) ∧ w'.cell? ⟨b, off + k * 5, none⟩ = some e0 ∧ w'.cell? ⟨b, off + k * 5 + 1, none⟩ = some e1 ∧ w'.cell? ⟨b, off + k * 5 + 2, none⟩ = some e2 ∧ w'.cell? ⟨b, off + k * 5 + 3, none⟩ = some e3 ∧ w'.cell? ⟨b, off + k * 5 + 4, none⟩ = some e4) (by kernel_rfl) (keep1 _ B0) (fun hHeld => ?_)
    refine takeD (i := 0) (v := .pointer (some ⟨gp, 1, none⟩)) (some 31) rfl rfl (by kernel_rfl) (by kernel_rfl) (by kernel_rfl) (fun _ _ _ h => h) (Or.inl ⟨by rfl, fun w' hw' => ?_⟩) hHeld ?_
    ·first | (go_simp; done) | (obtain ⟨s0, s1, s2, s3, s4, s5⟩ := hw'; go_simp)
    try simp only [Act.put, put1, put2, put3]
    refine takeD (i := 2) (v := .pointer (some ⟨h, 1, none⟩)) (some 33) rfl rfl (by kernel_rfl) (by kernel_rfl) (by kernel_rfl) (fun _ _ _ h => h) (Or.inl ⟨by rfl, fun w' hw' => ?_⟩) hHeld ?_
    ·first | (go_simp; done) | (obtain ⟨s0, s1, s2, s3, s4, s5⟩ := hw'; go_simp)
    try simp only [Act.put, put1, put2, put3]
    refine takeD (i := 3) (v := .slice (some ⟨b, off, none⟩) p.rules.length kr) (some 34) rfl rfl (by kernel_rfl) (by kernel_rfl) (by kernel_rfl) (fun _ _ _ h => h) (Or.inl ⟨by rfl, fun w' hw' => ?_⟩) hHeld ?_
    ·first | (go_simp; done) | (obtain ⟨s0, s1, s2, s3, s4, s5⟩ := hw'; go_simp)
    try simp only [Act.put, put1, put2, put3]
    refine takeD (i := 4) (v := .int .i64 k) (some 35) rfl rfl (by kernel_rfl) (by kernel_rfl) (by kernel_rfl) (fun _ _ _ h => h) (Or.inl ⟨by rfl, fun w' hw' => ?_⟩) hHeld ?_
    ·first | (go_simp; done) | (obtain ⟨s0, s1, s2, s3, s4, s5⟩ := hw'; go_simp)
    try simp only [Act.put, put1, put2, put3]
    refine takeD (i := 5) (v := .pointer (some ⟨b, off + k * 5, none⟩)) (some 36) rfl rfl (by kernel_rfl) (by kernel_rfl) (by kernel_rfl) (fun _ _ _ h => h) (Or.inl ⟨by rfl, fun w' hw' => ?_⟩) hHeld ?_
    ·first | (go_simp; done) | (obtain ⟨s0, s1, s2, s3, s4, s5⟩ := hw'; go_simp)
    try simp only [Act.put, put1, put2, put3]
    refine takeD (i := 6) (v := .agg #[e0, e1, e2, e3, e4]) (some 37) rfl rfl (by kernel_rfl) (by kernel_rfl) (by kernel_rfl) (fun _ _ _ h => h) (Or.inl ⟨by rfl, fun w' hw' => ?_⟩) hHeld ?_
    ·first | (go_simp; done) | (obtain ⟨s0, s1, s2, s3, s4, s5⟩ := hw'; go_simp)
    try simp only [Act.put, put1, put2, put3]
    refine wpAnyH_ready (rs := [1, 7]) (by kernel_rfl) (by simp) ?_
    refine AllReadyH.cons rfl (fun K hK => ?_) (AllReadyH.cons rfl (fun K hK => ?_) AllReadyH.nil)
    ·go_simp
     refine hK.out _ _ (keep1 _ B0) (fun hHeld => ?_)
     clear hK K
     try simp only [Act.put, put1, put2, put3]
     refine wpAnyH_ready (rs := [7]) (by kernel_rfl) (by simp) ?_
     refine AllReadyH.cons rfl (fun K hK => ?_) AllReadyH.nil
     go_simp
     refine (l02Rule_calls hRd' hsm.1 hsm.2).mono ?_
     rintro e w2 ⟨cs', rfl, o2, b2⟩
     obtain ⟨t0, t1, t2, t3, t4, rfl⟩ := list5 (Rd.len o2.rd)
     have z2 := b2.size
     have z2' : wr.heap.size ≤ w2.heap.size := z2
     have B2 := B0.trans (b2.mono hls)
     have hG2 := (b2.block gp (by show gp < wr.heap.size; omega)).trans hG
     have f2 := cellR hG2
     refine hK.out _ _ (keep1 _ B2) (fun hHeld => ?_)
     clear hK K
     try simp only [Act.put, put1, put2, put3]
     refine wpAnyH_ready (rs := [8]) (by kernel_rfl) (by simp) ?_
     refine AllReadyH.cons rfl (fun K hK => ?_) AllReadyH.nil
     go_simp
     have o3 := o2.alloc (.cells #[t0, t1, t2, t3, t4] 34)
     have bA := (Below.refl wr.drew.heap.size wr.drew).step b2
     have b3 := bA.alloc b2.size (.cells #[t0, t1, t2, t3, t4] 34)
     have B3 := B2.alloc (show lo ≤ w2.heap.size by omega) (.cells #[t0, t1, t2, t3, t4] 34)
     have C3 := Cells.new w2 [t0, t1, t2, t3, t4] 34
     have hG3 := (Below.heap_alloc w2 (.cells #[t0, t1, t2, t3, t4] 34) gp (by omega)).trans hG2
     have f2 := cellR hG3
     refine hK.out _ _ (keep1 _ B3) (fun hHeld => ?_)
     clear hK K
     try simp only [Act.put, put1, put2, put3]
     obtain ⟨v4, w4, r4, o4', b4, g4w⟩ := run_append_one (α := RuleD) (P := Tryz.prog) (t := 24) (ty := 24) (c := 1) i3 _ 72 Tryz.underlying24 hi3 hz30 hz31 hz32 rfl (by decide) ho' (Nat.le_refl _) b3 C3 o3 (by rw [htl]; omega) (by omega) (show w1.heap.size ≤ wr.heap.size from hsz)
     obtain ⟨a4, n4, hv4, _⟩ := o4'.form
     rw [hln.out] at hv4
     subst hv4
     have B4 := B3.trans (b4.mono hl1)
     have hG4 := (g4w.block gp (by rw [World.size_alloc]; omega) (fun e => by have := ho.ge e.symm; omega)).trans hG3
     have f4 := cellR hG4
     have z4 := frozen_of_row w4 gp 1 _ _ hG4
     refine wpAnyH_ready (rs := [9]) (by kernel_rfl) (by simp) ?_
     refine AllReadyH.cons rfl (fun K hK => ?_) AllReadyH.nil
     refine step_append_of rfl _ _ rfl rfl rfl r4 ?_
     refine hK.out _ _ (keep1 _ B4) (fun hHeld => ?_)
     clear hK K
     try simp only [Act.put, put1, put2, put3]
     refine takeD (i := 10) (v := .pointer (some ⟨gp, 1, none⟩)) (some 41) rfl rfl (by kernel_rfl) (by kernel_rfl) (by kernel_rfl) (fun _ _ _ h => h) (Or.inl ⟨by rfl, fun w' hw' => ?_⟩) hHeld ?_
     ·first | (go_simp; done) | (obtain ⟨s0, s1, s2, s3, s4, s5⟩ := hw'; go_simp)
     try simp only [Act.put, put1, put2, put3]
     refine wpAnyH_ready (rs := [11]) (by kernel_rfl) (by simp) ?_
     refine AllReadyH.cons rfl (fun K hK => ?_) AllReadyH.nil
     have o5 := o4'.far (p := ⟨gp, 1, none⟩) hgl (.slice a4 (k + 1) n4)
     have G5 := heap_setCell_same w4 gp 1 _ _ (.slice a4 (k + 1) n4) hG4
     have B5 := Below.setCell B4 (p := ⟨gp, 1, none⟩) hlg (.slice a4 (k + 1) n4)
     have X5 := ((hX.step ((Below.refl w1.heap.size wr).drew.trans (b3.mono hsz))).step b4).set 1 (.slice a4 (k + 1) n4)
     go_simp
     refine hK.out _ (w4.setCell ⟨gp, 1, none⟩ (.slice a4 (k + 1) n4)) (keep1 _ B5) (fun hHeld => ?_)
     clear hK K
     rw [← htk.out] at o5
     have o5 := Lib.hid o5
     have G5 := Lib.hid G5
     have X5 := Lib.hid X5
     have Hk := Lib.hid (show k + 1 ≤ p.rules.length by omega)
     clear r4 o4' b4 g4w hG4 f4 z4 C3 o3 b3 hG3 f2 o2 b2 B0 B2 B3 B4 B5 hRd' ho' ho hG hG2 hHeld keep1 hcx
     refine wpAnyH_done (by kernel_rfl) ?_ _
     go_wp2
     go_roundw
     case rel => exact ⟨k + 1, _, Hk.out, by go_num, o5.out, G5.out, X5.out⟩
     case measure => simp [intOf]; omega
    ·go_simp
     refine (l02Rule_calls hRd' hsm.1 hsm.2).mono ?_
     rintro e w2 ⟨cs', rfl, o2, b2⟩
     obtain ⟨t0, t1, t2, t3, t4, rfl⟩ := list5 (Rd.len o2.rd)
     have z2 := b2.size
     have z2' : wr.heap.size ≤ w2.heap.size := z2
     have B2 := B0.trans (b2.mono hls)
     have hG2 := (b2.block gp (by show gp < wr.heap.size; omega)).trans hG
     have f2 := cellR hG2
     refine hK.out _ _ (keep1 _ B2) (fun hHeld => ?_)
     clear hK K
     try simp only [Act.put, put1, put2, put3]
     refine wpAnyH_ready (rs := [1, 8]) (by kernel_rfl) (by simp) ?_
     refine AllReadyH.cons rfl (fun K hK => ?_) (AllReadyH.cons rfl (fun K hK => ?_) AllReadyH.nil)
     ·go_simp
      refine hK.out _ _ (keep1 _ B2) (fun hHeld => ?_)
      clear hK K
      try simp only [Act.put, put1, put2, put3]
      refine wpAnyH_ready (rs := [8]) (by kernel_rfl) (by simp) ?_
      refine AllReadyH.cons rfl (fun K hK => ?_) AllReadyH.nil
      go_simp
      have o3 := o2.alloc (.cells #[t0, t1, t2, t3, t4] 34)
      have bA := (Below.refl wr.drew.heap.size wr.drew).step b2
      have b3 := bA.alloc b2.size (.cells #[t0, t1, t2, t3, t4] 34)
      have B3 := B2.alloc (show lo ≤ w2.heap.size by omega) (.cells #[t0, t1, t2, t3, t4] 34)
      have C3 := Cells.new w2 [t0, t1, t2, t3, t4] 34
      have hG3 := (Below.heap_alloc w2 (.cells #[t0, t1, t2, t3, t4] 34) gp (by omega)).trans hG2
      have f2 := cellR hG3
      refine hK.out _ _ (keep1 _ B3) (fun hHeld => ?_)
      clear hK K
      try simp only [Act.put, put1, put2, put3]
      obtain ⟨v4, w4, r4, o4', b4, g4w⟩ := run_append_one (α := RuleD) (P := Tryz.prog) (t := 24) (ty := 24) (c := 1) i3 _ 72 Tryz.underlying24 hi3 hz30 hz31 hz32 rfl (by decide) ho' (Nat.le_refl _) b3 C3 o3 (by rw [htl]; omega) (by omega) (show w1.heap.size ≤ wr.heap.size from hsz)
      obtain ⟨a4, n4, hv4, _⟩ := o4'.form
      rw [hln.out] at hv4
      subst hv4
      have B4 := B3.trans (b4.mono hl1)
      have hG4 := (g4w.block gp (by rw [World.size_alloc]; omega) (fun e => by have := ho.ge e.symm; omega)).trans hG3
      have f4 := cellR hG4
      have z4 := frozen_of_row w4 gp 1 _ _ hG4
      refine wpAnyH_ready (rs := [9]) (by kernel_rfl) (by simp) ?_
      refine AllReadyH.cons rfl (fun K hK => ?_) AllReadyH.nil
      refine step_append_of rfl _ _ rfl rfl rfl r4 ?_
      refine hK.out _ _ (keep1 _ B4) (fun hHeld => ?_)
      clear hK K
      try simp only [Act.put, put1, put2, put3]
      refine takeD (i := 10) (v := .pointer (some ⟨gp, 1, none⟩)) (some 41) rfl rfl (by kernel_rfl) (by kernel_rfl) (by kernel_rfl) (fun _ _ _ h => h) (Or.inl ⟨by rfl, fun w' hw' => ?_⟩) hHeld ?_
      ·first | (go_simp; done) | (obtain ⟨s0, s1, s2, s3, s4, s5⟩ := hw'; go_simp)
      try simp only [Act.put, put1, put2, put3]
      refine wpAnyH_ready (rs := [11]) (by kernel_rfl) (by simp) ?_
      refine AllReadyH.cons rfl (fun K hK => ?_) AllReadyH.nil
      have o5 := o4'.far (p := ⟨gp, 1, none⟩) hgl (.slice a4 (k + 1) n4)
      have G5 := heap_setCell_same w4 gp 1 _ _ (.slice a4 (k + 1) n4) hG4
      have B5 := Below.setCell B4 (p := ⟨gp, 1, none⟩) hlg (.slice a4 (k + 1) n4)
      have X5 := ((hX.step ((Below.refl w1.heap.size wr).drew.trans (b3.mono hsz))).step b4).set 1 (.slice a4 (k + 1) n4)
      go_simp
      refine hK.out _ (w4.setCell ⟨gp, 1, none⟩ (.slice a4 (k + 1) n4)) (keep1 _ B5) (fun hHeld => ?_)
      clear hK K
      rw [← htk.out] at o5
      have o5 := Lib.hid o5
      have G5 := Lib.hid G5
      have X5 := Lib.hid X5
      have Hk := Lib.hid (show k + 1 ≤ p.rules.length by omega)
      clear r4 o4' b4 g4w hG4 f4 z4 C3 o3 b3 hG3 f2 o2 b2 B0 B2 B3 B4 B5 hRd' ho' ho hG hG2 hHeld keep1 hcx
      refine wpAnyH_done (by kernel_rfl) ?_ _
      go_wp2
      go_roundw
      case rel => exact ⟨k + 1, _, Hk.out, by go_num, o5.out, G5.out, X5.out⟩
      case measure => simp [intOf]; omega
     ·go_simp
      have o3 := o2.alloc (.cells #[t0, t1, t2, t3, t4] 34)
      have bA := (Below.refl wr.drew.heap.size wr.drew).step b2
      have b3 := bA.alloc b2.size (.cells #[t0, t1, t2, t3, t4] 34)
      have B3 := B2.alloc (show lo ≤ w2.heap.size by omega) (.cells #[t0, t1, t2, t3, t4] 34)
      have C3 := Cells.new w2 [t0, t1, t2, t3, t4] 34
      have hG3 := (Below.heap_alloc w2 (.cells #[t0, t1, t2, t3, t4] 34) gp (by omega)).trans hG2
      have f2 := cellR hG3
      refine hK.out _ _ (keep1 _ B3) (fun hHeld => ?_)
      clear hK K
      try simp only [Act.put, put1, put2, put3]
      refine wpAnyH_ready (rs := [1]) (by kernel_rfl) (by simp) ?_
      refine AllReadyH.cons rfl (fun K hK => ?_) AllReadyH.nil
      go_simp
      refine hK.out _ _ (keep1 _ B3) (fun hHeld => ?_)
      clear hK K
      try simp only [Act.put, put1, put2, put3]
      obtain ⟨v4, w4, r4, o4', b4, g4w⟩ := run_append_one (α := RuleD) (P := Tryz.prog) (t := 24) (ty := 24) (c := 1) i3 _ 72 Tryz.underlying24 hi3 hz30 hz31 hz32 rfl (by decide) ho' (Nat.le_refl _) b3 C3 o3 (by rw [htl]; omega) (by omega) (show w1.heap.size ≤ wr.heap.size from hsz)
      obtain ⟨a4, n4, hv4, _⟩ := o4'.form
      rw [hln.out] at hv4
      subst hv4
      have B4 := B3.trans (b4.mono hl1)
      have hG4 := (g4w.block gp (by rw [World.size_alloc]; omega) (fun e => by have := ho.ge e.symm; omega)).trans hG3
      have f4 := cellR hG4
      have z4 := frozen_of_row w4 gp 1 _ _ hG4
      refine wpAnyH_ready (rs := [9]) (by kernel_rfl) (by simp) ?_
      refine AllReadyH.cons rfl (fun K hK => ?_) AllReadyH.nil
      refine step_append_of rfl _ _ rfl rfl rfl r4 ?_
      refine hK.out _ _ (keep1 _ B4) (fun hHeld => ?_)
      clear hK K
      try simp only [Act.put, put1, put2, put3]
      refine takeD (i := 10) (v := .pointer (some ⟨gp, 1, none⟩)) (some 41) rfl rfl (by kernel_rfl) (by kernel_rfl) (by kernel_rfl) (fun _ _ _ h => h) (Or.inl ⟨by rfl, fun w' hw' => ?_⟩) hHeld ?_
      ·first | (go_simp; done) | (obtain ⟨s0, s1, s2, s3, s4, s5⟩ := hw'; go_simp)
      try simp only [Act.put, put1, put2, put3]
      refine wpAnyH_ready (rs := [11]) (by kernel_rfl) (by simp) ?_
      refine AllReadyH.cons rfl (fun K hK => ?_) AllReadyH.nil
      have o5 := o4'.far (p := ⟨gp, 1, none⟩) hgl (.slice a4 (k + 1) n4)
      have G5 := heap_setCell_same w4 gp 1 _ _ (.slice a4 (k + 1) n4) hG4
      have B5 := Below.setCell B4 (p := ⟨gp, 1, none⟩) hlg (.slice a4 (k + 1) n4)
      have X5 := ((hX.step ((Below.refl w1.heap.size wr).drew.trans (b3.mono hsz))).step b4).set 1 (.slice a4 (k + 1) n4)
      go_simp
      refine hK.out _ (w4.setCell ⟨gp, 1, none⟩ (.slice a4 (k + 1) n4)) (keep1 _ B5) (fun hHeld => ?_)
      clear hK K
      rw [← htk.out] at o5
      have o5 := Lib.hid o5
      have G5 := Lib.hid G5
      have X5 := Lib.hid X5
      have Hk := Lib.hid (show k + 1 ≤ p.rules.length by omega)
      clear r4 o4' b4 g4w hG4 f4 z4 C3 o3 b3 hG3 f2 o2 b2 B0 B2 B3 B4 B5 hRd' ho' ho hG hG2 hHeld keep1 hcx
      refine wpAnyH_done (by kernel_rfl) ?_ _
      go_wp2
      go_roundw
      case rel => exact ⟨k + 1, _, Hk.out, by go_num, o5.out, G5.out, X5.out⟩
      case measure => simp [intOf]; omega
   ·have hkx : p.rules.take k = p.rules := List.take_of_length_le (by omega)
    rw [hkx] at ho
    clear hkx
    go_wp2
    obtain ⟨wR, rfl⟩ : ∃ wR, wR = wr := ⟨_, rfl⟩
    have hoR := ho.toD
    obtain ⟨vRules, hvR⟩ : ∃ vRules, vRules = vR := ⟨_, rfl⟩
    rw [← hvR] at hG hoR
    have hbP := hbw
    have hlP : lo ≤ wR.heap.size := by omega
    have hgP : gp < wR.heap.size := by omega
    clear hvR hlt hk ho hcx y0 y1 y2 y3 y4 y5 y6 y7 hbw hsz
    obtain ⟨hX1, hX1'⟩ : ∃ _ : BelX w1.heap.size gp w1 wR, True := ⟨hX, trivial⟩
    clear hX
    have ho0 : OwnR (α := LevelD) wR.heap.size 182 wR (.slice none 0 0) (p.levels.take 0) := OwnR.nil _ _ _
    go_loopw [5] (fun i wr => ∃ (k : Nat) (vR : Value), k ≤ p.levels.length ∧ i = .int .i64 k ∧ OwnR wR.heap.size 182 wr vR (p.levels.take k) ∧ wr.heap[gp]? = some (.cells #[.int .i64 p.atoms, vRules, vR, .bool p.projOn, .slice a1 p.project.length n1, .slice none 0 0, .slice a2 p.exts.length n2, .slice a3 p.assume.length n3] 30 (0, 0)) ∧ BelX wR.heap.size gp wR wr) (fun i _ => p.levels.length - (intOf i).toNat)
    case atStart => exact ⟨0, _, Nat.zero_le _, rfl, ho0, hG, BelX.refl _ _ _⟩
    case round =>
     clear hG
     obtain ⟨k, vR, hk, rfl, ho, hG, hX⟩ := hrel
     clear ho0
     have hbw := hbP.trans (hX.below hlP hlg)
     have hcx := X.blw hbw hhl
     obtain ⟨y0, y1, y2, y3, y4, y5, y6, y7⟩ := cells8 hcx
     have hsz := hX.size
     by_cases hlt : k < p.levels.length
     ·obtain ⟨b, off, rfl, hc⟩ := hrow2.base (by omega)
      obtain ⟨ecs, hC0, hRd⟩ := hc k hlt
      have hbW := hbw.mono hW0
      have hRd := Rd.mono hbW hRd
      obtain ⟨d1, rfl, hfp, hRl⟩ := hRd
      obtain ⟨ad, cd, rfl, _, _⟩ := hRl.sl
      have hbl : b < lo := by have := hC0.lt; omega
      rw [show Rd.k LevelD = 2 from rfl] at hC0
      have keep1 : ∀ w', Below lo W0 w' → (w'.cell? ⟨h, 2, none⟩ = some (.slice (some ⟨b, off, none⟩) p.levels.length kl) ∧ w'.cell? ⟨b, off + k * 2, none⟩ = some (.int .i64 (nth p.levels k).p) ∧ w'.cell? ⟨b, off + k * 2 + 1, none⟩ = some (.slice ad (nth p.levels k).lits.length cd)) := fun w' hb => by
       have q := cells8 (X.blw hb hhl)
       have C := hC0.blw hb hbl
       exact ⟨q.2.2.1, C.c0, C.c1⟩
      have hsm := s2.2 _ (nth_mem hlt)
      have htk := Lib.hid (take_nth hlt)
      have htl : (p.levels.take k).length = k := by rw [List.length_take]; omega
      have hln : Hid ((p.levels.take k ++ [nth p.levels k]).length = k + 1) := by show _ = _; rw [List.length_append, htl]; rfl
      have hkn : (0 : Int) ≤ (k : Int) := by omega
      have hkl : (k : Int) < (p.levels.length : Int) := by omega
      have B0 := hbw.drew
      have ho' := ho.later (Below.refl _ _).drew
      have hls : lo ≤ wr.heap.size := by omega
      have szl := s2.1
      have f2 := cell2 hG
      clear hC0 hc
      go_wp2
      refine wp_region_held_drew (S := fun w' => w'.cell? ⟨h, 2, none⟩ = some (.slice (some ⟨b, off, none⟩) p.levels.length kl) ∧ w'.cell? ⟨b, off + k * 2, none⟩ = some (.int .i64 (nth p.levels k).p) ∧ w'.cell? ⟨b, off + k * 2 + 1, none⟩ = some (.slice ad (nth p.levels k).lits.length cd)) (by kernel_rfl) (keep1 _ B0) (fun hHeld => ?_)
      refine takeD (i := 0) (v := .pointer (some ⟨gp, 2, none⟩)) (some 49) rfl rfl (by kernel_rfl) (by kernel_rfl) (by kernel_rfl) (fun _ _ _ h => h) (Or.inl ⟨by rfl, fun w' hw' => ?_⟩) hHeld ?_
      ·first | (go_simp; done) | (obtain ⟨s0, s1, s2⟩ := hw'; go_simp)
      try simp only [Act.put, put1, put2, put3]
      refine takeD (i := 2) (v := .pointer (some ⟨h, 2, none⟩)) (some 51) rfl rfl (by kernel_rfl) (by kernel_rfl) (by kernel_rfl) (fun _ _ _ h => h) (Or.inl ⟨by rfl, fun w' hw' => ?_⟩) hHeld ?_
      ·first | (go_simp; done) | (obtain ⟨s0, s1, s2⟩ := hw'; go_simp)
      try simp only [Act.put, put1, put2, put3]
      refine takeD (i := 3) (v := .slice (some ⟨b, off, none⟩) p.levels.length kl) (some 52) rfl rfl (by kernel_rfl) (by kernel_rfl) (by kernel_rfl) (fun _ _ _ h => h) (Or.inl ⟨by rfl, fun w' hw' => ?_⟩) hHeld ?_
      ·first | (go_simp; done) | (obtain ⟨s0, s1, s2⟩ := hw'; go_simp)
      try simp only [Act.put, put1, put2, put3]
      refine takeD (i := 4) (v := .int .i64 k) (some 53) rfl rfl (by kernel_rfl) (by kernel_rfl) (by kernel_rfl) (fun _ _ _ h => h) (Or.inl ⟨by rfl, fun w' hw' => ?_⟩) hHeld ?_
      ·first | (go_simp; done) | (obtain ⟨s0, s1, s2⟩ := hw'; go_simp)
      try simp only [Act.put, put1, put2, put3]
      refine takeD (i := 5) (v := .pointer (some ⟨b, off + k * 2, none⟩)) (some 54) rfl rfl (by kernel_rfl) (by kernel_rfl) (by kernel_rfl) (fun _ _ _ h => h) (Or.inl ⟨by rfl, fun w' hw' => ?_⟩) hHeld ?_
      ·first | (go_simp; done) | (obtain ⟨s0, s1, s2⟩ := hw'; go_simp)
      try simp only [Act.put, put1, put2, put3]
      refine takeD (i := 6) (v := .pointer (some ⟨b, off + k * 2, none⟩)) (some 55) rfl rfl (by kernel_rfl) (by kernel_rfl) (by kernel_rfl) (fun _ _ _ h => h) (Or.inl ⟨by rfl, fun w' hw' => ?_⟩) hHeld ?_
      ·first | (go_simp; done) | (obtain ⟨s0, s1, s2⟩ := hw'; go_simp)
      try simp only [Act.put, put1, put2, put3]
      refine takeD (i := 7) (v := .int .i64 (nth p.levels k).p) (some 56) rfl rfl (by kernel_rfl) (by kernel_rfl) (by kernel_rfl) (fun _ _ _ h => h) (Or.inl ⟨by rfl, fun w' hw' => ?_⟩) hHeld ?_
      ·first | (go_simp; done) | (obtain ⟨s0, s1, s2⟩ := hw'; go_simp)
      try simp only [Act.put, put1, put2, put3]
      refine takeD (i := 9) (v := .pointer (some ⟨h, 2, none⟩)) (some 58) rfl rfl (by kernel_rfl) (by kernel_rfl) (by kernel_rfl) (fun _ _ _ h => h) (Or.inl ⟨by rfl, fun w' hw' => ?_⟩) hHeld ?_
      ·first | (go_simp; done) | (obtain ⟨s0, s1, s2⟩ := hw'; go_simp)
      try simp only [Act.put, put1, put2, put3]
      refine takeD (i := 10) (v := .slice (some ⟨b, off, none⟩) p.levels.length kl) (some 59) rfl rfl (by kernel_rfl) (by kernel_rfl) (by kernel_rfl) (fun _ _ _ h => h) (Or.inl ⟨by rfl, fun w' hw' => ?_⟩) hHeld ?_
      ·first | (go_simp; done) | (obtain ⟨s0, s1, s2⟩ := hw'; go_simp)
      try simp only [Act.put, put1, put2, put3]
      refine takeD (i := 11) (v := .int .i64 k) (some 60) rfl rfl (by kernel_rfl) (by kernel_rfl) (by kernel_rfl) (fun _ _ _ h => h) (Or.inl ⟨by rfl, fun w' hw' => ?_⟩) hHeld ?_
      ·first | (go_simp; done) | (obtain ⟨s0, s1, s2⟩ := hw'; go_simp)
      try simp only [Act.put, put1, put2, put3]
      refine takeD (i := 12) (v := .pointer (some ⟨b, off + k * 2, none⟩)) (some 61) rfl rfl (by kernel_rfl) (by kernel_rfl) (by kernel_rfl) (fun _ _ _ h => h) (Or.inl ⟨by rfl, fun w' hw' => ?_⟩) hHeld ?_
      ·first | (go_simp; done) | (obtain ⟨s0, s1, s2⟩ := hw'; go_simp)
      try simp only [Act.put, put1, put2, put3]
      refine takeD (i := 13) (v := .pointer (some ⟨b, off + k * 2 + 1, none⟩)) (some 62) rfl rfl (by kernel_rfl) (by kernel_rfl) (by kernel_rfl) (fun _ _ _ h => h) (Or.inl ⟨by rfl, fun w' hw' => ?_⟩) hHeld ?_
      ·first | (go_simp; done) | (obtain ⟨s0, s1, s2⟩ := hw'; go_simp)
      try simp only [Act.put, put1, put2, put3]
      refine takeD (i := 14) (v := .slice ad (nth p.levels k).lits.length cd) (some 63) rfl rfl (by kernel_rfl) (by kernel_rfl) (by kernel_rfl) (fun _ _ _ h => h) (Or.inl ⟨by rfl, fun w' hw' => ?_⟩) hHeld ?_
      ·first | (go_simp; done) | (obtain ⟨s0, s1, s2⟩ := hw'; go_simp)
      try simp only [Act.put, put1, put2, put3]
      refine wpAnyH_ready (rs := [1, 8]) (by kernel_rfl) (by simp) ?_
      refine AllReadyH.cons rfl (fun K hK => ?_) (AllReadyH.cons rfl (fun K hK => ?_) AllReadyH.nil)
      ·skip
       go_simp
       refine hK.out _ _ (keep1 _ B0) (fun hHeld => ?_)
       clear hK K
       try simp only [Act.put, put1, put2, put3]
       refine wpAnyH_ready (rs := [8]) (by kernel_rfl) (by simp) ?_
       refine AllReadyH.cons rfl (fun K hK => ?_) AllReadyH.nil
       go_simp
       have B1 := B0.alloc (show lo ≤ wr.heap.size from hls) (.cells #[] 94)
       have D1 := (Below.refl wr.drew.heap.size wr.drew).alloc (Nat.le_refl _) (.cells #[] 94)
       have H1 := alloc_block wr.drew #[] 94
       have hG1 := (Below.heap_alloc wr.drew (.cells #[] 94) gp (by show gp < wr.heap.size; omega)).trans hG
       have R1 := Rd.mono (α := List (Int × Int)) (D1.trans (Below.refl _ _)) (Rd.mono (α := List (Int × Int)) (Below.refl _ _).drew hRl)
       have f2 : (wr.alloc (.cells #[] 94)).cell? ⟨gp, 2, none⟩ = some vR := cell2 (W := wr.alloc (.cells #[] 94)) hG1
       refine hK.out _ _ (keep1 _ B1) (fun hHeld => ?_)
       clear hK K
       try simp only [Act.put, put1, put2, put3]
       refine wpAnyH_ready (rs := [15]) (by kernel_rfl) (by simp) ?_
       refine AllReadyH.cons rfl (fun K hK => ?_) AllReadyH.nil
       obtain ⟨v5, w2, F5, r5, o5, hF5, g5w⟩ := run_append_lit (α := Int × Int) (P := Tryz.prog) (t := 32) (ty := 32) i6 _ 16 Tryz.underlying32 hi6 hz60 hz61 hz62 rfl H1 R1 (by omega) (by omega)
       obtain ⟨a5, n5, e5, _⟩ := (OwL.rd (α := Int × Int) o5).sl
       subst e5
       have B2 := grownBelow B1 (by rw [World.size_alloc]; show lo ≤ wr.heap.size + 1; omega) (show lo ≤ wr.drew.heap.size from hls) g5w
       have D2 := D1.grown g5w (by rw [World.size_alloc]; omega) (fun k hk => by cases hk; exact Nat.le_refl _)
       have hG2 := (g5w.block gp (by rw [World.size_alloc]; show gp < wr.heap.size + 1; omega) (fun e => by have := Option.some.inj e; have e2 : wr.drew.heap.size = wr.heap.size := rfl; omega)).trans hG1
       have O2 : Own wr.drew.heap.size w2 [.slice a5 (nth p.levels k).lits.length n5] (nth p.levels k).lits := ⟨F5, o5, fun x hx => by rcases hF5 x hx with h | h <;> rw [h]; exact Nat.le_refl _; rw [World.size_alloc]; omega⟩
       have Z2 : wr.heap.size ≤ w2.heap.size := D2.size
       have f2 := cell2 hG2
       refine step_append_of rfl _ _ rfl rfl rfl r5 ?_
       refine hK.out _ _ (keep1 _ B2) (fun hHeld => ?_)
       clear hK K
       try simp only [Act.put, put1, put2, put3]
       refine takeD (i := 16) (v := .agg #[.int .i64 (nth p.levels k).p, .slice a5 (nth p.levels k).lits.length n5]) (some 65) rfl rfl (by kernel_rfl) (by kernel_rfl) (by kernel_rfl) (fun _ _ _ h => h) (Or.inl ⟨by rfl, fun w' hw' => ?_⟩) hHeld ?_
       ·first | (go_simp; done) | (obtain ⟨s0, s1, s2⟩ := hw'; go_simp)
       try simp only [Act.put, put1, put2, put3]
       refine wpAnyH_ready (rs := [17]) (by kernel_rfl) (by simp) ?_
       refine AllReadyH.cons rfl (fun K hK => ?_) AllReadyH.nil
       go_simp
       have O3 := (own_level O2 hfp).alloc (.cells #[.int .i64 (nth p.levels k).p, .slice a5 (nth p.levels k).lits.length n5] 182)
       have B3 := B2.alloc (show lo ≤ w2.heap.size by omega) (.cells #[.int .i64 (nth p.levels k).p, .slice a5 (nth p.levels k).lits.length n5] 182)
       have D3 := D2.alloc (show wr.drew.heap.size ≤ w2.heap.size from Z2) (.cells #[.int .i64 (nth p.levels k).p, .slice a5 (nth p.levels k).lits.length n5] 182)
       have C3 := Cells.new w2 [.int .i64 (nth p.levels k).p, .slice a5 (nth p.levels k).lits.length n5] 182
       have hG3 := (Below.heap_alloc w2 (.cells #[.int .i64 (nth p.levels k).p, .slice a5 (nth p.levels k).lits.length n5] 182) gp (by omega)).trans hG2
       have f2 := cell2 hG3
       refine hK.out _ _ (keep1 _ B3) (fun hHeld => ?_)
       clear hK K
       try simp only [Act.put, put1, put2, put3]
       obtain ⟨v4, w4, r4, o4', b4, g4w⟩ := run_append_one (α := LevelD) (P := Tryz.prog) (t := 25) (ty := 25) (c := 1) i4 _ 32 Tryz.underlying25 hi4 hz40 hz41 hz42 rfl (by decide) ho' (Nat.le_refl _) D3 C3 O3 (by rw [htl]; omega) (by omega) (show wR.heap.size ≤ wr.heap.size from hsz)
       obtain ⟨a4, n4, hv4, _⟩ := o4'.form
       rw [hln.out] at hv4
       subst hv4
       have B4 := B3.trans (b4.mono hlP)
       have hG4 := (g4w.block gp (by rw [World.size_alloc]; omega) (fun e => by have := ho.ge e.symm; omega)).trans hG3
       have f4 := cell2 hG4
       have z4 := frozen_of_row w4 gp 2 _ _ hG4
       refine wpAnyH_ready (rs := [18]) (by kernel_rfl) (by simp) ?_
       refine AllReadyH.cons rfl (fun K hK => ?_) AllReadyH.nil
       refine step_append_of rfl _ _ rfl rfl rfl r4 ?_
       refine hK.out _ _ (keep1 _ B4) (fun hHeld => ?_)
       clear hK K
       try simp only [Act.put, put1, put2, put3]
       refine takeD (i := 19) (v := .pointer (some ⟨gp, 2, none⟩)) (some 68) rfl rfl (by kernel_rfl) (by kernel_rfl) (by kernel_rfl) (fun _ _ _ h => h) (Or.inl ⟨by rfl, fun w' hw' => ?_⟩) hHeld ?_
       ·first | (go_simp; done) | (obtain ⟨s0, s1, s2⟩ := hw'; go_simp)
       try simp only [Act.put, put1, put2, put3]
       refine wpAnyH_ready (rs := [20]) (by kernel_rfl) (by simp) ?_
       refine AllReadyH.cons rfl (fun K hK => ?_) AllReadyH.nil
       have o6 := o4'.far (p := ⟨gp, 2, none⟩) hgP (.slice a4 (k + 1) n4)
       have G5 := heap_setCell_same w4 gp 2 _ _ (.slice a4 (k + 1) n4) hG4
       have B5 := Below.setCell B4 (p := ⟨gp, 2, none⟩) hlg (.slice a4 (k + 1) n4)
       have X5 := ((hX.step ((Below.refl wR.heap.size wr).drew.trans (D3.mono hsz))).step b4).set 2 (.slice a4 (k + 1) n4)
       go_simp
       refine hK.out _ (w4.setCell ⟨gp, 2, none⟩ (.slice a4 (k + 1) n4)) (keep1 _ B5) (fun hHeld => ?_)
       clear hK K
       rw [← htk.out] at o6
       have o6 := Lib.hid o6
       have G5 := Lib.hid G5
       have X5 := Lib.hid X5
       have Hk := Lib.hid (show k + 1 ≤ p.levels.length by omega)
       clear r4 o4' b4 g4w hG4 f4 z4 C3 O3 D3 hG3 f2 O2 D2 B0 B1 B2 B3 B4 B5 ho' ho hG hG1 hG2 hHeld keep1 hcx r5 o5 hF5 g5w D1 H1 R1 hRl
       refine wpAnyH_done (by kernel_rfl) ?_ _
       go_wp2
       go_roundw
       case rel => exact ⟨k + 1, _, Hk.out, by go_num, o6.out, G5.out, X5.out⟩
       case measure => simp [intOf]; omega
      ·skip
       go_simp
       have B1 := B0.alloc (show lo ≤ wr.heap.size from hls) (.cells #[] 94)
       have D1 := (Below.refl wr.drew.heap.size wr.drew).alloc (Nat.le_refl _) (.cells #[] 94)
       have H1 := alloc_block wr.drew #[] 94
       have hG1 := (Below.heap_alloc wr.drew (.cells #[] 94) gp (by show gp < wr.heap.size; omega)).trans hG
       have R1 := Rd.mono (α := List (Int × Int)) (D1.trans (Below.refl _ _)) (Rd.mono (α := List (Int × Int)) (Below.refl _ _).drew hRl)
       have f2 : (wr.alloc (.cells #[] 94)).cell? ⟨gp, 2, none⟩ = some vR := cell2 (W := wr.alloc (.cells #[] 94)) hG1
       refine hK.out _ _ (keep1 _ B1) (fun hHeld => ?_)
       clear hK K
       try simp only [Act.put, put1, put2, put3]
       refine wpAnyH_ready (rs := [1, 15]) (by kernel_rfl) (by simp) ?_
       refine AllReadyH.cons rfl (fun K hK => ?_) (AllReadyH.cons rfl (fun K hK => ?_) AllReadyH.nil)
       ·skip
        go_simp
        refine hK.out _ _ (keep1 _ B1) (fun hHeld => ?_)
        clear hK K
        try simp only [Act.put, put1, put2, put3]
        refine wpAnyH_ready (rs := [15]) (by kernel_rfl) (by simp) ?_
        refine AllReadyH.cons rfl (fun K hK => ?_) AllReadyH.nil
        obtain ⟨v5, w2, F5, r5, o5, hF5, g5w⟩ := run_append_lit (α := Int × Int) (P := Tryz.prog) (t := 32) (ty := 32) i6 _ 16 Tryz.underlying32 hi6 hz60 hz61 hz62 rfl H1 R1 (by omega) (by omega)
        obtain ⟨a5, n5, e5, _⟩ := (OwL.rd (α := Int × Int) o5).sl
        subst e5
        have B2 := grownBelow B1 (by rw [World.size_alloc]; show lo ≤ wr.heap.size + 1; omega) (show lo ≤ wr.drew.heap.size from hls) g5w
        have D2 := D1.grown g5w (by rw [World.size_alloc]; omega) (fun k hk => by cases hk; exact Nat.le_refl _)
        have hG2 := (g5w.block gp (by rw [World.size_alloc]; show gp < wr.heap.size + 1; omega) (fun e => by have := Option.some.inj e; have e2 : wr.drew.heap.size = wr.heap.size := rfl; omega)).trans hG1
        have O2 : Own wr.drew.heap.size w2 [.slice a5 (nth p.levels k).lits.length n5] (nth p.levels k).lits := ⟨F5, o5, fun x hx => by rcases hF5 x hx with h | h <;> rw [h]; exact Nat.le_refl _; rw [World.size_alloc]; omega⟩
        have Z2 : wr.heap.size ≤ w2.heap.size := D2.size
        have f2 := cell2 hG2
        refine step_append_of rfl _ _ rfl rfl rfl r5 ?_
        refine hK.out _ _ (keep1 _ B2) (fun hHeld => ?_)
        clear hK K
        try simp only [Act.put, put1, put2, put3]
        refine takeD (i := 16) (v := .agg #[.int .i64 (nth p.levels k).p, .slice a5 (nth p.levels k).lits.length n5]) (some 65) rfl rfl (by kernel_rfl) (by kernel_rfl) (by kernel_rfl) (fun _ _ _ h => h) (Or.inl ⟨by rfl, fun w' hw' => ?_⟩) hHeld ?_
        ·first | (go_simp; done) | (obtain ⟨s0, s1, s2⟩ := hw'; go_simp)
        try simp only [Act.put, put1, put2, put3]
        refine wpAnyH_ready (rs := [17]) (by kernel_rfl) (by simp) ?_
        refine AllReadyH.cons rfl (fun K hK => ?_) AllReadyH.nil
        go_simp
        have O3 := (own_level O2 hfp).alloc (.cells #[.int .i64 (nth p.levels k).p, .slice a5 (nth p.levels k).lits.length n5] 182)
        have B3 := B2.alloc (show lo ≤ w2.heap.size by omega) (.cells #[.int .i64 (nth p.levels k).p, .slice a5 (nth p.levels k).lits.length n5] 182)
        have D3 := D2.alloc (show wr.drew.heap.size ≤ w2.heap.size from Z2) (.cells #[.int .i64 (nth p.levels k).p, .slice a5 (nth p.levels k).lits.length n5] 182)
        have C3 := Cells.new w2 [.int .i64 (nth p.levels k).p, .slice a5 (nth p.levels k).lits.length n5] 182
        have hG3 := (Below.heap_alloc w2 (.cells #[.int .i64 (nth p.levels k).p, .slice a5 (nth p.levels k).lits.length n5] 182) gp (by omega)).trans hG2
        have f2 := cell2 hG3
        refine hK.out _ _ (keep1 _ B3) (fun hHeld => ?_)
        clear hK K
        try simp only [Act.put, put1, put2, put3]
        obtain ⟨v4, w4, r4, o4', b4, g4w⟩ := run_append_one (α := LevelD) (P := Tryz.prog) (t := 25) (ty := 25) (c := 1) i4 _ 32 Tryz.underlying25 hi4 hz40 hz41 hz42 rfl (by decide) ho' (Nat.le_refl _) D3 C3 O3 (by rw [htl]; omega) (by omega) (show wR.heap.size ≤ wr.heap.size from hsz)
        obtain ⟨a4, n4, hv4, _⟩ := o4'.form
        rw [hln.out] at hv4
        subst hv4
        have B4 := B3.trans (b4.mono hlP)
        have hG4 := (g4w.block gp (by rw [World.size_alloc]; omega) (fun e => by have := ho.ge e.symm; omega)).trans hG3
        have f4 := cell2 hG4
        have z4 := frozen_of_row w4 gp 2 _ _ hG4
        refine wpAnyH_ready (rs := [18]) (by kernel_rfl) (by simp) ?_
        refine AllReadyH.cons rfl (fun K hK => ?_) AllReadyH.nil
        refine step_append_of rfl _ _ rfl rfl rfl r4 ?_
        refine hK.out _ _ (keep1 _ B4) (fun hHeld => ?_)
        clear hK K
        try simp only [Act.put, put1, put2, put3]
        refine takeD (i := 19) (v := .pointer (some ⟨gp, 2, none⟩)) (some 68) rfl rfl (by kernel_rfl) (by kernel_rfl) (by kernel_rfl) (fun _ _ _ h => h) (Or.inl ⟨by rfl, fun w' hw' => ?_⟩) hHeld ?_
        ·first | (go_simp; done) | (obtain ⟨s0, s1, s2⟩ := hw'; go_simp)
        try simp only [Act.put, put1, put2, put3]
        refine wpAnyH_ready (rs := [20]) (by kernel_rfl) (by simp) ?_
        refine AllReadyH.cons rfl (fun K hK => ?_) AllReadyH.nil
        have o6 := o4'.far (p := ⟨gp, 2, none⟩) hgP (.slice a4 (k + 1) n4)
        have G5 := heap_setCell_same w4 gp 2 _ _ (.slice a4 (k + 1) n4) hG4
        have B5 := Below.setCell B4 (p := ⟨gp, 2, none⟩) hlg (.slice a4 (k + 1) n4)
        have X5 := ((hX.step ((Below.refl wR.heap.size wr).drew.trans (D3.mono hsz))).step b4).set 2 (.slice a4 (k + 1) n4)
        go_simp
        refine hK.out _ (w4.setCell ⟨gp, 2, none⟩ (.slice a4 (k + 1) n4)) (keep1 _ B5) (fun hHeld => ?_)
        clear hK K
        rw [← htk.out] at o6
        have o6 := Lib.hid o6
        have G5 := Lib.hid G5
        have X5 := Lib.hid X5
        have Hk := Lib.hid (show k + 1 ≤ p.levels.length by omega)
        clear r4 o4' b4 g4w hG4 f4 z4 C3 O3 D3 hG3 f2 O2 D2 B0 B1 B2 B3 B4 B5 ho' ho hG hG1 hG2 hHeld keep1 hcx r5 o5 hF5 g5w D1 H1 R1 hRl
        refine wpAnyH_done (by kernel_rfl) ?_ _
        go_wp2
        go_roundw
        case rel => exact ⟨k + 1, _, Hk.out, by go_num, o6.out, G5.out, X5.out⟩
        case measure => simp [intOf]; omega
       ·skip
        obtain ⟨v5, w2, F5, r5, o5, hF5, g5w⟩ := run_append_lit (α := Int × Int) (P := Tryz.prog) (t := 32) (ty := 32) i6 _ 16 Tryz.underlying32 hi6 hz60 hz61 hz62 rfl H1 R1 (by omega) (by omega)
        obtain ⟨a5, n5, e5, _⟩ := (OwL.rd (α := Int × Int) o5).sl
        subst e5
        have B2 := grownBelow B1 (by rw [World.size_alloc]; show lo ≤ wr.heap.size + 1; omega) (show lo ≤ wr.drew.heap.size from hls) g5w
        have D2 := D1.grown g5w (by rw [World.size_alloc]; omega) (fun k hk => by cases hk; exact Nat.le_refl _)
        have hG2 := (g5w.block gp (by rw [World.size_alloc]; show gp < wr.heap.size + 1; omega) (fun e => by have := Option.some.inj e; have e2 : wr.drew.heap.size = wr.heap.size := rfl; omega)).trans hG1
        have O2 : Own wr.drew.heap.size w2 [.slice a5 (nth p.levels k).lits.length n5] (nth p.levels k).lits := ⟨F5, o5, fun x hx => by rcases hF5 x hx with h | h <;> rw [h]; exact Nat.le_refl _; rw [World.size_alloc]; omega⟩
        have Z2 : wr.heap.size ≤ w2.heap.size := D2.size
        have f2 := cell2 hG2
        refine step_append_of rfl _ _ rfl rfl rfl r5 ?_
        refine hK.out _ _ (keep1 _ B2) (fun hHeld => ?_)
        clear hK K
        try simp only [Act.put, put1, put2, put3]
        refine takeD (i := 16) (v := .agg #[.int .i64 (nth p.levels k).p, .slice a5 (nth p.levels k).lits.length n5]) (some 65) rfl rfl (by kernel_rfl) (by kernel_rfl) (by kernel_rfl) (fun _ _ _ h => h) (Or.inl ⟨by rfl, fun w' hw' => ?_⟩) hHeld ?_
        ·first | (go_simp; done) | (obtain ⟨s0, s1, s2⟩ := hw'; go_simp)
        try simp only [Act.put, put1, put2, put3]
        refine wpAnyH_ready (rs := [1, 17]) (by kernel_rfl) (by simp) ?_
        refine AllReadyH.cons rfl (fun K hK => ?_) (AllReadyH.cons rfl (fun K hK => ?_) AllReadyH.nil)
        ·skip
         go_simp
         refine hK.out _ _ (keep1 _ B2) (fun hHeld => ?_)
         clear hK K
         try simp only [Act.put, put1, put2, put3]
         refine wpAnyH_ready (rs := [17]) (by kernel_rfl) (by simp) ?_
         refine AllReadyH.cons rfl (fun K hK => ?_) AllReadyH.nil
         go_simp
         have O3 := (own_level O2 hfp).alloc (.cells #[.int .i64 (nth p.levels k).p, .slice a5 (nth p.levels k).lits.length n5] 182)
         have B3 := B2.alloc (show lo ≤ w2.heap.size by omega) (.cells #[.int .i64 (nth p.levels k).p, .slice a5 (nth p.levels k).lits.length n5] 182)
         have D3 := D2.alloc (show wr.drew.heap.size ≤ w2.heap.size from Z2) (.cells #[.int .i64 (nth p.levels k).p, .slice a5 (nth p.levels k).lits.length n5] 182)
         have C3 := Cells.new w2 [.int .i64 (nth p.levels k).p, .slice a5 (nth p.levels k).lits.length n5] 182
         have hG3 := (Below.heap_alloc w2 (.cells #[.int .i64 (nth p.levels k).p, .slice a5 (nth p.levels k).lits.length n5] 182) gp (by omega)).trans hG2
         have f2 := cell2 hG3
         refine hK.out _ _ (keep1 _ B3) (fun hHeld => ?_)
         clear hK K
         try simp only [Act.put, put1, put2, put3]
         obtain ⟨v4, w4, r4, o4', b4, g4w⟩ := run_append_one (α := LevelD) (P := Tryz.prog) (t := 25) (ty := 25) (c := 1) i4 _ 32 Tryz.underlying25 hi4 hz40 hz41 hz42 rfl (by decide) ho' (Nat.le_refl _) D3 C3 O3 (by rw [htl]; omega) (by omega) (show wR.heap.size ≤ wr.heap.size from hsz)
         obtain ⟨a4, n4, hv4, _⟩ := o4'.form
         rw [hln.out] at hv4
         subst hv4
         have B4 := B3.trans (b4.mono hlP)
         have hG4 := (g4w.block gp (by rw [World.size_alloc]; omega) (fun e => by have := ho.ge e.symm; omega)).trans hG3
         have f4 := cell2 hG4
         have z4 := frozen_of_row w4 gp 2 _ _ hG4
         refine wpAnyH_ready (rs := [18]) (by kernel_rfl) (by simp) ?_
         refine AllReadyH.cons rfl (fun K hK => ?_) AllReadyH.nil
         refine step_append_of rfl _ _ rfl rfl rfl r4 ?_
         refine hK.out _ _ (keep1 _ B4) (fun hHeld => ?_)
         clear hK K
         try simp only [Act.put, put1, put2, put3]
         refine takeD (i := 19) (v := .pointer (some ⟨gp, 2, none⟩)) (some 68) rfl rfl (by kernel_rfl) (by kernel_rfl) (by kernel_rfl) (fun _ _ _ h => h) (Or.inl ⟨by rfl, fun w' hw' => ?_⟩) hHeld ?_
         ·first | (go_simp; done) | (obtain ⟨s0, s1, s2⟩ := hw'; go_simp)
         try simp only [Act.put, put1, put2, put3]
         refine wpAnyH_ready (rs := [20]) (by kernel_rfl) (by simp) ?_
         refine AllReadyH.cons rfl (fun K hK => ?_) AllReadyH.nil
         have o6 := o4'.far (p := ⟨gp, 2, none⟩) hgP (.slice a4 (k + 1) n4)
         have G5 := heap_setCell_same w4 gp 2 _ _ (.slice a4 (k + 1) n4) hG4
         have B5 := Below.setCell B4 (p := ⟨gp, 2, none⟩) hlg (.slice a4 (k + 1) n4)
         have X5 := ((hX.step ((Below.refl wR.heap.size wr).drew.trans (D3.mono hsz))).step b4).set 2 (.slice a4 (k + 1) n4)
         go_simp
         refine hK.out _ (w4.setCell ⟨gp, 2, none⟩ (.slice a4 (k + 1) n4)) (keep1 _ B5) (fun hHeld => ?_)
         clear hK K
         rw [← htk.out] at o6
         have o6 := Lib.hid o6
         have G5 := Lib.hid G5
         have X5 := Lib.hid X5
         have Hk := Lib.hid (show k + 1 ≤ p.levels.length by omega)
         clear r4 o4' b4 g4w hG4 f4 z4 C3 O3 D3 hG3 f2 O2 D2 B0 B1 B2 B3 B4 B5 ho' ho hG hG1 hG2 hHeld keep1 hcx r5 o5 hF5 g5w D1 H1 R1 hRl
         refine wpAnyH_done (by kernel_rfl) ?_ _
         go_wp2
         go_roundw
         case rel => exact ⟨k + 1, _, Hk.out, by go_num, o6.out, G5.out, X5.out⟩
         case measure => simp [intOf]; omega
        ·skip
         go_simp
         have O3 := (own_level O2 hfp).alloc (.cells #[.int .i64 (nth p.levels k).p, .slice a5 (nth p.levels k).lits.length n5] 182)
         have B3 := B2.alloc (show lo ≤ w2.heap.size by omega) (.cells #[.int .i64 (nth p.levels k).p, .slice a5 (nth p.levels k).lits.length n5] 182)
         have D3 := D2.alloc (show wr.drew.heap.size ≤ w2.heap.size from Z2) (.cells #[.int .i64 (nth p.levels k).p, .slice a5 (nth p.levels k).lits.length n5] 182)
         have C3 := Cells.new w2 [.int .i64 (nth p.levels k).p, .slice a5 (nth p.levels k).lits.length n5] 182
         have hG3 := (Below.heap_alloc w2 (.cells #[.int .i64 (nth p.levels k).p, .slice a5 (nth p.levels k).lits.length n5] 182) gp (by omega)).trans hG2
         have f2 := cell2 hG3
         refine hK.out _ _ (keep1 _ B3) (fun hHeld => ?_)
         clear hK K
         try simp only [Act.put, put1, put2, put3]
         refine wpAnyH_ready (rs := [1]) (by kernel_rfl) (by simp) ?_
         refine AllReadyH.cons rfl (fun K hK => ?_) AllReadyH.nil
         go_simp
         refine hK.out _ _ (keep1 _ B3) (fun hHeld => ?_)
         clear hK K
         try simp only [Act.put, put1, put2, put3]
         obtain ⟨v4, w4, r4, o4', b4, g4w⟩ := run_append_one (α := LevelD) (P := Tryz.prog) (t := 25) (ty := 25) (c := 1) i4 _ 32 Tryz.underlying25 hi4 hz40 hz41 hz42 rfl (by decide) ho' (Nat.le_refl _) D3 C3 O3 (by rw [htl]; omega) (by omega) (show wR.heap.size ≤ wr.heap.size from hsz)
         obtain ⟨a4, n4, hv4, _⟩ := o4'.form
         rw [hln.out] at hv4
         subst hv4
         have B4 := B3.trans (b4.mono hlP)
         have hG4 := (g4w.block gp (by rw [World.size_alloc]; omega) (fun e => by have := ho.ge e.symm; omega)).trans hG3
         have f4 := cell2 hG4
         have z4 := frozen_of_row w4 gp 2 _ _ hG4
         refine wpAnyH_ready (rs := [18]) (by kernel_rfl) (by simp) ?_
         refine AllReadyH.cons rfl (fun K hK => ?_) AllReadyH.nil
         refine step_append_of rfl _ _ rfl rfl rfl r4 ?_
         refine hK.out _ _ (keep1 _ B4) (fun hHeld => ?_)
         clear hK K
         try simp only [Act.put, put1, put2, put3]
         refine takeD (i := 19) (v := .pointer (some ⟨gp, 2, none⟩)) (some 68) rfl rfl (by kernel_rfl) (by kernel_rfl) (by kernel_rfl) (fun _ _ _ h => h) (Or.inl ⟨by rfl, fun w' hw' => ?_⟩) hHeld ?_
         ·first | (go_simp; done) | (obtain ⟨s0, s1, s2⟩ := hw'; go_simp)
         try simp only [Act.put, put1, put2, put3]
         refine wpAnyH_ready (rs := [20]) (by kernel_rfl) (by simp) ?_
         refine AllReadyH.cons rfl (fun K hK => ?_) AllReadyH.nil
         have o6 := o4'.far (p := ⟨gp, 2, none⟩) hgP (.slice a4 (k + 1) n4)
         have G5 := heap_setCell_same w4 gp 2 _ _ (.slice a4 (k + 1) n4) hG4
         have B5 := Below.setCell B4 (p := ⟨gp, 2, none⟩) hlg (.slice a4 (k + 1) n4)
         have X5 := ((hX.step ((Below.refl wR.heap.size wr).drew.trans (D3.mono hsz))).step b4).set 2 (.slice a4 (k + 1) n4)
         go_simp
         refine hK.out _ (w4.setCell ⟨gp, 2, none⟩ (.slice a4 (k + 1) n4)) (keep1 _ B5) (fun hHeld => ?_)
         clear hK K
         rw [← htk.out] at o6
         have o6 := Lib.hid o6
         have G5 := Lib.hid G5
         have X5 := Lib.hid X5
         have Hk := Lib.hid (show k + 1 ≤ p.levels.length by omega)
         clear r4 o4' b4 g4w hG4 f4 z4 C3 O3 D3 hG3 f2 O2 D2 B0 B1 B2 B3 B4 B5 ho' ho hG hG1 hG2 hHeld keep1 hcx r5 o5 hF5 g5w D1 H1 R1 hRl
         refine wpAnyH_done (by kernel_rfl) ?_ _
         go_wp2
         go_roundw
         case rel => exact ⟨k + 1, _, Hk.out, by go_num, o6.out, G5.out, X5.out⟩
         case measure => simp [intOf]; omega
     ·have hkx : p.levels.take k = p.levels := List.take_of_length_le (by omega)
      rw [hkx] at ho
      clear hkx
      go_wp2
      obtain ⟨wL, rfl⟩ : ∃ wL, wL = wr := ⟨_, rfl⟩
      have hoL := ho.toD
      have hoR := hoR.kept fun f hf _ => hX.block f (by have := hf.2; omega) (fun e => by have := hf.1; omega)
      have hX2 := hX
      have hbP2 := hbw
      have hlP2 : lo ≤ wL.heap.size := by omega
      clear hbP hlP hgP hlt hk ho hcx y0 y1 y2 y3 y4 y5 y6 y7 hX hbw hsz
      have hbP := hbP2
      have hlP := hlP2
      have hgP : gp < wL.heap.size := block_lt hG
      clear hbP2 hlP2
      obtain ⟨vL, hvL⟩ : ∃ vL, vL = vR := ⟨_, rfl⟩
      rw [← hvL] at hG hoL
      clear hvL
      have ho0 : OwnR (α := ShowD) wL.heap.size 185 wL (.slice none 0 0) (p.shows.take 0) := OwnR.nil _ _ _
      go_loopw [6] (fun i wr => ∃ (k : Nat) (vR : Value), k ≤ p.shows.length ∧ i = .int .i64 k ∧ OwnR wL.heap.size 185 wr vR (p.shows.take k) ∧ wr.heap[gp]? = some (.cells #[.int .i64 p.atoms, vRules, vL, .bool p.projOn, .slice a1 p.project.length n1, vR, .slice a2 p.exts.length n2, .slice a3 p.assume.length n3] 30 (0, 0)) ∧ BelX wL.heap.size gp wL wr) (fun i _ => p.shows.length - (intOf i).toNat)
      case atStart => exact ⟨0, _, Nat.zero_le _, rfl, ho0, hG, BelX.refl _ _ _⟩
      case round =>
       clear hG
       obtain ⟨k, vR, hk, rfl, ho, hG, hX⟩ := hrel
       clear ho0
       have hbw := hbP.trans (hX.below hlP hlg)
       have hcx := X.blw hbw hhl
       obtain ⟨y0, y1, y2, y3, y4, y5, y6, y7⟩ := cells8 hcx
       have hsz := hX.size
       by_cases hlt : k < p.shows.length
       ·obtain ⟨b, off, rfl, hc⟩ := hrow5.base (by omega)
        obtain ⟨ecs, hC0, hRd⟩ := hc k hlt
        have hbW := hbw.mono hW0
        have hRd := Rd.mono hbW hRd
        obtain ⟨d1, rfl, hfp, hRl⟩ := hRd
        obtain ⟨ad, cd, rfl, _, _⟩ := hRl.sl
        have hbl : b < lo := by have := hC0.lt; omega
        rw [show Rd.k ShowD = 2 from rfl] at hC0
        have keep1 : ∀ w', Below lo W0 w' → (w'.cell? ⟨h, 5, none⟩ = some (.slice (some ⟨b, off, none⟩) p.shows.length kS) ∧ w'.cell? ⟨b, off + k * 2, none⟩ = some (.string (nth p.shows k).text) ∧ w'.cell? ⟨b, off + k * 2 + 1, none⟩ = some (.slice ad (nth p.shows k).cond.length cd)) := fun w' hb => by
         have q := cells8 (X.blw hb hhl)
         have C := hC0.blw hb hbl
         exact ⟨q.2.2.2.2.2.1, C.c0, C.c1⟩
        have hsm := s5.2 _ (nth_mem hlt)
        have htk := Lib.hid (take_nth hlt)
        have htl : (p.shows.take k).length = k := by rw [List.length_take]; omega
        have hln : Hid ((p.shows.take k ++ [nth p.shows k]).length = k + 1) := by show _ = _; rw [List.length_append, htl]; rfl
        have hkn : (0 : Int) ≤ (k : Int) := by omega
        have hkl : (k : Int) < (p.shows.length : Int) := by omega
        have B0 := hbw.drew
        have ho' := ho.later (Below.refl _ _).drew
        have hls : lo ≤ wr.heap.size := by omega
        have szl := s5.1
        have f2 := cell5 hG
        clear hC0 hc
        go_wp2
        refine wp_region_held_drew (S := fun w' => w'.cell? ⟨h, 5, none⟩ = some (.slice (some ⟨b, off, none⟩) p.shows.length kS) ∧ w'.cell? ⟨b, off + k * 2, none⟩ = some (.string (nth p.shows k).text) ∧ w'.cell? ⟨b, off + k * 2 + 1, none⟩ = some (.slice ad (nth p.shows k).cond.length cd)) (by kernel_rfl) (keep1 _ B0) (fun hHeld => ?_)
        refine takeD (i := 0) (v := .pointer (some ⟨gp, 5, none⟩)) (some 76) rfl rfl (by kernel_rfl) (by kernel_rfl) (by kernel_rfl) (fun _ _ _ h => h) (Or.inl ⟨by rfl, fun w' hw' => ?_⟩) hHeld ?_
        ·first | (go_simp; done) | (obtain ⟨s0, s1, s2⟩ := hw'; go_simp)
        try simp only [Act.put, put1, put2, put3]
        refine takeD (i := 2) (v := .pointer (some ⟨h, 5, none⟩)) (some 78) rfl rfl (by kernel_rfl) (by kernel_rfl) (by kernel_rfl) (fun _ _ _ h => h) (Or.inl ⟨by rfl, fun w' hw' => ?_⟩) hHeld ?_
        ·first | (go_simp; done) | (obtain ⟨s0, s1, s2⟩ := hw'; go_simp)
        try simp only [Act.put, put1, put2, put3]
        refine takeD (i := 3) (v := .slice (some ⟨b, off, none⟩) p.shows.length kS) (some 79) rfl rfl (by kernel_rfl) (by kernel_rfl) (by kernel_rfl) (fun _ _ _ h => h) (Or.inl ⟨by rfl, fun w' hw' => ?_⟩) hHeld ?_
        ·first | (go_simp; done) | (obtain ⟨s0, s1, s2⟩ := hw'; go_simp)
        try simp only [Act.put, put1, put2, put3]
        refine takeD (i := 4) (v := .int .i64 k) (some 80) rfl rfl (by kernel_rfl) (by kernel_rfl) (by kernel_rfl) (fun _ _ _ h => h) (Or.inl ⟨by rfl, fun w' hw' => ?_⟩) hHeld ?_
        ·first | (go_simp; done) | (obtain ⟨s0, s1, s2⟩ := hw'; go_simp)
        try simp only [Act.put, put1, put2, put3]
        refine takeD (i := 5) (v := .pointer (some ⟨b, off + k * 2, none⟩)) (some 81) rfl rfl (by kernel_rfl) (by kernel_rfl) (by kernel_rfl) (fun _ _ _ h => h) (Or.inl ⟨by rfl, fun w' hw' => ?_⟩) hHeld ?_
        ·first | (go_simp; done) | (obtain ⟨s0, s1, s2⟩ := hw'; go_simp)
        try simp only [Act.put, put1, put2, put3]
        refine takeD (i := 6) (v := .pointer (some ⟨b, off + k * 2, none⟩)) (some 82) rfl rfl (by kernel_rfl) (by kernel_rfl) (by kernel_rfl) (fun _ _ _ h => h) (Or.inl ⟨by rfl, fun w' hw' => ?_⟩) hHeld ?_
        ·first | (go_simp; done) | (obtain ⟨s0, s1, s2⟩ := hw'; go_simp)
        try simp only [Act.put, put1, put2, put3]
        refine takeD (i := 7) (v := .string (nth p.shows k).text) (some 83) rfl rfl (by kernel_rfl) (by kernel_rfl) (by kernel_rfl) (fun _ _ _ h => h) (Or.inl ⟨by rfl, fun w' hw' => ?_⟩) hHeld ?_
        ·first | (go_simp; done) | (obtain ⟨s0, s1, s2⟩ := hw'; go_simp)
        try simp only [Act.put, put1, put2, put3]
        refine takeD (i := 9) (v := .pointer (some ⟨h, 5, none⟩)) (some 85) rfl rfl (by kernel_rfl) (by kernel_rfl) (by kernel_rfl) (fun _ _ _ h => h) (Or.inl ⟨by rfl, fun w' hw' => ?_⟩) hHeld ?_
        ·first | (go_simp; done) | (obtain ⟨s0, s1, s2⟩ := hw'; go_simp)
        try simp only [Act.put, put1, put2, put3]
        refine takeD (i := 10) (v := .slice (some ⟨b, off, none⟩) p.shows.length kS) (some 86) rfl rfl (by kernel_rfl) (by kernel_rfl) (by kernel_rfl) (fun _ _ _ h => h) (Or.inl ⟨by rfl, fun w' hw' => ?_⟩) hHeld ?_
        ·first | (go_simp; done) | (obtain ⟨s0, s1, s2⟩ := hw'; go_simp)
        try simp only [Act.put, put1, put2, put3]
        refine takeD (i := 11) (v := .int .i64 k) (some 87) rfl rfl (by kernel_rfl) (by kernel_rfl) (by kernel_rfl) (fun _ _ _ h => h) (Or.inl ⟨by rfl, fun w' hw' => ?_⟩) hHeld ?_
        ·first | (go_simp; done) | (obtain ⟨s0, s1, s2⟩ := hw'; go_simp)
        try simp only [Act.put, put1, put2, put3]
        refine takeD (i := 12) (v := .pointer (some ⟨b, off + k * 2, none⟩)) (some 88) rfl rfl (by kernel_rfl) (by kernel_rfl) (by kernel_rfl) (fun _ _ _ h => h) (Or.inl ⟨by rfl, fun w' hw' => ?_⟩) hHeld ?_
        ·first | (go_simp; done) | (obtain ⟨s0, s1, s2⟩ := hw'; go_simp)
        try simp only [Act.put, put1, put2, put3]
        refine takeD (i := 13) (v := .pointer (some ⟨b, off + k * 2 + 1, none⟩)) (some 89) rfl rfl (by kernel_rfl) (by kernel_rfl) (by kernel_rfl) (fun _ _ _ h => h) (Or.inl ⟨by rfl, fun w' hw' => ?_⟩) hHeld ?_
        ·first | (go_simp; done) | (obtain ⟨s0, s1, s2⟩ := hw'; go_simp)
        try simp only [Act.put, put1, put2, put3]
        refine takeD (i := 14) (v := .slice ad (nth p.shows k).cond.length cd) (some 90) rfl rfl (by kernel_rfl) (by kernel_rfl) (by kernel_rfl) (fun _ _ _ h => h) (Or.inl ⟨by rfl, fun w' hw' => ?_⟩) hHeld ?_
        ·first | (go_simp; done) | (obtain ⟨s0, s1, s2⟩ := hw'; go_simp)
        try simp only [Act.put, put1, put2, put3]
        refine wpAnyH_ready (rs := [1, 8]) (by kernel_rfl) (by simp) ?_
        refine AllReadyH.cons rfl (fun K hK => ?_) (AllReadyH.cons rfl (fun K hK => ?_) AllReadyH.nil)
        ·skip
         go_simp
         refine hK.out _ _ (keep1 _ B0) (fun hHeld => ?_)
         clear hK K
         try simp only [Act.put, put1, put2, put3]
         refine wpAnyH_ready (rs := [8]) (by kernel_rfl) (by simp) ?_
         refine AllReadyH.cons rfl (fun K hK => ?_) AllReadyH.nil
         go_simp
         have B1 := B0.alloc (show lo ≤ wr.heap.size from hls) (.cells #[] 3)
         have D1 := (Below.refl wr.drew.heap.size wr.drew).alloc (Nat.le_refl _) (.cells #[] 3)
         have H1 := alloc_block wr.drew #[] 3
         have hG1 := (Below.heap_alloc wr.drew (.cells #[] 3) gp (by show gp < wr.heap.size; omega)).trans hG
         have R1 := Rd.mono (α := List (Int)) (D1.trans (Below.refl _ _)) (Rd.mono (α := List (Int)) (Below.refl _ _).drew hRl)
         have f2 : (wr.alloc (.cells #[] 3)).cell? ⟨gp, 5, none⟩ = some vR := cell5 (W := wr.alloc (.cells #[] 3)) hG1
         refine hK.out _ _ (keep1 _ B1) (fun hHeld => ?_)
         clear hK K
         try simp only [Act.put, put1, put2, put3]
         refine wpAnyH_ready (rs := [15]) (by kernel_rfl) (by simp) ?_
         refine AllReadyH.cons rfl (fun K hK => ?_) AllReadyH.nil
         obtain ⟨v5, w2, F5, r5, o5, hF5, g5w⟩ := run_append_lit (α := Int) (P := Tryz.prog) (t := 26) (ty := 26) i1 _ 8 Tryz.underlying26 hi1 hz10 hz11 hz12 rfl H1 R1 (by omega) (by omega)
         obtain ⟨a5, n5, e5, _⟩ := (OwL.rd (α := Int) o5).sl
         subst e5
         have B2 := grownBelow B1 (by rw [World.size_alloc]; show lo ≤ wr.heap.size + 1; omega) (show lo ≤ wr.drew.heap.size from hls) g5w
         have D2 := D1.grown g5w (by rw [World.size_alloc]; omega) (fun k hk => by cases hk; exact Nat.le_refl _)
         have hG2 := (g5w.block gp (by rw [World.size_alloc]; show gp < wr.heap.size + 1; omega) (fun e => by have := Option.some.inj e; have e2 : wr.drew.heap.size = wr.heap.size := rfl; omega)).trans hG1
         have O2 : Own wr.drew.heap.size w2 [.slice a5 (nth p.shows k).cond.length n5] (nth p.shows k).cond := ⟨F5, o5, fun x hx => by rcases hF5 x hx with h | h <;> rw [h]; exact Nat.le_refl _; rw [World.size_alloc]; omega⟩
         have Z2 : wr.heap.size ≤ w2.heap.size := D2.size
         have f2 := cell5 hG2
         refine step_append_of rfl _ _ rfl rfl rfl r5 ?_
         refine hK.out _ _ (keep1 _ B2) (fun hHeld => ?_)
         clear hK K
         try simp only [Act.put, put1, put2, put3]
         refine takeD (i := 16) (v := .agg #[.string (nth p.shows k).text, .slice a5 (nth p.shows k).cond.length n5]) (some 92) rfl rfl (by kernel_rfl) (by kernel_rfl) (by kernel_rfl) (fun _ _ _ h => h) (Or.inl ⟨by rfl, fun w' hw' => ?_⟩) hHeld ?_
         ·first | (go_simp; done) | (obtain ⟨s0, s1, s2⟩ := hw'; go_simp)
         try simp only [Act.put, put1, put2, put3]
         refine wpAnyH_ready (rs := [17]) (by kernel_rfl) (by simp) ?_
         refine AllReadyH.cons rfl (fun K hK => ?_) AllReadyH.nil
         go_simp
         have O3 := (own_show O2 hfp).alloc (.cells #[.string (nth p.shows k).text, .slice a5 (nth p.shows k).cond.length n5] 185)
         have B3 := B2.alloc (show lo ≤ w2.heap.size by omega) (.cells #[.string (nth p.shows k).text, .slice a5 (nth p.shows k).cond.length n5] 185)
         have D3 := D2.alloc (show wr.drew.heap.size ≤ w2.heap.size from Z2) (.cells #[.string (nth p.shows k).text, .slice a5 (nth p.shows k).cond.length n5] 185)
         have C3 := Cells.new w2 [.string (nth p.shows k).text, .slice a5 (nth p.shows k).cond.length n5] 185
         have hG3 := (Below.heap_alloc w2 (.cells #[.string (nth p.shows k).text, .slice a5 (nth p.shows k).cond.length n5] 185) gp (by omega)).trans hG2
         have f2 := cell5 hG3
         refine hK.out _ _ (keep1 _ B3) (fun hHeld => ?_)
         clear hK K
         try simp only [Act.put, put1, put2, put3]
         obtain ⟨v4, w4, r4, o4', b4, g4w⟩ := run_append_one (α := ShowD) (P := Tryz.prog) (t := 27) (ty := 27) (c := 1) i5 _ 40 Tryz.underlying27 hi5 hz50 hz51 hz52 rfl (by decide) ho' (Nat.le_refl _) D3 C3 O3 (by rw [htl]; omega) (by omega) (show wL.heap.size ≤ wr.heap.size from hsz)
         obtain ⟨a4, n4, hv4, _⟩ := o4'.form
         rw [hln.out] at hv4
         subst hv4
         have B4 := B3.trans (b4.mono hlP)
         have hG4 := (g4w.block gp (by rw [World.size_alloc]; omega) (fun e => by have := ho.ge e.symm; omega)).trans hG3
         have f4 := cell5 hG4
         have z4 := frozen_of_row w4 gp 5 _ _ hG4
         refine wpAnyH_ready (rs := [18]) (by kernel_rfl) (by simp) ?_
         refine AllReadyH.cons rfl (fun K hK => ?_) AllReadyH.nil
         refine step_append_of rfl _ _ rfl rfl rfl r4 ?_
         refine hK.out _ _ (keep1 _ B4) (fun hHeld => ?_)
         clear hK K
         try simp only [Act.put, put1, put2, put3]
         refine takeD (i := 19) (v := .pointer (some ⟨gp, 5, none⟩)) (some 95) rfl rfl (by kernel_rfl) (by kernel_rfl) (by kernel_rfl) (fun _ _ _ h => h) (Or.inl ⟨by rfl, fun w' hw' => ?_⟩) hHeld ?_
         ·first | (go_simp; done) | (obtain ⟨s0, s1, s2⟩ := hw'; go_simp)
         try simp only [Act.put, put1, put2, put3]
         refine wpAnyH_ready (rs := [20]) (by kernel_rfl) (by simp) ?_
         refine AllReadyH.cons rfl (fun K hK => ?_) AllReadyH.nil
         have o6 := o4'.far (p := ⟨gp, 5, none⟩) hgP (.slice a4 (k + 1) n4)
         have G5 := heap_setCell_same w4 gp 5 _ _ (.slice a4 (k + 1) n4) hG4
         have B5 := Below.setCell B4 (p := ⟨gp, 5, none⟩) hlg (.slice a4 (k + 1) n4)
         have X5 := ((hX.step ((Below.refl wL.heap.size wr).drew.trans (D3.mono hsz))).step b4).set 5 (.slice a4 (k + 1) n4)
         go_simp
         refine hK.out _ (w4.setCell ⟨gp, 5, none⟩ (.slice a4 (k + 1) n4)) (keep1 _ B5) (fun hHeld => ?_)
         clear hK K
         rw [← htk.out] at o6
         have o6 := Lib.hid o6
         have G5 := Lib.hid G5
         have X5 := Lib.hid X5
         have Hk := Lib.hid (show k + 1 ≤ p.shows.length by omega)
         clear r4 o4' b4 g4w hG4 f4 z4 C3 O3 D3 hG3 f2 O2 D2 B0 B1 B2 B3 B4 B5 ho' ho hG hG1 hG2 hHeld keep1 hcx r5 o5 hF5 g5w D1 H1 R1 hRl
         refine wpAnyH_done (by kernel_rfl) ?_ _
         go_wp2
         go_roundw
         case rel => exact ⟨k + 1, _, Hk.out, by go_num, o6.out, G5.out, X5.out⟩
         case measure => simp [intOf]; omega
        ·skip
         go_simp
         have B1 := B0.alloc (show lo ≤ wr.heap.size from hls) (.cells #[] 3)
         have D1 := (Below.refl wr.drew.heap.size wr.drew).alloc (Nat.le_refl _) (.cells #[] 3)
         have H1 := alloc_block wr.drew #[] 3
         have hG1 := (Below.heap_alloc wr.drew (.cells #[] 3) gp (by show gp < wr.heap.size; omega)).trans hG
         have R1 := Rd.mono (α := List (Int)) (D1.trans (Below.refl _ _)) (Rd.mono (α := List (Int)) (Below.refl _ _).drew hRl)
         have f2 : (wr.alloc (.cells #[] 3)).cell? ⟨gp, 5, none⟩ = some vR := cell5 (W := wr.alloc (.cells #[] 3)) hG1
         refine hK.out _ _ (keep1 _ B1) (fun hHeld => ?_)
         clear hK K
         try simp only [Act.put, put1, put2, put3]
         refine wpAnyH_ready (rs := [1, 15]) (by kernel_rfl) (by simp) ?_
         refine AllReadyH.cons rfl (fun K hK => ?_) (AllReadyH.cons rfl (fun K hK => ?_) AllReadyH.nil)
         ·skip
          go_simp
          refine hK.out _ _ (keep1 _ B1) (fun hHeld => ?_)
          clear hK K
          try simp only [Act.put, put1, put2, put3]
          refine wpAnyH_ready (rs := [15]) (by kernel_rfl) (by simp) ?_
          refine AllReadyH.cons rfl (fun K hK => ?_) AllReadyH.nil
          obtain ⟨v5, w2, F5, r5, o5, hF5, g5w⟩ := run_append_lit (α := Int) (P := Tryz.prog) (t := 26) (ty := 26) i1 _ 8 Tryz.underlying26 hi1 hz10 hz11 hz12 rfl H1 R1 (by omega) (by omega)
          obtain ⟨a5, n5, e5, _⟩ := (OwL.rd (α := Int) o5).sl
          subst e5
          have B2 := grownBelow B1 (by rw [World.size_alloc]; show lo ≤ wr.heap.size + 1; omega) (show lo ≤ wr.drew.heap.size from hls) g5w
          have D2 := D1.grown g5w (by rw [World.size_alloc]; omega) (fun k hk => by cases hk; exact Nat.le_refl _)
          have hG2 := (g5w.block gp (by rw [World.size_alloc]; show gp < wr.heap.size + 1; omega) (fun e => by have := Option.some.inj e; have e2 : wr.drew.heap.size = wr.heap.size := rfl; omega)).trans hG1
          have O2 : Own wr.drew.heap.size w2 [.slice a5 (nth p.shows k).cond.length n5] (nth p.shows k).cond := ⟨F5, o5, fun x hx => by rcases hF5 x hx with h | h <;> rw [h]; exact Nat.le_refl _; rw [World.size_alloc]; omega⟩
          have Z2 : wr.heap.size ≤ w2.heap.size := D2.size
          have f2 := cell5 hG2
          refine step_append_of rfl _ _ rfl rfl rfl r5 ?_
          refine hK.out _ _ (keep1 _ B2) (fun hHeld => ?_)
          clear hK K
          try simp only [Act.put, put1, put2, put3]
          refine takeD (i := 16) (v := .agg #[.string (nth p.shows k).text, .slice a5 (nth p.shows k).cond.length n5]) (some 92) rfl rfl (by kernel_rfl) (by kernel_rfl) (by kernel_rfl) (fun _ _ _ h => h) (Or.inl ⟨by rfl, fun w' hw' => ?_⟩) hHeld ?_
          ·first | (go_simp; done) | (obtain ⟨s0, s1, s2⟩ := hw'; go_simp)
          try simp only [Act.put, put1, put2, put3]
          refine wpAnyH_ready (rs := [17]) (by kernel_rfl) (by simp) ?_
          refine AllReadyH.cons rfl (fun K hK => ?_) AllReadyH.nil
          go_simp
          have O3 := (own_show O2 hfp).alloc (.cells #[.string (nth p.shows k).text, .slice a5 (nth p.shows k).cond.length n5] 185)
          have B3 := B2.alloc (show lo ≤ w2.heap.size by omega) (.cells #[.string (nth p.shows k).text, .slice a5 (nth p.shows k).cond.length n5] 185)
          have D3 := D2.alloc (show wr.drew.heap.size ≤ w2.heap.size from Z2) (.cells #[.string (nth p.shows k).text, .slice a5 (nth p.shows k).cond.length n5] 185)
          have C3 := Cells.new w2 [.string (nth p.shows k).text, .slice a5 (nth p.shows k).cond.length n5] 185
          have hG3 := (Below.heap_alloc w2 (.cells #[.string (nth p.shows k).text, .slice a5 (nth p.shows k).cond.length n5] 185) gp (by omega)).trans hG2
          have f2 := cell5 hG3
          refine hK.out _ _ (keep1 _ B3) (fun hHeld => ?_)
          clear hK K
          try simp only [Act.put, put1, put2, put3]
          obtain ⟨v4, w4, r4, o4', b4, g4w⟩ := run_append_one (α := ShowD) (P := Tryz.prog) (t := 27) (ty := 27) (c := 1) i5 _ 40 Tryz.underlying27 hi5 hz50 hz51 hz52 rfl (by decide) ho' (Nat.le_refl _) D3 C3 O3 (by rw [htl]; omega) (by omega) (show wL.heap.size ≤ wr.heap.size from hsz)
          obtain ⟨a4, n4, hv4, _⟩ := o4'.form
          rw [hln.out] at hv4
          subst hv4
          have B4 := B3.trans (b4.mono hlP)
          have hG4 := (g4w.block gp (by rw [World.size_alloc]; omega) (fun e => by have := ho.ge e.symm; omega)).trans hG3
          have f4 := cell5 hG4
          have z4 := frozen_of_row w4 gp 5 _ _ hG4
          refine wpAnyH_ready (rs := [18]) (by kernel_rfl) (by simp) ?_
          refine AllReadyH.cons rfl (fun K hK => ?_) AllReadyH.nil
          refine step_append_of rfl _ _ rfl rfl rfl r4 ?_
          refine hK.out _ _ (keep1 _ B4) (fun hHeld => ?_)
          clear hK K
          try simp only [Act.put, put1, put2, put3]
          refine takeD (i := 19) (v := .pointer (some ⟨gp, 5, none⟩)) (some 95) rfl rfl (by kernel_rfl) (by kernel_rfl) (by kernel_rfl) (fun _ _ _ h => h) (Or.inl ⟨by rfl, fun w' hw' => ?_⟩) hHeld ?_
          ·first | (go_simp; done) | (obtain ⟨s0, s1, s2⟩ := hw'; go_simp)
          try simp only [Act.put, put1, put2, put3]
          refine wpAnyH_ready (rs := [20]) (by kernel_rfl) (by simp) ?_
          refine AllReadyH.cons rfl (fun K hK => ?_) AllReadyH.nil
          have o6 := o4'.far (p := ⟨gp, 5, none⟩) hgP (.slice a4 (k + 1) n4)
          have G5 := heap_setCell_same w4 gp 5 _ _ (.slice a4 (k + 1) n4) hG4
          have B5 := Below.setCell B4 (p := ⟨gp, 5, none⟩) hlg (.slice a4 (k + 1) n4)
          have X5 := ((hX.step ((Below.refl wL.heap.size wr).drew.trans (D3.mono hsz))).step b4).set 5 (.slice a4 (k + 1) n4)
          go_simp
          refine hK.out _ (w4.setCell ⟨gp, 5, none⟩ (.slice a4 (k + 1) n4)) (keep1 _ B5) (fun hHeld => ?_)
          clear hK K
          rw [← htk.out] at o6
          have o6 := Lib.hid o6
          have G5 := Lib.hid G5
          have X5 := Lib.hid X5
          have Hk := Lib.hid (show k + 1 ≤ p.shows.length by omega)
          clear r4 o4' b4 g4w hG4 f4 z4 C3 O3 D3 hG3 f2 O2 D2 B0 B1 B2 B3 B4 B5 ho' ho hG hG1 hG2 hHeld keep1 hcx r5 o5 hF5 g5w D1 H1 R1 hRl
          refine wpAnyH_done (by kernel_rfl) ?_ _
          go_wp2
          go_roundw
          case rel => exact ⟨k + 1, _, Hk.out, by go_num, o6.out, G5.out, X5.out⟩
          case measure => simp [intOf]; omega
         ·skip
          obtain ⟨v5, w2, F5, r5, o5, hF5, g5w⟩ := run_append_lit (α := Int) (P := Tryz.prog) (t := 26) (ty := 26) i1 _ 8 Tryz.underlying26 hi1 hz10 hz11 hz12 rfl H1 R1 (by omega) (by omega)
          obtain ⟨a5, n5, e5, _⟩ := (OwL.rd (α := Int) o5).sl
          subst e5
          have B2 := grownBelow B1 (by rw [World.size_alloc]; show lo ≤ wr.heap.size + 1; omega) (show lo ≤ wr.drew.heap.size from hls) g5w
          have D2 := D1.grown g5w (by rw [World.size_alloc]; omega) (fun k hk => by cases hk; exact Nat.le_refl _)
          have hG2 := (g5w.block gp (by rw [World.size_alloc]; show gp < wr.heap.size + 1; omega) (fun e => by have := Option.some.inj e; have e2 : wr.drew.heap.size = wr.heap.size := rfl; omega)).trans hG1
          have O2 : Own wr.drew.heap.size w2 [.slice a5 (nth p.shows k).cond.length n5] (nth p.shows k).cond := ⟨F5, o5, fun x hx => by rcases hF5 x hx with h | h <;> rw [h]; exact Nat.le_refl _; rw [World.size_alloc]; omega⟩
          have Z2 : wr.heap.size ≤ w2.heap.size := D2.size
          have f2 := cell5 hG2
          refine step_append_of rfl _ _ rfl rfl rfl r5 ?_
          refine hK.out _ _ (keep1 _ B2) (fun hHeld => ?_)
          clear hK K
          try simp only [Act.put, put1, put2, put3]
          refine takeD (i := 16) (v := .agg #[.string (nth p.shows k).text, .slice a5 (nth p.shows k).cond.length n5]) (some 92) rfl rfl (by kernel_rfl) (by kernel_rfl) (by kernel_rfl) (fun _ _ _ h => h) (Or.inl ⟨by rfl, fun w' hw' => ?_⟩) hHeld ?_
          ·first | (go_simp; done) | (obtain ⟨s0, s1, s2⟩ := hw'; go_simp)
          try simp only [Act.put, put1, put2, put3]
          refine wpAnyH_ready (rs := [1, 17]) (by kernel_rfl) (by simp) ?_
          refine AllReadyH.cons rfl (fun K hK => ?_) (AllReadyH.cons rfl (fun K hK => ?_) AllReadyH.nil)
          ·skip
           go_simp
           refine hK.out _ _ (keep1 _ B2) (fun hHeld => ?_)
           clear hK K
           try simp only [Act.put, put1, put2, put3]
           refine wpAnyH_ready (rs := [17]) (by kernel_rfl) (by simp) ?_
           refine AllReadyH.cons rfl (fun K hK => ?_) AllReadyH.nil
           go_simp
           have O3 := (own_show O2 hfp).alloc (.cells #[.string (nth p.shows k).text, .slice a5 (nth p.shows k).cond.length n5] 185)
           have B3 := B2.alloc (show lo ≤ w2.heap.size by omega) (.cells #[.string (nth p.shows k).text, .slice a5 (nth p.shows k).cond.length n5] 185)
           have D3 := D2.alloc (show wr.drew.heap.size ≤ w2.heap.size from Z2) (.cells #[.string (nth p.shows k).text, .slice a5 (nth p.shows k).cond.length n5] 185)
           have C3 := Cells.new w2 [.string (nth p.shows k).text, .slice a5 (nth p.shows k).cond.length n5] 185
           have hG3 := (Below.heap_alloc w2 (.cells #[.string (nth p.shows k).text, .slice a5 (nth p.shows k).cond.length n5] 185) gp (by omega)).trans hG2
           have f2 := cell5 hG3
           refine hK.out _ _ (keep1 _ B3) (fun hHeld => ?_)
           clear hK K
           try simp only [Act.put, put1, put2, put3]
           obtain ⟨v4, w4, r4, o4', b4, g4w⟩ := run_append_one (α := ShowD) (P := Tryz.prog) (t := 27) (ty := 27) (c := 1) i5 _ 40 Tryz.underlying27 hi5 hz50 hz51 hz52 rfl (by decide) ho' (Nat.le_refl _) D3 C3 O3 (by rw [htl]; omega) (by omega) (show wL.heap.size ≤ wr.heap.size from hsz)
           obtain ⟨a4, n4, hv4, _⟩ := o4'.form
           rw [hln.out] at hv4
           subst hv4
           have B4 := B3.trans (b4.mono hlP)
           have hG4 := (g4w.block gp (by rw [World.size_alloc]; omega) (fun e => by have := ho.ge e.symm; omega)).trans hG3
           have f4 := cell5 hG4
           have z4 := frozen_of_row w4 gp 5 _ _ hG4
           refine wpAnyH_ready (rs := [18]) (by kernel_rfl) (by simp) ?_
           refine AllReadyH.cons rfl (fun K hK => ?_) AllReadyH.nil
           refine step_append_of rfl _ _ rfl rfl rfl r4 ?_
           refine hK.out _ _ (keep1 _ B4) (fun hHeld => ?_)
           clear hK K
           try simp only [Act.put, put1, put2, put3]
           refine takeD (i := 19) (v := .pointer (some ⟨gp, 5, none⟩)) (some 95) rfl rfl (by kernel_rfl) (by kernel_rfl) (by kernel_rfl) (fun _ _ _ h => h) (Or.inl ⟨by rfl, fun w' hw' => ?_⟩) hHeld ?_
           ·first | (go_simp; done) | (obtain ⟨s0, s1, s2⟩ := hw'; go_simp)
           try simp only [Act.put, put1, put2, put3]
           refine wpAnyH_ready (rs := [20]) (by kernel_rfl) (by simp) ?_
           refine AllReadyH.cons rfl (fun K hK => ?_) AllReadyH.nil
           have o6 := o4'.far (p := ⟨gp, 5, none⟩) hgP (.slice a4 (k + 1) n4)
           have G5 := heap_setCell_same w4 gp 5 _ _ (.slice a4 (k + 1) n4) hG4
           have B5 := Below.setCell B4 (p := ⟨gp, 5, none⟩) hlg (.slice a4 (k + 1) n4)
           have X5 := ((hX.step ((Below.refl wL.heap.size wr).drew.trans (D3.mono hsz))).step b4).set 5 (.slice a4 (k + 1) n4)
           go_simp
           refine hK.out _ (w4.setCell ⟨gp, 5, none⟩ (.slice a4 (k + 1) n4)) (keep1 _ B5) (fun hHeld => ?_)
           clear hK K
           rw [← htk.out] at o6
           have o6 := Lib.hid o6
           have G5 := Lib.hid G5
           have X5 := Lib.hid X5
           have Hk := Lib.hid (show k + 1 ≤ p.shows.length by omega)
           clear r4 o4' b4 g4w hG4 f4 z4 C3 O3 D3 hG3 f2 O2 D2 B0 B1 B2 B3 B4 B5 ho' ho hG hG1 hG2 hHeld keep1 hcx r5 o5 hF5 g5w D1 H1 R1 hRl
           refine wpAnyH_done (by kernel_rfl) ?_ _
           go_wp2
           go_roundw
           case rel => exact ⟨k + 1, _, Hk.out, by go_num, o6.out, G5.out, X5.out⟩
           case measure => simp [intOf]; omega
          ·skip
           go_simp
           have O3 := (own_show O2 hfp).alloc (.cells #[.string (nth p.shows k).text, .slice a5 (nth p.shows k).cond.length n5] 185)
           have B3 := B2.alloc (show lo ≤ w2.heap.size by omega) (.cells #[.string (nth p.shows k).text, .slice a5 (nth p.shows k).cond.length n5] 185)
           have D3 := D2.alloc (show wr.drew.heap.size ≤ w2.heap.size from Z2) (.cells #[.string (nth p.shows k).text, .slice a5 (nth p.shows k).cond.length n5] 185)
           have C3 := Cells.new w2 [.string (nth p.shows k).text, .slice a5 (nth p.shows k).cond.length n5] 185
           have hG3 := (Below.heap_alloc w2 (.cells #[.string (nth p.shows k).text, .slice a5 (nth p.shows k).cond.length n5] 185) gp (by omega)).trans hG2
           have f2 := cell5 hG3
           refine hK.out _ _ (keep1 _ B3) (fun hHeld => ?_)
           clear hK K
           try simp only [Act.put, put1, put2, put3]
           refine wpAnyH_ready (rs := [1]) (by kernel_rfl) (by simp) ?_
           refine AllReadyH.cons rfl (fun K hK => ?_) AllReadyH.nil
           go_simp
           refine hK.out _ _ (keep1 _ B3) (fun hHeld => ?_)
           clear hK K
           try simp only [Act.put, put1, put2, put3]
           obtain ⟨v4, w4, r4, o4', b4, g4w⟩ := run_append_one (α := ShowD) (P := Tryz.prog) (t := 27) (ty := 27) (c := 1) i5 _ 40 Tryz.underlying27 hi5 hz50 hz51 hz52 rfl (by decide) ho' (Nat.le_refl _) D3 C3 O3 (by rw [htl]; omega) (by omega) (show wL.heap.size ≤ wr.heap.size from hsz)
           obtain ⟨a4, n4, hv4, _⟩ := o4'.form
           rw [hln.out] at hv4
           subst hv4
           have B4 := B3.trans (b4.mono hlP)
           have hG4 := (g4w.block gp (by rw [World.size_alloc]; omega) (fun e => by have := ho.ge e.symm; omega)).trans hG3
           have f4 := cell5 hG4
           have z4 := frozen_of_row w4 gp 5 _ _ hG4
           refine wpAnyH_ready (rs := [18]) (by kernel_rfl) (by simp) ?_
           refine AllReadyH.cons rfl (fun K hK => ?_) AllReadyH.nil
           refine step_append_of rfl _ _ rfl rfl rfl r4 ?_
           refine hK.out _ _ (keep1 _ B4) (fun hHeld => ?_)
           clear hK K
           try simp only [Act.put, put1, put2, put3]
           refine takeD (i := 19) (v := .pointer (some ⟨gp, 5, none⟩)) (some 95) rfl rfl (by kernel_rfl) (by kernel_rfl) (by kernel_rfl) (fun _ _ _ h => h) (Or.inl ⟨by rfl, fun w' hw' => ?_⟩) hHeld ?_
           ·first | (go_simp; done) | (obtain ⟨s0, s1, s2⟩ := hw'; go_simp)
           try simp only [Act.put, put1, put2, put3]
           refine wpAnyH_ready (rs := [20]) (by kernel_rfl) (by simp) ?_
           refine AllReadyH.cons rfl (fun K hK => ?_) AllReadyH.nil
           have o6 := o4'.far (p := ⟨gp, 5, none⟩) hgP (.slice a4 (k + 1) n4)
           have G5 := heap_setCell_same w4 gp 5 _ _ (.slice a4 (k + 1) n4) hG4
           have B5 := Below.setCell B4 (p := ⟨gp, 5, none⟩) hlg (.slice a4 (k + 1) n4)
           have X5 := ((hX.step ((Below.refl wL.heap.size wr).drew.trans (D3.mono hsz))).step b4).set 5 (.slice a4 (k + 1) n4)
           go_simp
           refine hK.out _ (w4.setCell ⟨gp, 5, none⟩ (.slice a4 (k + 1) n4)) (keep1 _ B5) (fun hHeld => ?_)
           clear hK K
           rw [← htk.out] at o6
           have o6 := Lib.hid o6
           have G5 := Lib.hid G5
           have X5 := Lib.hid X5
           have Hk := Lib.hid (show k + 1 ≤ p.shows.length by omega)
           clear r4 o4' b4 g4w hG4 f4 z4 C3 O3 D3 hG3 f2 O2 D2 B0 B1 B2 B3 B4 B5 ho' ho hG hG1 hG2 hHeld keep1 hcx r5 o5 hF5 g5w D1 H1 R1 hRl
           refine wpAnyH_done (by kernel_rfl) ?_ _
           go_wp2
           go_roundw
           case rel => exact ⟨k + 1, _, Hk.out, by go_num, o6.out, G5.out, X5.out⟩
           case measure => simp [intOf]; omega
       ·have hkx : p.shows.take k = p.shows := List.take_of_length_le (by omega)
        rw [hkx] at ho
        clear hkx
        have hS := ho.toD
        have hoR2 := hoR.kept fun f hf _ => hX.block f (by have := hf.2; have := hX2.size; omega) (fun e => by have := hf.1; omega)
        have hoL2 := hoL.kept fun f hf _ => hX.block f hf.2 (fun e => by have := hf.1; have := hX1.size; omega)
        have kept3 : ∀ g, g < w1.heap.size → g ≠ gp → wr.heap[g]? = w1.heap[g]? := fun g h1 h2 => (hX.block g (by have := hX1.size; have := hX2.size; omega) h2).trans ((hX2.block g (by have := hX1.size; omega) h2).trans (hX1.block g h1 h2))
        have q1' := Ow.kept (α := List Int) q1 fun g hg => kept3 g (hap.b1 g hg).2 (fun e => hap.d14 g hg (by simp [e]))
        have q2' := Ow.kept (α := List (Int × Int)) q2 fun g hg => kept3 g (hap.b2 g hg).2 (fun e => hap.d24 g hg (by simp [e]))
        have q3' := Ow.kept (α := List Int) q3 fun g hg => kept3 g (hap.b3 g hg).2 (fun e => hap.d34 g hg (by simp [e]))
        obtain ⟨aR, nR, eR⟩ := hoR2.form
        subst eR
        obtain ⟨aL, nL, eL⟩ := hoL2.form
        subst eL
        obtain ⟨aW, nW, eW⟩ := hS.form
        subst eW
        have hz1 := hX1.size
        have hz2 := hX2.size
        have CG : Cells wr gp 0 [.int .i64 p.atoms, .slice aR p.rules.length nR, .slice aL p.levels.length nL, .bool p.projOn, .slice a1 p.project.length n1, .slice aW p.shows.length nW, .slice a2 p.exts.length n2, .slice a3 p.assume.length n3] := fun j v hv => by
         rw [Nat.zero_add, cell_of_row wr gp j _ _ _ hG]; simpa using hv
        have hRb := (hbw.block (h + 1) hhl1).trans HR.out
        have CZ : Cells wr (h + 1) 0 [.int .i64 0, .slice none 0 0, .slice none 0 0, .bool false, .slice none 0 0, .slice none 0 0, .slice none 0 0, .slice none 0 0] := fun j v hv => by
         rw [Nat.zero_add, cell_of_row wr (h + 1) j _ _ _ hRb]; simpa using hv
        have hfz := fun j => frozen_of_row wr (h + 1) j _ _ hRb
        obtain ⟨x0, x1, x2, x3, x4, x5, x6, x7⟩ := cells8 CG
        obtain ⟨z0, z1, z2, z3, z4, z5, z6, z7⟩ := cells8 CZ
        have hzr : h + 1 < wr.heap.size := by omega
        obtain ⟨f2, l2, e2⟩ := hoL2.own
        obtain ⟨f5, l5, e5⟩ := hS.own
        have HPR : OwnPR lo wr.heap.size (fun f => w1.heap.size ≤ f ∧ f < wR.heap.size) wr (.slice aR p.rules.length nR) (.slice aL p.levels.length nL) (.slice a1 p.project.length n1) (.slice aW p.shows.length nW) (.slice a2 p.exts.length n2) (.slice a3 p.assume.length n3) p := by
         refine ⟨f2 ++ (F1 ++ (f5 ++ (F2 ++ F3))), HF.out, hoR2.weak hl1 fun _ h => h, ⟨f2, F1, f5, F2, F3, l2, q1', l5, q2', q3', rfl, nodup_five (Ow.nodup (α := List LevelD) l2) (Ow.nodup (α := List Int) q1') (Ow.nodup (α := List ShowD) l5) (Ow.nodup (α := List (Int × Int)) q2') (Ow.nodup (α := List Int) q3')
          (fun g a b => by have := e2 g a; have := hap.b1 g b; omega) (fun g a b => by have := e2 g a; have := e5 g b; omega) (fun g a b => by have := e2 g a; have := hap.b2 g b; omega) (fun g a b => by have := e2 g a; have := hap.b3 g b; omega)
          (fun g a b => by have := hap.b1 g a; have := e5 g b; omega) hap.d12 hap.d13 (fun g a b => by have := e5 g a; have := hap.b2 g b; omega) (fun g a b => by have := e5 g a; have := hap.b3 g b; omega) hap.d23⟩, fun g hg => ?_, fun g hg => Nat.le_trans hl1 hg.1⟩
         simp only [List.mem_append] at hg
         have hh : lo ≤ g ∧ g < wr.heap.size ∧ (g < w1.heap.size ∨ wR.heap.size ≤ g) := by
          rcases hg with hg | hg | hg | hg | hg
          ·have := e2 g hg; omega
          ·have := hap.b1 g hg; omega
          ·have := e5 g hg; omega
          ·have := hap.b2 g hg; omega
          ·have := hap.b3 g hg; omega
         exact ⟨hh.1, hh.2.1, fun hd => by have := hd.1; have := hd.2; omega⟩
        have tF : Below w.heap.size w wr := tW.trans (hbw.mono (by omega))
        clear hS hoR2 hoL2 kept3 q1' q2' q3' q1 q2 q3 hoR hoL ho l2 l5 e2 e5 hX hX1 hX2 hX1' CG CZ hRb hG keepS hcx
        go_wp2
        refine bodyPost_ret (v := .agg #[.int .i64 p.atoms, .slice aR p.rules.length nR, .slice aL p.levels.length nL, .bool p.projOn, .slice a1 p.project.length n1, .slice aW p.shows.length nW, .slice a2 p.exts.length n2, .slice a3 p.assume.length n3])
         (by simp [results, Tryz.results91, go_sem, z0, z1, z2, z3, z4, z5, z6, z7]) rfl ⟨_, _, _, _, _, _, fun f => w1.heap.size ≤ f ∧ f < wR.heap.size, rfl, ?_, ?_, ?_⟩
        ·exact ((HPR.chg (put_chg (h + 1) [.int .i64 p.atoms, .slice aR p.rules.length nR, .slice aL p.levels.length nL, .bool p.projOn, .slice a1 p.project.length n1, .slice aW p.shows.length nW, .slice a2 p.exts.length n2, .slice a3 p.assume.length n3] wr 0) (fun hd => by have := hd.1; omega) (.inl hhl1)).up (Nat.le_of_eq (put_chg (h + 1) [.int .i64 p.atoms, .slice aR p.rules.length nR, .slice aL p.levels.length nL, .bool p.projOn, .slice a1 p.project.length n1, .slice aW p.shows.length nW, .slice a2 p.exts.length n2, .slice a3 p.assume.length n3] wr 0).size.symm)).mono (by omega)
        ·intro f hf
         have hq := hf.2
         have hq2 := (put_chg (h + 1) [.int .i64 p.atoms, .slice aR p.rules.length nR, .slice aL p.levels.length nL, .bool p.projOn, .slice a1 p.project.length n1, .slice aW p.shows.length nW, .slice a2 p.exts.length n2, .slice a3 p.assume.length n3] wr 0).size
         exact Nat.lt_of_lt_of_le hq (by show wR.heap.size ≤ (put wr (h + 1) 0 [.int .i64 p.atoms, .slice aR p.rules.length nR, .slice aL p.levels.length nL, .bool p.projOn, .slice a1 p.project.length n1, .slice aW p.shows.length nW, .slice a2 p.exts.length n2, .slice a3 p.assume.length n3]).heap.size; rw [hq2]; omega)
        ·exact tF.trans ((put_chg (h + 1) [.int .i64 p.atoms, .slice aR p.rules.length nR, .slice aL p.levels.length nL, .bool p.projOn, .slice a1 p.project.length n1, .slice aW p.shows.length nW, .slice a2 p.exts.length n2, .slice a3 p.assume.length n3] wr 0).below fun g hg => by simp at hg; omega)


 have fin1 : ∀ (v11 v14 v15 v18 v19 v22 v3 : Value) (w : World), CF lo W0 p zsP 2 2 2 1 v11 v14 v15 v18 v19 v22 v3 w → F 2 #[true, true, true, true, true, true, true, true, true, true, true, true, true, true, true, true, false, true, false] (actL h p c1 c2 c4 c5 c6 c7 v11 v14 v15 v18 v19 v22 v3 undef) w := by
  intro v11 v14 v15 v18 v19 v22 v3 w hCF
  obtain ⟨a1, n1, a2, n2, a3, n3, rfl, rfl, rfl⟩ := hCF.forms
  have hHeld := keepS _ hCF.below
  refine cap_use hF.symm ?_
  unfold actL
  refine takeD (i := 16) (v := .agg #[.int .i64 p.atoms, .slice none 0 0, .slice none 0 0, .bool p.projOn, .slice a1 p.project.length n1, .slice none 0 0, .slice a2 p.exts.length n2, .slice a3 p.assume.length n3]) (some 23) rfl rfl (by kernel_rfl) (by kernel_rfl) (by kernel_rfl) (fun _ _ _ h => h) (Or.inl ⟨by rfl, fun w' hw' => ?_⟩) hHeld ?_
  ·first | (go_simp; done) | (obtain ⟨s0, s1, s2, s3, s4⟩ := hw'; go_simp)
  try simp only [Act.put, put1, put2, put3]
  exact cap_use hF (fin _ _ _ _ _ _ _ _ _ _ _ hCF)
 have fin0 : ∀ (v11 v14 v15 v18 v19 v22 v3 : Value) (w : World), CF lo W0 p zsP 2 2 2 0 v11 v14 v15 v18 v19 v22 v3 w → F 3 #[true, true, true, true, true, true, true, true, true, true, true, true, true, true, true, true, false, false, false] (actL h p c1 c2 c4 c5 c6 c7 v11 v14 v15 v18 v19 v22 v3 undef) w := by
  intro v11 v14 v15 v18 v19 v22 v3 w hCF
  obtain ⟨a1, n1, a2, n2, a3, n3, rfl, rfl, rfl⟩ := hCF.forms
  have hHeld := keepS _ hCF.below
  refine cap_use hF.symm ?_
  unfold actL
  refine takeD (i := 16) (v := .agg #[.int .i64 p.atoms, .slice none 0 0, .slice none 0 0, .bool p.projOn, .slice a1 p.project.length n1, .slice none 0 0, .slice a2 p.exts.length n2, .slice a3 p.assume.length n3]) (some 23) rfl rfl (by kernel_rfl) (by kernel_rfl) (by kernel_rfl) (fun _ _ _ h => h) (Or.inl ⟨by rfl, fun w' hw' => ?_⟩) hHeld ?_
  ·first | (go_simp; done) | (obtain ⟨s0, s1, s2, s3, s4⟩ := hw'; go_simp)
  try simp only [Act.put, put1, put2, put3]
  refine wpAnyH_ready (rs := [17]) (by kernel_rfl) (by simp) ?_
  refine AllReadyH.cons rfl (fun K hK => ?_) AllReadyH.nil
  go_simp
  exact hK.out _ _ (keepS _ hCF.b4.below) (fun _ => cap_use hF (fin _ _ _ _ _ _ _ _ _ _ _ hCF.b4))
 have st1111_3 : ∀ (v11 v14 v15 v18 v19 v22 v3 : Value) (w : World), CF lo W0 p zsP 2 2 2 1 v11 v14 v15 v18 v19 v22 v3 w → F 2 #[true, true, true, true, true, true, true, true, true, true, true, true, true, true, true, true, false, true, false] (actL h p c1 c2 c4 c5 c6 c7 v11 v14 v15 v18 v19 v22 v3 undef) w := by
  intro v11 v14 v15 v18 v19 v22 v3 w hCF
  exact fin1 v11 v14 v15 v18 v19 v22 v3 w hCF
 have st1111_2 : ∀ (v11 v14 v15 v18 v19 v22 v3 : Value) (w : World), CF lo W0 p zsP 2 2 1 1 v11 v14 v15 v18 v19 v22 v3 w → F 3 #[true, true, true, true, true, true, true, true, true, true, true, true, true, true, true, false, false, true, false] (actL h p c1 c2 c4 c5 c6 c7 v11 v14 v15 v18 v19 v22 v3 undef) w := by
  intro v11 v14 v15 v18 v19 v22 v3 w hCF
  refine cap_use hF.symm ?_
  unfold actL
  refine wpAnyH_ready (rs := [15]) (by kernel_rfl) (by simp) ?_
  refine AllReadyH.cons rfl (fun K hK => ?_) AllReadyH.nil
  ·skip
   obtain ⟨v', w', r, hC'⟩ := hA3 hCF
   refine step_append_of rfl _ _ rfl rfl rfl r ?_
   exact hK.out _ _ (keepS _ hC'.below) (fun _ => cap_use hF (st1111_3 v11 v14 v15 v18 v19 v' v3 _ hC'))
 have st1110_3 : ∀ (v11 v14 v15 v18 v19 v22 v3 : Value) (w : World), CF lo W0 p zsP 2 2 2 0 v11 v14 v15 v18 v19 v22 v3 w → F 3 #[true, true, true, true, true, true, true, true, true, true, true, true, true, true, true, true, false, false, false] (actL h p c1 c2 c4 c5 c6 c7 v11 v14 v15 v18 v19 v22 v3 undef) w := by
  intro v11 v14 v15 v18 v19 v22 v3 w hCF
  exact fin0 v11 v14 v15 v18 v19 v22 v3 w hCF
 have st1111_1 : ∀ (v11 v14 v15 v18 v19 v22 v3 : Value) (w : World), CF lo W0 p zsP 2 1 1 1 v11 v14 v15 v18 v19 v22 v3 w → F 4 #[true, true, true, true, true, true, true, true, true, true, true, false, true, true, true, false, false, true, false] (actL h p c1 c2 c4 c5 c6 c7 v11 v14 v15 v18 v19 v22 v3 undef) w := by
  intro v11 v14 v15 v18 v19 v22 v3 w hCF
  refine cap_use hF.symm ?_
  unfold actL
  refine wpAnyH_ready (rs := [11]) (by kernel_rfl) (by simp) ?_
  refine AllReadyH.cons rfl (fun K hK => ?_) AllReadyH.nil
  ·skip
   obtain ⟨v', w', r, hC'⟩ := hA2 hCF
   refine step_append_of rfl _ _ rfl rfl rfl r ?_
   exact hK.out _ _ (keepS _ hC'.below) (fun _ => cap_use hF (st1111_2 v11 v14 v15 v' v19 v22 v3 _ hC'))
 have st1101_2 : ∀ (v11 v14 v15 v18 v19 v22 v3 : Value) (w : World), CF lo W0 p zsP 2 2 0 1 v11 v14 v15 v18 v19 v22 v3 w → F 4 #[true, true, true, true, true, true, true, true, true, true, true, true, false, true, true, false, false, true, false] (actL h p c1 c2 c4 c5 c6 c7 v11 v14 v15 v18 v19 v22 v3 undef) w := by
  intro v11 v14 v15 v18 v19 v22 v3 w hCF
  refine cap_use hF.symm ?_
  unfold actL
  refine wpAnyH_ready (rs := [12]) (by kernel_rfl) (by simp) ?_
  refine AllReadyH.cons rfl (fun K hK => ?_) AllReadyH.nil
  ·skip
   go_simp
   exact hK.out _ _ (keepS _ hCF.b3.below) (fun _ => cap_use hF (st1111_2 v11 v14 v15 v18 _ v22 v3 _ hCF.b3))
 have st1110_2 : ∀ (v11 v14 v15 v18 v19 v22 v3 : Value) (w : World), CF lo W0 p zsP 2 2 1 0 v11 v14 v15 v18 v19 v22 v3 w → F 4 #[true, true, true, true, true, true, true, true, true, true, true, true, true, true, true, false, false, false, false] (actL h p c1 c2 c4 c5 c6 c7 v11 v14 v15 v18 v19 v22 v3 undef) w := by
  intro v11 v14 v15 v18 v19 v22 v3 w hCF
  refine cap_use hF.symm ?_
  unfold actL
  refine wpAnyH_ready (rs := [15, 17]) (by kernel_rfl) (by simp) ?_
  refine AllReadyH.cons rfl (fun K hK => ?_) (AllReadyH.cons rfl (fun K hK => ?_) AllReadyH.nil)
  ·skip
   obtain ⟨v', w', r, hC'⟩ := hA3 hCF
   refine step_append_of rfl _ _ rfl rfl rfl r ?_
   exact hK.out _ _ (keepS _ hC'.below) (fun _ => cap_use hF (st1110_3 v11 v14 v15 v18 v19 v' v3 _ hC'))
  ·skip
   go_simp
   exact hK.out _ _ (keepS _ hCF.b4.below) (fun _ => cap_use hF (st1111_2 v11 v14 v15 v18 v19 v22 _ _ hCF.b4))
 have st1111_0 : ∀ (v11 v14 v15 v18 v19 v22 v3 : Value) (w : World), CF lo W0 p zsP 1 1 1 1 v11 v14 v15 v18 v19 v22 v3 w → F 5 #[true, true, true, true, true, true, true, false, true, true, true, false, true, true, true, false, false, true, false] (actL h p c1 c2 c4 c5 c6 c7 v11 v14 v15 v18 v19 v22 v3 undef) w := by
  intro v11 v14 v15 v18 v19 v22 v3 w hCF
  refine cap_use hF.symm ?_
  unfold actL
  refine wpAnyH_ready (rs := [7]) (by kernel_rfl) (by simp) ?_
  refine AllReadyH.cons rfl (fun K hK => ?_) AllReadyH.nil
  ·skip
   obtain ⟨v', w', r, hC'⟩ := hA1 hCF
   refine step_append_of rfl _ _ rfl rfl rfl r ?_
   exact hK.out _ _ (keepS _ hC'.below) (fun _ => cap_use hF (st1111_1 v11 v' v15 v18 v19 v22 v3 _ hC'))
 have st1011_1 : ∀ (v11 v14 v15 v18 v19 v22 v3 : Value) (w : World), CF lo W0 p zsP 2 0 1 1 v11 v14 v15 v18 v19 v22 v3 w → F 5 #[true, true, true, true, true, true, true, true, false, true, true, false, true, true, true, false, false, true, false] (actL h p c1 c2 c4 c5 c6 c7 v11 v14 v15 v18 v19 v22 v3 undef) w := by
  intro v11 v14 v15 v18 v19 v22 v3 w hCF
  refine cap_use hF.symm ?_
  unfold actL
  refine wpAnyH_ready (rs := [8]) (by kernel_rfl) (by simp) ?_
  refine AllReadyH.cons rfl (fun K hK => ?_) AllReadyH.nil
  ·skip
   go_simp
   exact hK.out _ _ (keepS _ hCF.b2.below) (fun _ => cap_use hF (st1111_1 v11 v14 _ v18 v19 v22 v3 _ hCF.b2))
 have st1101_1 : ∀ (v11 v14 v15 v18 v19 v22 v3 : Value) (w : World), CF lo W0 p zsP 2 1 0 1 v11 v14 v15 v18 v19 v22 v3 w → F 5 #[true, true, true, true, true, true, true, true, true, true, true, false, false, true, true, false, false, true, false] (actL h p c1 c2 c4 c5 c6 c7 v11 v14 v15 v18 v19 v22 v3 undef) w := by
  intro v11 v14 v15 v18 v19 v22 v3 w hCF
  refine cap_use hF.symm ?_
  unfold actL
  refine wpAnyH_ready (rs := [11, 12]) (by kernel_rfl) (by simp) ?_
  refine AllReadyH.cons rfl (fun K hK => ?_) (AllReadyH.cons rfl (fun K hK => ?_) AllReadyH.nil)
  ·skip
   obtain ⟨v', w', r, hC'⟩ := hA2 hCF
   refine step_append_of rfl _ _ rfl rfl rfl r ?_
   exact hK.out _ _ (keepS _ hC'.below) (fun _ => cap_use hF (st1101_2 v11 v14 v15 v' v19 v22 v3 _ hC'))
  ·skip
   go_simp
   exact hK.out _ _ (keepS _ hCF.b3.below) (fun _ => cap_use hF (st1111_1 v11 v14 v15 v18 _ v22 v3 _ hCF.b3))
 have st1110_1 : ∀ (v11 v14 v15 v18 v19 v22 v3 : Value) (w : World), CF lo W0 p zsP 2 1 1 0 v11 v14 v15 v18 v19 v22 v3 w → F 5 #[true, true, true, true, true, true, true, true, true, true, true, false, true, true, true, false, false, false, false] (actL h p c1 c2 c4 c5 c6 c7 v11 v14 v15 v18 v19 v22 v3 undef) w := by
  intro v11 v14 v15 v18 v19 v22 v3 w hCF
  refine cap_use hF.symm ?_
  unfold actL
  refine wpAnyH_ready (rs := [11, 17]) (by kernel_rfl) (by simp) ?_
  refine AllReadyH.cons rfl (fun K hK => ?_) (AllReadyH.cons rfl (fun K hK => ?_) AllReadyH.nil)
  ·skip
   obtain ⟨v', w', r, hC'⟩ := hA2 hCF
   refine step_append_of rfl _ _ rfl rfl rfl r ?_
   exact hK.out _ _ (keepS _ hC'.below) (fun _ => cap_use hF (st1110_2 v11 v14 v15 v' v19 v22 v3 _ hC'))
  ·skip
   go_simp
   exact hK.out _ _ (keepS _ hCF.b4.below) (fun _ => cap_use hF (st1111_1 v11 v14 v15 v18 v19 v22 _ _ hCF.b4))
 have st1100_2 : ∀ (v11 v14 v15 v18 v19 v22 v3 : Value) (w : World), CF lo W0 p zsP 2 2 0 0 v11 v14 v15 v18 v19 v22 v3 w → F 5 #[true, true, true, true, true, true, true, true, true, true, true, true, false, true, true, false, false, false, false] (actL h p c1 c2 c4 c5 c6 c7 v11 v14 v15 v18 v19 v22 v3 undef) w := by
  intro v11 v14 v15 v18 v19 v22 v3 w hCF
  refine cap_use hF.symm ?_
  unfold actL
  refine wpAnyH_ready (rs := [12, 17]) (by kernel_rfl) (by simp) ?_
  refine AllReadyH.cons rfl (fun K hK => ?_) (AllReadyH.cons rfl (fun K hK => ?_) AllReadyH.nil)
  ·skip
   go_simp
   exact hK.out _ _ (keepS _ hCF.b3.below) (fun _ => cap_use hF (st1110_2 v11 v14 v15 v18 _ v22 v3 _ hCF.b3))
  ·skip
   go_simp
   exact hK.out _ _ (keepS _ hCF.b4.below) (fun _ => cap_use hF (st1101_2 v11 v14 v15 v18 v19 v22 _ _ hCF.b4))
 have st0111_0 : ∀ (v11 v14 v15 v18 v19 v22 v3 : Value) (w : World), CF lo W0 p zsP 0 1 1 1 v11 v14 v15 v18 v19 v22 v3 w → F 6 #[true, true, true, true, false, true, true, false, true, true, true, false, true, true, true, false, false, true, false] (actL h p c1 c2 c4 c5 c6 c7 v11 v14 v15 v18 v19 v22 v3 undef) w := by
  intro v11 v14 v15 v18 v19 v22 v3 w hCF
  refine cap_use hF.symm ?_
  unfold actL
  refine wpAnyH_ready (rs := [4]) (by kernel_rfl) (by simp) ?_
  refine AllReadyH.cons rfl (fun K hK => ?_) AllReadyH.nil
  ·skip
   go_simp
   exact hK.out _ _ (keepS _ hCF.b1.below) (fun _ => cap_use hF (st1111_0 _ v14 v15 v18 v19 v22 v3 _ hCF.b1))
 have st1011_0 : ∀ (v11 v14 v15 v18 v19 v22 v3 : Value) (w : World), CF lo W0 p zsP 1 0 1 1 v11 v14 v15 v18 v19 v22 v3 w → F 6 #[true, true, true, true, true, true, true, false, false, true, true, false, true, true, true, false, false, true, false] (actL h p c1 c2 c4 c5 c6 c7 v11 v14 v15 v18 v19 v22 v3 undef) w := by
  intro v11 v14 v15 v18 v19 v22 v3 w hCF
  refine cap_use hF.symm ?_
  unfold actL
  refine wpAnyH_ready (rs := [7, 8]) (by kernel_rfl) (by simp) ?_
  refine AllReadyH.cons rfl (fun K hK => ?_) (AllReadyH.cons rfl (fun K hK => ?_) AllReadyH.nil)
  ·skip
   obtain ⟨v', w', r, hC'⟩ := hA1 hCF
   refine step_append_of rfl _ _ rfl rfl rfl r ?_
   exact hK.out _ _ (keepS _ hC'.below) (fun _ => cap_use hF (st1011_1 v11 v' v15 v18 v19 v22 v3 _ hC'))
  ·skip
   go_simp
   exact hK.out _ _ (keepS _ hCF.b2.below) (fun _ => cap_use hF (st1111_0 v11 v14 _ v18 v19 v22 v3 _ hCF.b2))
 have st1101_0 : ∀ (v11 v14 v15 v18 v19 v22 v3 : Value) (w : World), CF lo W0 p zsP 1 1 0 1 v11 v14 v15 v18 v19 v22 v3 w → F 6 #[true, true, true, true, true, true, true, false, true, true, true, false, false, true, true, false, false, true, false] (actL h p c1 c2 c4 c5 c6 c7 v11 v14 v15 v18 v19 v22 v3 undef) w := by
  intro v11 v14 v15 v18 v19 v22 v3 w hCF
  refine cap_use hF.symm ?_
  unfold actL
  refine wpAnyH_ready (rs := [7, 12]) (by kernel_rfl) (by simp) ?_
  refine AllReadyH.cons rfl (fun K hK => ?_) (AllReadyH.cons rfl (fun K hK => ?_) AllReadyH.nil)
  ·skip
   obtain ⟨v', w', r, hC'⟩ := hA1 hCF
   refine step_append_of rfl _ _ rfl rfl rfl r ?_
   exact hK.out _ _ (keepS _ hC'.below) (fun _ => cap_use hF (st1101_1 v11 v' v15 v18 v19 v22 v3 _ hC'))
  ·skip
   go_simp
   exact hK.out _ _ (keepS _ hCF.b3.below) (fun _ => cap_use hF (st1111_0 v11 v14 v15 v18 _ v22 v3 _ hCF.b3))
 have st1110_0 : ∀ (v11 v14 v15 v18 v19 v22 v3 : Value) (w : World), CF lo W0 p zsP 1 1 1 0 v11 v14 v15 v18 v19 v22 v3 w → F 6 #[true, true, true, true, true, true, true, false, true, true, true, false, true, true, true, false, false, false, false] (actL h p c1 c2 c4 c5 c6 c7 v11 v14 v15 v18 v19 v22 v3 undef) w := by
  intro v11 v14 v15 v18 v19 v22 v3 w hCF
  refine cap_use hF.symm ?_
  unfold actL
  refine wpAnyH_ready (rs := [7, 17]) (by kernel_rfl) (by simp) ?_
  refine AllReadyH.cons rfl (fun K hK => ?_) (AllReadyH.cons rfl (fun K hK => ?_) AllReadyH.nil)
  ·skip
   obtain ⟨v', w', r, hC'⟩ := hA1 hCF
   refine step_append_of rfl _ _ rfl rfl rfl r ?_
   exact hK.out _ _ (keepS _ hC'.below) (fun _ => cap_use hF (st1110_1 v11 v' v15 v18 v19 v22 v3 _ hC'))
  ·skip
   go_simp
   exact hK.out _ _ (keepS _ hCF.b4.below) (fun _ => cap_use hF (st1111_0 v11 v14 v15 v18 v19 v22 _ _ hCF.b4))
 have st1001_1 : ∀ (v11 v14 v15 v18 v19 v22 v3 : Value) (w : World), CF lo W0 p zsP 2 0 0 1 v11 v14 v15 v18 v19 v22 v3 w → F 6 #[true, true, true, true, true, true, true, true, false, true, true, false, false, true, true, false, false, true, false] (actL h p c1 c2 c4 c5 c6 c7 v11 v14 v15 v18 v19 v22 v3 undef) w := by
  intro v11 v14 v15 v18 v19 v22 v3 w hCF
  refine cap_use hF.symm ?_
  unfold actL
  refine wpAnyH_ready (rs := [8, 12]) (by kernel_rfl) (by simp) ?_
  refine AllReadyH.cons rfl (fun K hK => ?_) (AllReadyH.cons rfl (fun K hK => ?_) AllReadyH.nil)
  ·skip
   go_simp
   exact hK.out _ _ (keepS _ hCF.b2.below) (fun _ => cap_use hF (st1101_1 v11 v14 _ v18 v19 v22 v3 _ hCF.b2))
  ·skip
   go_simp
   exact hK.out _ _ (keepS _ hCF.b3.below) (fun _ => cap_use hF (st1011_1 v11 v14 v15 v18 _ v22 v3 _ hCF.b3))
 have st1010_1 : ∀ (v11 v14 v15 v18 v19 v22 v3 : Value) (w : World), CF lo W0 p zsP 2 0 1 0 v11 v14 v15 v18 v19 v22 v3 w → F 6 #[true, true, true, true, true, true, true, true, false, true, true, false, true, true, true, false, false, false, false] (actL h p c1 c2 c4 c5 c6 c7 v11 v14 v15 v18 v19 v22 v3 undef) w := by
  intro v11 v14 v15 v18 v19 v22 v3 w hCF
  refine cap_use hF.symm ?_
  unfold actL
  refine wpAnyH_ready (rs := [8, 17]) (by kernel_rfl) (by simp) ?_
  refine AllReadyH.cons rfl (fun K hK => ?_) (AllReadyH.cons rfl (fun K hK => ?_) AllReadyH.nil)
  ·skip
   go_simp
   exact hK.out _ _ (keepS _ hCF.b2.below) (fun _ => cap_use hF (st1110_1 v11 v14 _ v18 v19 v22 v3 _ hCF.b2))
  ·skip
   go_simp
   exact hK.out _ _ (keepS _ hCF.b4.below) (fun _ => cap_use hF (st1011_1 v11 v14 v15 v18 v19 v22 _ _ hCF.b4))
 have st1100_1 : ∀ (v11 v14 v15 v18 v19 v22 v3 : Value) (w : World), CF lo W0 p zsP 2 1 0 0 v11 v14 v15 v18 v19 v22 v3 w → F 6 #[true, true, true, true, true, true, true, true, true, true, true, false, false, true, true, false, false, false, false] (actL h p c1 c2 c4 c5 c6 c7 v11 v14 v15 v18 v19 v22 v3 undef) w := by
  intro v11 v14 v15 v18 v19 v22 v3 w hCF
  refine cap_use hF.symm ?_
  unfold actL
  refine wpAnyH_ready (rs := [11, 12, 17]) (by kernel_rfl) (by simp) ?_
  refine AllReadyH.cons rfl (fun K hK => ?_) (AllReadyH.cons rfl (fun K hK => ?_) (AllReadyH.cons rfl (fun K hK => ?_) AllReadyH.nil))
  ·skip
   obtain ⟨v', w', r, hC'⟩ := hA2 hCF
   refine step_append_of rfl _ _ rfl rfl rfl r ?_
   exact hK.out _ _ (keepS _ hC'.below) (fun _ => cap_use hF (st1100_2 v11 v14 v15 v' v19 v22 v3 _ hC'))
  ·skip
   go_simp
   exact hK.out _ _ (keepS _ hCF.b3.below) (fun _ => cap_use hF (st1110_1 v11 v14 v15 v18 _ v22 v3 _ hCF.b3))
  ·skip
   go_simp
   exact hK.out _ _ (keepS _ hCF.b4.below) (fun _ => cap_use hF (st1101_1 v11 v14 v15 v18 v19 v22 _ _ hCF.b4))
 have st0011_0 : ∀ (v11 v14 v15 v18 v19 v22 v3 : Value) (w : World), CF lo W0 p zsP 0 0 1 1 v11 v14 v15 v18 v19 v22 v3 w → F 7 #[true, true, true, true, false, true, true, false, false, true, true, false, true, true, true, false, false, true, false] (actL h p c1 c2 c4 c5 c6 c7 v11 v14 v15 v18 v19 v22 v3 undef) w := by
  intro v11 v14 v15 v18 v19 v22 v3 w hCF
  refine cap_use hF.symm ?_
  unfold actL
  refine wpAnyH_ready (rs := [4, 8]) (by kernel_rfl) (by simp) ?_
  refine AllReadyH.cons rfl (fun K hK => ?_) (AllReadyH.cons rfl (fun K hK => ?_) AllReadyH.nil)
  ·skip
   go_simp
   exact hK.out _ _ (keepS _ hCF.b1.below) (fun _ => cap_use hF (st1011_0 _ v14 v15 v18 v19 v22 v3 _ hCF.b1))
  ·skip
   go_simp
   exact hK.out _ _ (keepS _ hCF.b2.below) (fun _ => cap_use hF (st0111_0 v11 v14 _ v18 v19 v22 v3 _ hCF.b2))
 have st0101_0 : ∀ (v11 v14 v15 v18 v19 v22 v3 : Value) (w : World), CF lo W0 p zsP 0 1 0 1 v11 v14 v15 v18 v19 v22 v3 w → F 7 #[true, true, true, true, false, true, true, false, true, true, true, false, false, true, true, false, false, true, false] (actL h p c1 c2 c4 c5 c6 c7 v11 v14 v15 v18 v19 v22 v3 undef) w := by
  intro v11 v14 v15 v18 v19 v22 v3 w hCF
  refine cap_use hF.symm ?_
  unfold actL
  refine wpAnyH_ready (rs := [4, 12]) (by kernel_rfl) (by simp) ?_
  refine AllReadyH.cons rfl (fun K hK => ?_) (AllReadyH.cons rfl (fun K hK => ?_) AllReadyH.nil)
  ·skip
   go_simp
   exact hK.out _ _ (keepS _ hCF.b1.below) (fun _ => cap_use hF (st1101_0 _ v14 v15 v18 v19 v22 v3 _ hCF.b1))
  ·skip
   go_simp
   exact hK.out _ _ (keepS _ hCF.b3.below) (fun _ => cap_use hF (st0111_0 v11 v14 v15 v18 _ v22 v3 _ hCF.b3))
 have st0110_0 : ∀ (v11 v14 v15 v18 v19 v22 v3 : Value) (w : World), CF lo W0 p zsP 0 1 1 0 v11 v14 v15 v18 v19 v22 v3 w → F 7 #[true, true, true, true, false, true, true, false, true, true, true, false, true, true, true, false, false, false, false] (actL h p c1 c2 c4 c5 c6 c7 v11 v14 v15 v18 v19 v22 v3 undef) w := by
  intro v11 v14 v15 v18 v19 v22 v3 w hCF
  refine cap_use hF.symm ?_
  unfold actL
  refine wpAnyH_ready (rs := [4, 17]) (by kernel_rfl) (by simp) ?_
  refine AllReadyH.cons rfl (fun K hK => ?_) (AllReadyH.cons rfl (fun K hK => ?_) AllReadyH.nil)
  ·skip
   go_simp
   exact hK.out _ _ (keepS _ hCF.b1.below) (fun _ => cap_use hF (st1110_0 _ v14 v15 v18 v19 v22 v3 _ hCF.b1))
  ·skip
   go_simp
   exact hK.out _ _ (keepS _ hCF.b4.below) (fun _ => cap_use hF (st0111_0 v11 v14 v15 v18 v19 v22 _ _ hCF.b4))
 have st1001_0 : ∀ (v11 v14 v15 v18 v19 v22 v3 : Value) (w : World), CF lo W0 p zsP 1 0 0 1 v11 v14 v15 v18 v19 v22 v3 w → F 7 #[true, true, true, true, true, true, true, false, false, true, true, false, false, true, true, false, false, true, false] (actL h p c1 c2 c4 c5 c6 c7 v11 v14 v15 v18 v19 v22 v3 undef) w := by
  intro v11 v14 v15 v18 v19 v22 v3 w hCF
  refine cap_use hF.symm ?_
  unfold actL
  refine wpAnyH_ready (rs := [7, 8, 12]) (by kernel_rfl) (by simp) ?_
  refine AllReadyH.cons rfl (fun K hK => ?_) (AllReadyH.cons rfl (fun K hK => ?_) (AllReadyH.cons rfl (fun K hK => ?_) AllReadyH.nil))
  ·skip
   obtain ⟨v', w', r, hC'⟩ := hA1 hCF
   refine step_append_of rfl _ _ rfl rfl rfl r ?_
   exact hK.out _ _ (keepS _ hC'.below) (fun _ => cap_use hF (st1001_1 v11 v' v15 v18 v19 v22 v3 _ hC'))
  ·skip
   go_simp
   exact hK.out _ _ (keepS _ hCF.b2.below) (fun _ => cap_use hF (st1101_0 v11 v14 _ v18 v19 v22 v3 _ hCF.b2))
  ·skip
   go_simp
   exact hK.out _ _ (keepS _ hCF.b3.below) (fun _ => cap_use hF (st1011_0 v11 v14 v15 v18 _ v22 v3 _ hCF.b3))
 have st1010_0 : ∀ (v11 v14 v15 v18 v19 v22 v3 : Value) (w : World), CF lo W0 p zsP 1 0 1 0 v11 v14 v15 v18 v19 v22 v3 w → F 7 #[true, true, true, true, true, true, true, false, false, true, true, false, true, true, true, false, false, false, false] (actL h p c1 c2 c4 c5 c6 c7 v11 v14 v15 v18 v19 v22 v3 undef) w := by
  intro v11 v14 v15 v18 v19 v22 v3 w hCF
  refine cap_use hF.symm ?_
  unfold actL
  refine wpAnyH_ready (rs := [7, 8, 17]) (by kernel_rfl) (by simp) ?_
  refine AllReadyH.cons rfl (fun K hK => ?_) (AllReadyH.cons rfl (fun K hK => ?_) (AllReadyH.cons rfl (fun K hK => ?_) AllReadyH.nil))
  ·skip
   obtain ⟨v', w', r, hC'⟩ := hA1 hCF
   refine step_append_of rfl _ _ rfl rfl rfl r ?_
   exact hK.out _ _ (keepS _ hC'.below) (fun _ => cap_use hF (st1010_1 v11 v' v15 v18 v19 v22 v3 _ hC'))
  ·skip
   go_simp
   exact hK.out _ _ (keepS _ hCF.b2.below) (fun _ => cap_use hF (st1110_0 v11 v14 _ v18 v19 v22 v3 _ hCF.b2))
  ·skip
   go_simp
   exact hK.out _ _ (keepS _ hCF.b4.below) (fun _ => cap_use hF (st1011_0 v11 v14 v15 v18 v19 v22 _ _ hCF.b4))
 have st1100_0 : ∀ (v11 v14 v15 v18 v19 v22 v3 : Value) (w : World), CF lo W0 p zsP 1 1 0 0 v11 v14 v15 v18 v19 v22 v3 w → F 7 #[true, true, true, true, true, true, true, false, true, true, true, false, false, true, true, false, false, false, false] (actL h p c1 c2 c4 c5 c6 c7 v11 v14 v15 v18 v19 v22 v3 undef) w := by
  intro v11 v14 v15 v18 v19 v22 v3 w hCF
  refine cap_use hF.symm ?_
  unfold actL
  refine wpAnyH_ready (rs := [7, 12, 17]) (by kernel_rfl) (by simp) ?_
  refine AllReadyH.cons rfl (fun K hK => ?_) (AllReadyH.cons rfl (fun K hK => ?_) (AllReadyH.cons rfl (fun K hK => ?_) AllReadyH.nil))
  ·skip
   obtain ⟨v', w', r, hC'⟩ := hA1 hCF
   refine step_append_of rfl _ _ rfl rfl rfl r ?_
   exact hK.out _ _ (keepS _ hC'.below) (fun _ => cap_use hF (st1100_1 v11 v' v15 v18 v19 v22 v3 _ hC'))
  ·skip
   go_simp
   exact hK.out _ _ (keepS _ hCF.b3.below) (fun _ => cap_use hF (st1110_0 v11 v14 v15 v18 _ v22 v3 _ hCF.b3))
  ·skip
   go_simp
   exact hK.out _ _ (keepS _ hCF.b4.below) (fun _ => cap_use hF (st1101_0 v11 v14 v15 v18 v19 v22 _ _ hCF.b4))
 have st1000_1 : ∀ (v11 v14 v15 v18 v19 v22 v3 : Value) (w : World), CF lo W0 p zsP 2 0 0 0 v11 v14 v15 v18 v19 v22 v3 w → F 7 #[true, true, true, true, true, true, true, true, false, true, true, false, false, true, true, false, false, false, false] (actL h p c1 c2 c4 c5 c6 c7 v11 v14 v15 v18 v19 v22 v3 undef) w := by
  intro v11 v14 v15 v18 v19 v22 v3 w hCF
  refine cap_use hF.symm ?_
  unfold actL
  refine wpAnyH_ready (rs := [8, 12, 17]) (by kernel_rfl) (by simp) ?_
  refine AllReadyH.cons rfl (fun K hK => ?_) (AllReadyH.cons rfl (fun K hK => ?_) (AllReadyH.cons rfl (fun K hK => ?_) AllReadyH.nil))
  ·skip
   go_simp
   exact hK.out _ _ (keepS _ hCF.b2.below) (fun _ => cap_use hF (st1100_1 v11 v14 _ v18 v19 v22 v3 _ hCF.b2))
  ·skip
   go_simp
   exact hK.out _ _ (keepS _ hCF.b3.below) (fun _ => cap_use hF (st1010_1 v11 v14 v15 v18 _ v22 v3 _ hCF.b3))
  ·skip
   go_simp
   exact hK.out _ _ (keepS _ hCF.b4.below) (fun _ => cap_use hF (st1001_1 v11 v14 v15 v18 v19 v22 _ _ hCF.b4))
 have st0001_0 : ∀ (v11 v14 v15 v18 v19 v22 v3 : Value) (w : World), CF lo W0 p zsP 0 0 0 1 v11 v14 v15 v18 v19 v22 v3 w → F 8 #[true, true, true, true, false, true, true, false, false, true, true, false, false, true, true, false, false, true, false] (actL h p c1 c2 c4 c5 c6 c7 v11 v14 v15 v18 v19 v22 v3 undef) w := by
  intro v11 v14 v15 v18 v19 v22 v3 w hCF
  refine cap_use hF.symm ?_
  unfold actL
  refine wpAnyH_ready (rs := [4, 8, 12]) (by kernel_rfl) (by simp) ?_
  refine AllReadyH.cons rfl (fun K hK => ?_) (AllReadyH.cons rfl (fun K hK => ?_) (AllReadyH.cons rfl (fun K hK => ?_) AllReadyH.nil))
  ·skip
   go_simp
   exact hK.out _ _ (keepS _ hCF.b1.below) (fun _ => cap_use hF (st1001_0 _ v14 v15 v18 v19 v22 v3 _ hCF.b1))
  ·skip
   go_simp
   exact hK.out _ _ (keepS _ hCF.b2.below) (fun _ => cap_use hF (st0101_0 v11 v14 _ v18 v19 v22 v3 _ hCF.b2))
  ·skip
   go_simp
   exact hK.out _ _ (keepS _ hCF.b3.below) (fun _ => cap_use hF (st0011_0 v11 v14 v15 v18 _ v22 v3 _ hCF.b3))
 have st0010_0 : ∀ (v11 v14 v15 v18 v19 v22 v3 : Value) (w : World), CF lo W0 p zsP 0 0 1 0 v11 v14 v15 v18 v19 v22 v3 w → F 8 #[true, true, true, true, false, true, true, false, false, true, true, false, true, true, true, false, false, false, false] (actL h p c1 c2 c4 c5 c6 c7 v11 v14 v15 v18 v19 v22 v3 undef) w := by
  intro v11 v14 v15 v18 v19 v22 v3 w hCF
  refine cap_use hF.symm ?_
  unfold actL
  refine wpAnyH_ready (rs := [4, 8, 17]) (by kernel_rfl) (by simp) ?_
  refine AllReadyH.cons rfl (fun K hK => ?_) (AllReadyH.cons rfl (fun K hK => ?_) (AllReadyH.cons rfl (fun K hK => ?_) AllReadyH.nil))
  ·skip
   go_simp
   exact hK.out _ _ (keepS _ hCF.b1.below) (fun _ => cap_use hF (st1010_0 _ v14 v15 v18 v19 v22 v3 _ hCF.b1))
  ·skip
   go_simp
   exact hK.out _ _ (keepS _ hCF.b2.below) (fun _ => cap_use hF (st0110_0 v11 v14 _ v18 v19 v22 v3 _ hCF.b2))
  ·skip
   go_simp
   exact hK.out _ _ (keepS _ hCF.b4.below) (fun _ => cap_use hF (st0011_0 v11 v14 v15 v18 v19 v22 _ _ hCF.b4))
 have st0100_0 : ∀ (v11 v14 v15 v18 v19 v22 v3 : Value) (w : World), CF lo W0 p zsP 0 1 0 0 v11 v14 v15 v18 v19 v22 v3 w → F 8 #[true, true, true, true, false, true, true, false, true, true, true, false, false, true, true, false, false, false, false] (actL h p c1 c2 c4 c5 c6 c7 v11 v14 v15 v18 v19 v22 v3 undef) w := by
  intro v11 v14 v15 v18 v19 v22 v3 w hCF
  refine cap_use hF.symm ?_
  unfold actL
  refine wpAnyH_ready (rs := [4, 12, 17]) (by kernel_rfl) (by simp) ?_
  refine AllReadyH.cons rfl (fun K hK => ?_) (AllReadyH.cons rfl (fun K hK => ?_) (AllReadyH.cons rfl (fun K hK => ?_) AllReadyH.nil))
  ·skip
   go_simp
   exact hK.out _ _ (keepS _ hCF.b1.below) (fun _ => cap_use hF (st1100_0 _ v14 v15 v18 v19 v22 v3 _ hCF.b1))
  ·skip
   go_simp
   exact hK.out _ _ (keepS _ hCF.b3.below) (fun _ => cap_use hF (st0110_0 v11 v14 v15 v18 _ v22 v3 _ hCF.b3))
  ·skip
   go_simp
   exact hK.out _ _ (keepS _ hCF.b4.below) (fun _ => cap_use hF (st0101_0 v11 v14 v15 v18 v19 v22 _ _ hCF.b4))
 have st1000_0 : ∀ (v11 v14 v15 v18 v19 v22 v3 : Value) (w : World), CF lo W0 p zsP 1 0 0 0 v11 v14 v15 v18 v19 v22 v3 w → F 8 #[true, true, true, true, true, true, true, false, false, true, true, false, false, true, true, false, false, false, false] (actL h p c1 c2 c4 c5 c6 c7 v11 v14 v15 v18 v19 v22 v3 undef) w := by
  intro v11 v14 v15 v18 v19 v22 v3 w hCF
  refine cap_use hF.symm ?_
  unfold actL
  refine wpAnyH_ready (rs := [7, 8, 12, 17]) (by kernel_rfl) (by simp) ?_
  refine AllReadyH.cons rfl (fun K hK => ?_) (AllReadyH.cons rfl (fun K hK => ?_) (AllReadyH.cons rfl (fun K hK => ?_) (AllReadyH.cons rfl (fun K hK => ?_) AllReadyH.nil)))
  ·skip
   obtain ⟨v', w', r, hC'⟩ := hA1 hCF
   refine step_append_of rfl _ _ rfl rfl rfl r ?_
   exact hK.out _ _ (keepS _ hC'.below) (fun _ => cap_use hF (st1000_1 v11 v' v15 v18 v19 v22 v3 _ hC'))
  ·skip
   go_simp
   exact hK.out _ _ (keepS _ hCF.b2.below) (fun _ => cap_use hF (st1100_0 v11 v14 _ v18 v19 v22 v3 _ hCF.b2))
  ·skip
   go_simp
   exact hK.out _ _ (keepS _ hCF.b3.below) (fun _ => cap_use hF (st1010_0 v11 v14 v15 v18 _ v22 v3 _ hCF.b3))
  ·skip
   go_simp
   exact hK.out _ _ (keepS _ hCF.b4.below) (fun _ => cap_use hF (st1001_0 v11 v14 v15 v18 v19 v22 _ _ hCF.b4))
 have st0000_0 : ∀ (v11 v14 v15 v18 v19 v22 v3 : Value) (w : World), CF lo W0 p zsP 0 0 0 0 v11 v14 v15 v18 v19 v22 v3 w → F 9 #[true, true, true, true, false, true, true, false, false, true, true, false, false, true, true, false, false, false, false] (actL h p c1 c2 c4 c5 c6 c7 v11 v14 v15 v18 v19 v22 v3 undef) w := by
  intro v11 v14 v15 v18 v19 v22 v3 w hCF
  refine cap_use hF.symm ?_
  unfold actL
  refine wpAnyH_ready (rs := [4, 8, 12, 17]) (by kernel_rfl) (by simp) ?_
  refine AllReadyH.cons rfl (fun K hK => ?_) (AllReadyH.cons rfl (fun K hK => ?_) (AllReadyH.cons rfl (fun K hK => ?_) (AllReadyH.cons rfl (fun K hK => ?_) AllReadyH.nil)))
  ·skip
   go_simp
   exact hK.out _ _ (keepS _ hCF.b1.below) (fun _ => cap_use hF (st1000_0 _ v14 v15 v18 v19 v22 v3 _ hCF.b1))
  ·skip
   go_simp
   exact hK.out _ _ (keepS _ hCF.b2.below) (fun _ => cap_use hF (st0100_0 v11 v14 _ v18 v19 v22 v3 _ hCF.b2))
  ·skip
   go_simp
   exact hK.out _ _ (keepS _ hCF.b3.below) (fun _ => cap_use hF (st0010_0 v11 v14 v15 v18 _ v22 v3 _ hCF.b3))
  ·skip
   go_simp
   exact hK.out _ _ (keepS _ hCF.b4.below) (fun _ => cap_use hF (st0001_0 v11 v14 v15 v18 v19 v22 _ _ hCF.b4))

 exact st0000_0 undef undef undef undef undef undef undef _ hC0

end Go.Proofs.YthikhkeofcjdfaaGreat
