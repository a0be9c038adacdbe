/-
 An argument that can be read as data, in this seat's own words. No condition of its own.
-/
import Derived.Test.YthikhkeofcjdfaaGreatMem
import Derived.Deep.Slices
import Derived.Deep.Fields
namespace Go.Proofs.YthikhkeofcjdfaaGreat
set_option linter.unusedVariables false
set_option linter.unusedSimpArgs false
open Go.RowKit Go.ChangeShapes Go.WideShapes Go.Deep
set_option maxRecDepth 100000

/-- What is read at type t is data of kind α. -/
def Opens {H : Type} (enc : TypeId × Value → H) (w : World) (base : Nat) (spare : Nat → Bool) (held : Bool) (t : TypeId) (α : Type) [Rd α] : Prop :=
 ∀ (fuel : Nat) (cs : List Value) (y : DataW H × List MemPlace), DataW.trod enc Tryz.prog w base spare held fuel t cs = some y → ∃ x : α, Rd.R w cs x

section
variable {H : Type} {enc : TypeId × Value → H} {w : World} {base : Nat} {spare : Nat → Bool} {held : Bool}

theorem opens_int : Opens enc w base spare held 3 Int := fun _ _ _ h => by
 obtain ⟨n, rfl, _, hw⟩ := DataW.trod_int Tryz.underlying3 h
 exact ⟨n, rfl, fits_of_wf hw⟩
theorem opens_text : Opens enc w base spare held 9 ByteArray := fun _ _ _ h => by
 obtain ⟨s, rfl, _, hs⟩ := DataW.trod_string Tryz.underlying9 h
 exact ⟨s, rfl, by unfold maxLen at hs; omega⟩

theorem nth_map_range {α : Type} [Inhabited α] (f : Nat → α) {n i : Nat} (hi : i < n) : nth ((List.range n).map f) i = f i := by
 rw [nth_eq (by simpa using hi)]; simp

theorem opens_slice {α : Type} [Rd α] {t e : TypeId} (ht : Tryz.prog.underlying t = some (.slice e)) (hk : Tryz.prog.cellsOf e = Rd.k α) (hpos : 0 < Rd.k α) (he : Opens enc w base spare held e α) : Opens enc w base spare held t (List α) := by
 intro fuel cs y h
 rcases open_slice ht h with ⟨rfl, _⟩ | ⟨a, len, cap, m, n, D, Pl, rfl, _, hl, hm, hmm, _, hx⟩
 ·exact ⟨[], none, 0, rfl, Nat.le_refl _, by omega, by simp, fun i hi => absurd hi (by simp)⟩
 ·have hlm : len ≤ m := by rw [hmm]; split <;> omega
  obtain ⟨f, hf⟩ := choose_lt (α := α) (n := len) (p := fun i x => ∃ cs', w.cells? base (a.add (i * Tryz.prog.cellsOf e)) (Tryz.prog.cellsOf e) = some cs' ∧ Rd.R w cs' x) (fun i hi => by
   obtain ⟨cs', h1, h2⟩ := hx i (by omega)
   obtain ⟨x, hr⟩ := he _ _ _ h2
   exact ⟨x, cs', h1, hr⟩)
  have hlen : ((List.range len).map f).length = len := by simp
  unfold maxLen at hm
  refine ⟨(List.range len).map f, some a, cap, by rw [hlen], by omega, by omega, by omega, fun i hi => ?_⟩
  rw [hlen] at hi
  obtain ⟨cs', h1, hr⟩ := hf i hi
  obtain ⟨_, hcl, hat⟩ := World.cells?_some h1
  obtain ⟨b, off, spot⟩ := a
  rw [hk] at hcl hat
  have hspot : spot = none := by
   obtain ⟨cs0, h0, _⟩ := hf 0 (by omega)
   obtain ⟨_, hcl0, hat0⟩ := World.cells?_some h0
   rw [hk] at hcl0 hat0
   have hs0 := hat0 0 hpos
   rw [List.getElem?_eq_getElem (by omega)] at hs0
   have := World.cell?_spot hs0
   simpa [Addr.add] using this
  subst hspot
  refine ⟨b, off, cs', rfl, fun j v hv => ?_, by rw [nth_map_range f hi]; exact hr⟩
  have hj : j < cs'.length := (List.getElem?_eq_some_iff.1 hv).1
  have := hat j (by omega)
  rw [Go.Deep.add_add] at this
  rw [hv] at this
  rw [← this]
  unfold Addr.add
  by_cases hz : i * Rd.k α + j = 0
  ·rw [if_pos hz]
   have e1 : i * Rd.k α = 0 := by omega
   have e2 : j = 0 := by omega
   rw [e1, e2]; rfl
  ·rw [if_neg hz]; simp [Nat.add_assoc]

/-- One field of one cell. -/
theorem field_of {fs : Array Field} {n : Nat} {cs : List Value} {xs : List (DataW H × List MemPlace)}
  (hf : ∀ (i : Nat) (f : Field), fs[i]? = some f → DataW.trod enc Tryz.prog w base spare held n f.type ((cs.drop f.offset).take (Tryz.prog.cellsOf f.type)) = xs[i]?)
  {i : Nat} {f : Field} (hi : fs[i]? = some f) (hx : i < xs.length) (hc : Tryz.prog.cellsOf f.type = 1) {c : Value} (hcs : (cs.drop f.offset).take 1 = [c]) : ∃ y, DataW.trod enc Tryz.prog w base spare held n f.type [c] = some y := by
 have := hf i f hi
 rw [hc, hcs, List.getElem?_eq_getElem hx] at this
 exact ⟨_, this⟩

theorem opens_pair {t : TypeId} {f0 f1 : Field} (ht : Tryz.prog.underlying t = some (.struct #[f0, f1])) (h0 : f0.type = 3 ∧ f0.offset = 0) (h1 : f1.type = 3 ∧ f1.offset = 1) (hk : Tryz.prog.cellsOf t = 2) : Opens enc w base spare held t (Int × Int) := by
 intro fuel cs y h
 obtain ⟨xs, n, _, _, hcl, hxl, hf⟩ := DataW.trod_struct ht h
 rw [hk] at hcl
 obtain ⟨c0, c1, rfl⟩ := list2 hcl
 have hxl : xs.length = 2 := hxl
 have ci : Tryz.prog.cellsOf 3 = 1 := by kernel_rfl
 obtain ⟨y0, g0⟩ := field_of hf (i := 0) (f := f0) rfl (by omega) (by rw [h0.1]; exact ci) (c := c0) (by rw [h0.2]; rfl)
 obtain ⟨y1, g1⟩ := field_of hf (i := 1) (f := f1) rfl (by omega) (by rw [h1.1]; exact ci) (c := c1) (by rw [h1.2]; rfl)
 rw [h0.1] at g0
 rw [h1.1] at g1
 obtain ⟨a, ha, fa⟩ := opens_int _ _ _ g0
 obtain ⟨b, hb, fb⟩ := opens_int _ _ _ g1
 simp only [List.cons.injEq, and_true] at ha hb
 subst ha hb
 exact ⟨(a, b), rfl, fa, fb⟩

theorem opens_ints : Opens enc w base spare held 26 (List Int) := opens_slice Tryz.underlying26 (by kernel_rfl) (by decide) opens_int

theorem opens_wlit : Opens enc w base spare held 280 (Int × Int) := opens_pair Tryz.underlying280 ⟨rfl, rfl⟩ ⟨rfl, rfl⟩ (by kernel_rfl)
theorem opens_wlits : Opens enc w base spare held 208 (List (Int × Int)) := opens_slice Tryz.underlying208 (by kernel_rfl) (by decide) opens_wlit

theorem opens_ext : Opens enc w base spare held 220 (Int × Int) := opens_pair Tryz.underlying220 ⟨rfl, rfl⟩ ⟨rfl, rfl⟩ (by kernel_rfl)
theorem opens_exts : Opens enc w base spare held 57 (List (Int × Int)) := opens_slice Tryz.underlying57 (by kernel_rfl) (by decide) opens_ext

theorem opens_rule : Opens enc w base spare held 210 RuleD := by
 intro fuel cs y h
 obtain ⟨xs, n, _, _, hcl, hxl, hf⟩ := DataW.trod_struct Tryz.underlying210 h
 obtain ⟨c0, c1, c2, c3, c4, rfl⟩ := list5 (hcl.trans (show Tryz.prog.cellsOf 210 = 5 by kernel_rfl))
 have hxl : xs.length = 5 := hxl
 obtain ⟨y0, g0⟩ := field_of hf (i := 0) rfl (by omega) (by kernel_rfl) (c := c0) rfl
 obtain ⟨y1, g1⟩ := field_of hf (i := 1) rfl (by omega) (by kernel_rfl) (c := c1) rfl
 obtain ⟨y2, g2⟩ := field_of hf (i := 2) rfl (by omega) (by kernel_rfl) (c := c2) rfl
 obtain ⟨y3, g3⟩ := field_of hf (i := 3) rfl (by omega) (by kernel_rfl) (c := c3) rfl
 obtain ⟨y4, g4⟩ := field_of hf (i := 4) rfl (by omega) (by kernel_rfl) (c := c4) rfl
 obtain ⟨b0, e0, _⟩ := DataW.trod_bool Tryz.underlying4 g0
 obtain ⟨b2, e2, _⟩ := DataW.trod_bool Tryz.underlying4 g2
 obtain ⟨n3, e3, f3⟩ := opens_int _ _ _ g3
 obtain ⟨hs, r1⟩ := opens_ints _ _ _ g1
 obtain ⟨bs, r4⟩ := opens_wlits _ _ _ g4
 simp only [List.cons.injEq, and_true] at e0 e2 e3
 subst e0 e2 e3
 exact ⟨⟨b0, hs, b2, n3, bs⟩, c1, c4, rfl, f3, r1, r4⟩
theorem opens_rules : Opens enc w base spare held 54 (List RuleD) := opens_slice Tryz.underlying54 (by kernel_rfl) (by decide) opens_rule

theorem opens_level : Opens enc w base spare held 213 LevelD := by
 intro fuel cs y h
 obtain ⟨xs, n, _, _, hcl, hxl, hf⟩ := DataW.trod_struct Tryz.underlying213 h
 obtain ⟨c0, c1, rfl⟩ := list2 (hcl.trans (show Tryz.prog.cellsOf 213 = 2 by kernel_rfl))
 have hxl : xs.length = 2 := hxl
 obtain ⟨y0, g0⟩ := field_of hf (i := 0) rfl (by omega) (by kernel_rfl) (c := c0) rfl
 obtain ⟨y1, g1⟩ := field_of hf (i := 1) rfl (by omega) (by kernel_rfl) (c := c1) rfl
 obtain ⟨n0, e0, f0⟩ := opens_int _ _ _ g0
 obtain ⟨bs, r1⟩ := opens_wlits _ _ _ g1
 simp only [List.cons.injEq, and_true] at e0
 subst e0
 exact ⟨⟨n0, bs⟩, c1, rfl, f0, r1⟩
theorem opens_levels : Opens enc w base spare held 55 (List LevelD) := opens_slice Tryz.underlying55 (by kernel_rfl) (by decide) opens_level

theorem opens_show : Opens enc w base spare held 215 ShowD := by
 intro fuel cs y h
 obtain ⟨xs, n, _, _, hcl, hxl, hf⟩ := DataW.trod_struct Tryz.underlying215 h
 obtain ⟨c0, c1, rfl⟩ := list2 (hcl.trans (show Tryz.prog.cellsOf 215 = 2 by kernel_rfl))
 have hxl : xs.length = 2 := hxl
 obtain ⟨y0, g0⟩ := field_of hf (i := 0) rfl (by omega) (by kernel_rfl) (c := c0) rfl
 obtain ⟨y1, g1⟩ := field_of hf (i := 1) rfl (by omega) (by kernel_rfl) (c := c1) rfl
 obtain ⟨s0, e0, f0⟩ := opens_text _ _ _ g0
 obtain ⟨bs, r1⟩ := opens_ints _ _ _ g1
 simp only [List.cons.injEq, and_true] at e0
 subst e0
 exact ⟨⟨s0, bs⟩, c1, rfl, f0, r1⟩
theorem opens_shows : Opens enc w base spare held 56 (List ShowD) := opens_slice Tryz.underlying56 (by kernel_rfl) (by decide) opens_show

theorem opens_prog : Opens enc w base spare held 59 ProgD := by
 intro fuel cs y h
 obtain ⟨xs, n, _, _, hcl, hxl, hf⟩ := DataW.trod_struct Tryz.underlying59 h
 obtain ⟨c0, c1, c2, c3, c4, c5, c6, c7, rfl⟩ := list8 (hcl.trans (show Tryz.prog.cellsOf 59 = 8 by kernel_rfl))
 have hxl : xs.length = 8 := hxl
 obtain ⟨y0, g0⟩ := field_of hf (i := 0) rfl (by omega) (by kernel_rfl) (c := c0) rfl
 obtain ⟨y1, g1⟩ := field_of hf (i := 1) rfl (by omega) (by kernel_rfl) (c := c1) rfl
 obtain ⟨y2, g2⟩ := field_of hf (i := 2) rfl (by omega) (by kernel_rfl) (c := c2) rfl
 obtain ⟨y3, g3⟩ := field_of hf (i := 3) rfl (by omega) (by kernel_rfl) (c := c3) rfl
 obtain ⟨y4, g4⟩ := field_of hf (i := 4) rfl (by omega) (by kernel_rfl) (c := c4) rfl
 obtain ⟨y5, g5⟩ := field_of hf (i := 5) rfl (by omega) (by kernel_rfl) (c := c5) rfl
 obtain ⟨y6, g6⟩ := field_of hf (i := 6) rfl (by omega) (by kernel_rfl) (c := c6) rfl
 obtain ⟨y7, g7⟩ := field_of hf (i := 7) rfl (by omega) (by kernel_rfl) (c := c7) rfl
 obtain ⟨n0, e0, f0⟩ := opens_int _ _ _ g0
 obtain ⟨b3, e3, _⟩ := DataW.trod_bool Tryz.underlying4 g3
 obtain ⟨x1, r1⟩ := opens_rules _ _ _ g1
 obtain ⟨x2, r2⟩ := opens_levels _ _ _ g2
 obtain ⟨x4, r4⟩ := opens_ints _ _ _ g4
 obtain ⟨x5, r5⟩ := opens_shows _ _ _ g5
 obtain ⟨x6, r6⟩ := opens_exts _ _ _ g6
 obtain ⟨x7, r7⟩ := opens_ints _ _ _ g7
 simp only [List.cons.injEq, and_true] at e0 e3
 subst e0 e3
 exact ⟨⟨n0, x1, x2, b3, x4, x5, x6, x7⟩, c1, c2, c4, c5, c6, c7, rfl, f0, r1, r2, r4, r5, r6, r7⟩

/-- A struct as an argument. -/
theorem arg_struct {α : Type} [Rd α] {r : Reach} {b0 : Nat} {t : TypeId} {fs : Array Field} {v : Value} {d : DataW H} {p : List MemPlace} (ht : Tryz.prog.underlying t = some (.struct fs)) (ho : Opens enc w base spare held t α) (hv : Value.okWide Tryz.prog w r b0 t v)
  (h : DataW.Trod enc Tryz.prog w base spare held t v d p) : ∃ (cs : List Value) (x : α), v = .agg cs.toArray ∧ Rd.R w cs x := by
 obtain ⟨cs, rfl, _⟩ := okWide_struct ht hv
 obtain ⟨fuel, hf⟩ := h
 obtain ⟨x, hx⟩ := ho _ _ _ hf
 exact ⟨cs.toList, x, by simp, hx⟩
/-- A slice as an argument. -/
theorem arg_slice {α : Type} [Rd α] {r : Reach} {b0 : Nat} {t e : TypeId} {v : Value} {d : DataW H} {p : List MemPlace} (ht : Tryz.prog.underlying t = some (.slice e)) (ho : Opens enc w base spare held t (List α)) (hv : Value.okWide Tryz.prog w r b0 t v)
  (h : DataW.Trod enc Tryz.prog w base spare held t v d p) : ∃ x : List α, RdL w [v] x := by
 obtain ⟨a, n, c, rfl⟩ := okWide_slice ht hv
 obtain ⟨fuel, hf⟩ := h
 exact ho _ _ _ hf
end

end Go.Proofs.YthikhkeofcjdfaaGreat
