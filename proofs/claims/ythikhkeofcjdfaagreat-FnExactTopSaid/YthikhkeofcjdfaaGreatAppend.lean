/-
 'append(own, xs...)': a row of the call's own and a slice that is only read. No condition of its own.
-/
import Derived.Test.YthikhkeofcjdfaaGreatFill
import Derived.OwnWalk
import Derived.Laws.AppendOwnNone
namespace Go.Proofs.YthikhkeofcjdfaaGreat
set_option linter.unusedVariables false
set_option linter.unusedSimpArgs false
open Go.RowKit
set_option maxRecDepth 100000

/-- Data of a fixed number of cells, none of which leads elsewhere. -/
class Fl (α : Type) extends Ow α where
 enc : α → List Value
 ok : α → Prop
 spec : ∀ {w : World} {cs : List Value} {x : α}, Rd.R w cs x ↔ cs = enc x ∧ ok x
 ospec : ∀ {w : World} {cs : List Value} {x : α} {fp : List Nat}, Ow.O w cs x fp ↔ Rd.R w cs x ∧ fp = []
 pos : 0 < Rd.k α
instance instFlInt : Fl Int where
 enc n := [.int .i64 n]
 ok n := Fits n
 spec := Iff.rfl
 ospec := Iff.rfl
 pos := by decide
instance instFlPair : Fl (Int × Int) where
 enc p := [.int .i64 p.1, .int .i64 p.2]
 ok p := Fits p.1 ∧ Fits p.2
 spec := Iff.rfl
 ospec := Iff.rfl
 pos := by decide

theorem enc_len {α : Type} [Fl α] {w : World} {x : α} (h : Fl.ok x) : (Fl.enc x).length = Rd.k α := Rd.len (w := w) (Fl.spec.2 ⟨rfl, h⟩)
theorem enc_lenI {α : Type} [Fl α] {x : α} (h : Fl.ok x) : (Fl.enc x).length = Rd.k α := enc_len (w := default) h
theorem flat_len {α : Type} [Fl α] : ∀ {xs : List α}, (∀ x ∈ xs, Fl.ok x) → (xs.flatMap Fl.enc).length = xs.length * Rd.k α
 | [], _ => by simp
 | x :: r, h => by
  have ih := flat_len (xs := r) fun y hy => h y (List.mem_cons_of_mem _ hy)
  rw [List.flatMap_cons, List.length_append, ih, enc_lenI (h x (List.mem_cons_self ..)), List.length_cons, Nat.add_mul, Nat.one_mul, Nat.add_comm]
theorem flat_at {α : Type} [Fl α] : ∀ {xs : List α}, (∀ x ∈ xs, Fl.ok x) → ∀ {i j : Nat} {v : Value}, i < xs.length → (Fl.enc (nth xs i))[j]? = some v → (xs.flatMap Fl.enc)[i * Rd.k α + j]? = some v
 | [], _, i, j, v, hi, _ => absurd hi (by simp)
 | x :: r, h, 0, j, v, _, hv => by
  have hx := enc_lenI (h x (List.mem_cons_self ..))
  have hj : j < (Fl.enc x).length := (List.getElem?_eq_some_iff.1 hv).1
  rw [Nat.zero_mul, Nat.zero_add, List.flatMap_cons, List.getElem?_append_left hj]
  exact hv
 | x :: r, h, i + 1, j, v, hi, hv => by
  have hx := enc_lenI (h x (List.mem_cons_self ..))
  have ih := flat_at (xs := r) (fun y hy => h y (List.mem_cons_of_mem _ hy)) (i := i) (j := j) (v := v) (by simpa using hi) hv
  rw [List.flatMap_cons, List.getElem?_append_right (by rw [hx, Nat.add_mul]; omega), hx, show (i + 1) * Rd.k α + j - Rd.k α = i * Rd.k α + j by rw [Nat.add_mul]; omega]
  exact ih
theorem flat_one {α : Type} [Fl α] {xs : List α} (h : ∀ x ∈ xs, Fl.ok x) : ∀ u ∈ xs.flatMap Fl.enc, u.oneCell' = true := by
 intro u hu
 obtain ⟨x, hx, hu⟩ := List.mem_flatMap.1 hu
 exact Rd.one (w := default) (Fl.spec.2 ⟨rfl, h x hx⟩) u hu

/-- The cells of a slice that reads as xs. -/
theorem flat_cells {α : Type} [Fl α] {w : World} {b off : Nat} {xs : List α} (hok : ∀ x ∈ xs, Fl.ok x) (h : ∀ i, i < xs.length → ∃ cs, Cells w b (off + i * Rd.k α) cs ∧ Rd.R w cs (nth xs i)) :
  ∀ j u, (xs.flatMap Fl.enc)[j]? = some u → w.cell? ⟨b, off + j, none⟩ = some u := by
 intro j u hu
 have hK : 0 < Rd.k α := Fl.pos
 have hj : j < xs.length * Rd.k α := by rw [← flat_len hok]; exact (List.getElem?_eq_some_iff.1 hu).1
 have hi : j / Rd.k α < xs.length := Nat.div_lt_of_lt_mul (by rw [Nat.mul_comm]; exact hj)
 obtain ⟨cs, hc, hr⟩ := h _ hi
 obtain ⟨rfl, ho⟩ := Fl.spec.1 hr
 have hm : j % Rd.k α < (Fl.enc (nth xs (j / Rd.k α))).length := by rw [enc_lenI ho]; exact Nat.mod_lt _ hK
 have e : j = j / Rd.k α * Rd.k α + j % Rd.k α := by rw [Nat.mul_comm]; exact (Nat.div_add_mod j (Rd.k α)).symm
 have h1 := flat_at hok hi (List.getElem?_eq_getElem hm)
 rw [← e, hu] at h1
 have h2 := hc _ _ (List.getElem?_eq_getElem hm)
 rw [Nat.add_assoc, ← e] at h2
 rw [h2, h1]

/-- v is nil, or a row of the call's own: it holds xs. -/
def OwnF {α : Type} [Fl α] (B : Nat) (e : TypeId) (w : World) (v : Value) (xs : List α) : Prop :=
 w.ownsRow B e (Rd.k α) v xs.length (xs.flatMap Fl.enc) ∧ ∀ x ∈ xs, Fl.ok x

theorem flat_map : ∀ xs : List Int, xs.flatMap (Fl.enc (α := Int)) = xs.map (Value.int .i64)
 | [] => rfl
 | x :: r => by rw [List.flatMap_cons, flat_map r]; rfl
theorem OwnI.flat {B : Nat} {w : World} {v : Value} {xs : List Int} (h : OwnI B w v xs) : OwnF B 3 w v xs :=
 ⟨by rw [flat_map]; exact h.1, h.2.2⟩
theorem OwnF.ints {B : Nat} {w : World} {v : Value} {xs : List Int} (h : OwnF B 3 w v xs) (hl : xs.length ≤ 9223372036854775807) : OwnI B w v xs := by
 have h1 := h.1
 rw [flat_map] at h1
 exact ⟨h1, hl, h.2⟩

theorem OwnF.own {α : Type} [Fl α] {B : Nat} {e : TypeId} {w : World} {v : Value} {xs : List α} (h : OwnF B e w v xs) : Own B w [v] xs := by
 obtain ⟨⟨h1, h2⟩, h3⟩ := h
 rcases h2 with ⟨rfl, hn⟩ | ⟨g, cap, cur, rfl, hg, hh, hnc, hcm, hcs, ht⟩
 ·have : xs = [] := List.eq_nil_of_length_eq_zero hn
  subst this
  exact Own.nilL _ _ _ _ (by omega)
 ·refine ⟨[g], ⟨_, _, rfl, hnc, by unfold maxLen at hcm; omega, ?_⟩, fun x hx => by simp at hx; omega⟩
  have hr : w.ownsRow B e (Rd.k α) (.slice (some ⟨g, 0, none⟩) xs.length cap) xs.length (xs.flatMap Fl.enc) := ⟨h1, .inr ⟨g, cap, cur, rfl, hg, hh, hnc, hcm, hcs, ht⟩⟩
  refine .inr ⟨g, e, cur, List.replicate xs.length [], rfl, hh, by rw [hcs]; exact Nat.le_refl _, by simp, by simp, by simp, fun i hi => ?_⟩
  refine ⟨Fl.enc (nth xs i), fun j v hv => ?_, Fl.ospec.2 ⟨Fl.spec.2 ⟨rfl, h3 _ (nth_mem hi)⟩, by simp [List.getD_eq_getElem?_getD, List.getElem?_replicate, hi]⟩⟩
  have hj : j < (Fl.enc (nth xs i)).length := (List.getElem?_eq_some_iff.1 hv).1
  rw [enc_lenI (h3 _ (nth_mem hi))] at hj
  have hroom := mul_room (K := Rd.k α) hi
  rw [hr.cellAt _ (by omega)]
  exact flat_at h3 hi hv

theorem run_append_none_any {P : Program} (w : World) (base : Nat) (t ty e : TypeId) (i : TypeInfo) (size : Nat) (ht : P.underlying t = some (.slice e)) (hi : P.info? e = some i) (v : Value) (n : Nat) (xs : List Value) (hown : w.ownsRow base e size v n xs) (c : Nat) :
  (Builtin.append_ #[t, t] ty #[v, .slice none 0 c]).run P w = .ok v w := by
 obtain ⟨_, h⟩ := hown
 rcases h with ⟨rfl, rfl⟩ | ⟨g, cap, cur, rfl, _, _, hnc, _⟩
 ·simp [Builtin.append_, run_underlying ht, sizeOf, typeInfo, hi, Builtin.lenOf, Builtin.firstCells]
 ·simp [Builtin.append_, run_underlying ht, sizeOf, typeInfo, hi, Builtin.lenOf, Builtin.firstCells, hnc, storeCells]
theorem wpList_append_none_any {P : Program} {w : World} {ops : Array Oper} {rest : List Oper} {o : Oper} {a : Act} {Q : Exit → Act → World → Prop} (hgd : o.guard = none) (s x : Operand) (t : TypeId)
  (ho : o.op = .call { callee := .builtin .append, args := #[s, x], argTypes := #[t, t] })
  (base : Nat) (e : TypeId) (i : TypeInfo) (size : Nat) (ht : P.underlying t = some (.slice e)) (hi : P.info? e = some i)
  (v : Value) (n : Nat) (xs : List Value) (hs : a.eval s = v) (hown : w.ownsRow base e size v n xs) (c : Nat) (hx : a.eval x = .slice none 0 c)
  (h : wpList P ops Q rest (a.put o.dst v) w) : wpList P ops Q (o :: rest) a w := by
 refine wpList_plain hgd fun K hK => ?_
 have hrun := run_append_none_any (P := P) w base t o.type e i size ht hi v n xs hown c
 unfold Oper.wp
 simp [execOp, ho, resolve, invoke, builtin, hs, hx, hrun, Result.andThen]
 exact hK _ _ h

/-- 'append(own, xs...)': what is appended is only read, nil and empty let in. -/
theorem wpList_append_flat {α : Type} [Fl α] {P : Program} {ops : Array Oper} {rest : List Oper} {o : Oper} {a : Act} {Q : Exit → Act → World → Prop} {w : World} {B : Nat} {e : TypeId} {v : Value} {xs ys : List α} {src : Value} (hgd : o.guard = none) (s x : Operand) (t : TypeId)
  (ho : o.op = .call { callee := .builtin .append, args := #[s, x], argTypes := #[t, t] })
  (i : TypeInfo) (z : Value) (bytes : Nat) (ht : P.underlying t = some (.slice e)) (hi : P.info? e = some i) (hz : i.zero = some z) (hsize : i.size = Rd.k α) (hby : i.bytes = bytes) (hzs : z.cells.size = Rd.k α)
  (hs : a.eval s = v) (hown : OwnF B e w v xs) (hx : a.eval x = src) (hr : RdL w [src] ys) (hl : (xs.length + ys.length) * bytes ≤ 140737488355328) (hl2 : xs.length + ys.length ≤ 140737488355328) (hB : B ≤ w.heap.size)
  (h : ∀ v' w', OwnF B e w' v' (xs ++ ys) → Below B w w' → w.grownBy w' v.ownBlock → wpList P ops Q rest (a.put o.dst v') w') : wpList P ops Q (o :: rest) a w := by
 obtain ⟨ad, c, rfl, _, hrow⟩ := hr.sl
 have hK : 0 < Rd.k α := Fl.pos
 have hoky : ∀ y ∈ ys, Fl.ok y := by
  intro y hy
  obtain ⟨k, hk, rfl⟩ := List.getElem_of_mem hy
  obtain ⟨_, _, cs, _, _, hr⟩ := hrow.2 k hk
  rw [nth_eq hk] at hr
  exact (Fl.spec.1 hr).2
 have hflat : (xs ++ ys).flatMap (Fl.enc (α := α)) = xs.flatMap Fl.enc ++ ys.flatMap Fl.enc := by rw [List.flatMap_append]
 have hall : ∀ z ∈ xs ++ ys, Fl.ok z := fun z hz => (List.mem_append.1 hz).elim (hown.2 z) (hoky z)
 cases ad with
 | none =>
  have hn : ys = [] := by
   cases ys with
   | nil => rfl
   | cons y r => obtain ⟨b, off, _, ha, _⟩ := hrow.2 0 (by simp); cases ha
  subst hn
  refine wpList_append_none_any hgd s x t ho B e i (Rd.k α) ht hi v xs.length _ hs hown.1 c hx ?_
  exact h v w (by rw [List.append_nil]; exact hown) (Below.refl _ _) (World.grownBy.refl w _)
 | some ad =>
  refine wpList_append_own w hgd s x t ho B e i z (Rd.k α) bytes ht hi hz hsize hby hzs hK v xs.length (xs.flatMap Fl.enc) hs hown.1 ad ys.length c (ys.flatMap Fl.enc) hx (flat_len hoky) ?_ (flat_one hoky) (by unfold maxLen; omega) hl hB ?_
  ·by_cases hne : 0 < ys.length
   ·obtain ⟨b, off, ha, hc⟩ := hrow.base hne
    cases ha
    intro j u hu
    have := flat_cells hoky hc j u hu
    unfold Addr.add
    by_cases hj : j = 0
    ·subst hj; simpa using this
    ·rw [if_neg hj]; exact this
   ·have : ys = [] := by cases ys <;> simp_all
    subst this
    intro j u hu
    simp at hu
  ·intro v' w' h1 h2 _
   refine h v' w' ⟨by rw [hflat, List.length_append]; exact h1, hall⟩ ((Below.refl _ _).grown h2 hB fun k hk => (hown.1.lt k hk).1) h2

end Go.Proofs.YthikhkeofcjdfaaGreat
