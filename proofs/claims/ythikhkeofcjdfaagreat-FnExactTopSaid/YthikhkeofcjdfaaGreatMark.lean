/-
 The laws' own marks: what a call owns is written over, number by number, and read again. No condition of its own.
-/
import Derived.Test.YthikhkeofcjdfaaGreatAppend
import Derived.Test.YthikhkeofcjdfaaGreatLawsTo
namespace Go.Proofs.YthikhkeofcjdfaaGreat
set_option linter.unusedVariables false
set_option linter.unusedSimpArgs false
open Go.RowKit
set_option maxRecDepth 100000

/-- What a datum is after it was marked from k on; how many marks it takes. -/
class Mk (α : Type) where
 mkd : Int → α → α
 cnt : α → Nat
instance instMkInt : Mk Int := ⟨fun k _ => k, fun _ => 1⟩
instance instMkPair : Mk (Int × Int) := ⟨fun k _ => (k, k + 1), fun _ => 2⟩
def cntTo {α : Type} [Inhabited α] [Mk α] (xs : List α) : Nat → Nat
 | 0 => 0
 | j + 1 => cntTo xs j + Mk.cnt (nth xs j)
def seqTo {α : Type} [Inhabited α] [Mk α] (k : Int) (xs : List α) : Nat → List α
 | 0 => []
 | j + 1 => seqTo k xs j ++ [Mk.mkd (k + cntTo xs j) (nth xs j)]
instance instMkList {α : Type} [Inhabited α] [Mk α] : Mk (List α) := ⟨fun k xs => seqTo k xs xs.length, fun xs => cntTo xs xs.length⟩
theorem seqTo_len {α : Type} [Inhabited α] [Mk α] (k : Int) (xs : List α) : ∀ j, (seqTo k xs j).length = j
 | 0 => rfl
 | j + 1 => by simp [seqTo, seqTo_len k xs j]
theorem seqTo_nth {α : Type} [Inhabited α] [Mk α] (k : Int) (xs : List α) {i : Nat} : ∀ {n : Nat}, i < n → nth (seqTo k xs n) i = Mk.mkd (k + cntTo xs i) (nth xs i)
 | n + 1, h => by
  unfold nth
  rw [List.getD_eq_getElem?_getD]
  by_cases e : i < n
  ·have := seqTo_nth k xs e
   unfold nth at this
   rw [List.getD_eq_getElem?_getD] at this
   rw [seqTo, List.getElem?_append_left (by rw [seqTo_len]; exact e), this]
  ·have : i = n := by omega
   subst this
   rw [seqTo, List.getElem?_append_right (by rw [seqTo_len]; exact Nat.le_refl _), seqTo_len]
   simp [nth]
/-- The first j are marked. -/
def mkTo {α : Type} [Inhabited α] [Mk α] (k : Int) (xs : List α) (j : Nat) : List α := seqTo k xs j ++ xs.drop j
theorem mkTo_zero {α : Type} [Inhabited α] [Mk α] (k : Int) (xs : List α) : mkTo k xs 0 = xs := by simp [mkTo, seqTo]
theorem mkTo_all {α : Type} [Inhabited α] [Mk α] (k : Int) (xs : List α) : mkTo k xs xs.length = Mk.mkd k xs := by simp [mkTo, Mk.mkd]
theorem mkTo_len {α : Type} [Inhabited α] [Mk α] (k : Int) (xs : List α) {j : Nat} (hj : j ≤ xs.length) : (mkTo k xs j).length = xs.length := by simp [mkTo, seqTo_len]; omega
theorem mkTo_nth {α : Type} [Inhabited α] [Mk α] (k : Int) {xs : List α} {j : Nat} (hj : j < xs.length) : nth (mkTo k xs j) j = nth xs j := by
 unfold nth mkTo
 rw [List.getD_eq_getElem?_getD, List.getD_eq_getElem?_getD, List.getElem?_append_right (by rw [seqTo_len]; exact Nat.le_refl _), seqTo_len, Nat.sub_self, List.getElem?_drop, Nat.add_zero]
theorem mkTo_set {α : Type} [Inhabited α] [Mk α] (k : Int) {xs : List α} {j : Nat} (hj : j < xs.length) : (mkTo k xs j).set j (Mk.mkd (k + cntTo xs j) (nth xs j)) = mkTo k xs (j + 1) := by
 unfold mkTo
 rw [List.set_append_right _ _ (by rw [seqTo_len]; exact Nat.le_refl _), seqTo_len, Nat.sub_self, List.drop_eq_getElem_cons hj, List.set_cons_zero, seqTo, List.append_assoc]
 rfl
theorem cntTo_int (xs : List Int) : ∀ j, cntTo xs j = j
 | 0 => rfl
 | j + 1 => by rw [cntTo, cntTo_int xs j]; rfl
theorem cntTo_pair (xs : List (Int × Int)) : ∀ j, cntTo xs j = 2 * j
 | 0 => rfl
 | j + 1 => by rw [cntTo, cntTo_pair xs j]; show 2 * j + 2 = _; omega

theorem nth_set_eq {α : Type} [Inhabited α] {xs : List α} {i : Nat} {x : α} (h : i < xs.length) : nth (xs.set i x) i = x := by
 unfold nth; rw [List.getD_eq_getElem?_getD, List.getElem?_set_self h]; rfl
theorem nth_set_ne {α : Type} [Inhabited α] {xs : List α} {i j : Nat} {x : α} (h : i ≠ j) : nth (xs.set i x) j = nth xs j := by
 unfold nth; rw [List.getD_eq_getElem?_getD, List.getD_eq_getElem?_getD, List.getElem?_set_ne h]

theorem getD_disj {fps : List (List Nat)} (hn : fps.flatten.Nodup) {i j : Nat} (h : i ≠ j) {g : Nat} (h1 : g ∈ fps.getD i []) (h2 : g ∈ fps.getD j []) : False := by
 induction fps generalizing i j with
 | nil => simp at h1
 | cons f r ih =>
  rw [List.flatten_cons, List.nodup_append] at hn
  cases i with
  | zero =>
   cases j with
   | zero => exact h rfl
   | succ j => exact hn.2.2 g (by simpa using h1) g (mem_flat (i := j) (by simpa using h2)) rfl
  | succ i =>
   cases j with
   | zero => exact hn.2.2 g (by simpa using h2) g (mem_flat (i := i) (by simpa using h1)) rfl
   | succ j => exact ih hn.2.1 (i := i) (j := j) (by omega) (by simpa using h1) (by simpa using h2)

/-- A slice of the call's own, opened at one element. -/
theorem OwL.openAt {α : Type} [Ow α] {w : World} {a : Option Addr} {n cap : Nat} {xs : List α} {fp : List Nat} (h : OwL w [.slice a n cap] xs fp) {i : Nat} (hi : i < xs.length) :
  ∃ g e cur f ecs, n = xs.length ∧ a = some ⟨g, 0, none⟩ ∧ g ∈ fp ∧ g ∉ f ∧ (∀ x ∈ f, x ∈ fp) ∧ w.heap[g]? = some (.cells cur e (0, 0)) ∧ i * Rd.k α + Rd.k α ≤ cur.size ∧ Cells w g (i * Rd.k α) ecs ∧ Ow.O w ecs (nth xs i) f ∧
   ∀ (w' : World) (cur' : Array Value) (ecs' : List Value) (x' : α), w'.heap[g]? = some (.cells cur' e (0, 0)) → cur'.size = cur.size → (∀ j, ¬ (i * Rd.k α ≤ j ∧ j < i * Rd.k α + Rd.k α) → cur'[j]? = cur[j]?) → Cells w' g (i * Rd.k α) ecs' → Ow.O w' ecs' x' f →
    (∀ b, b < w.heap.size → b ≠ g → b ∉ f → w'.heap[b]? = w.heap[b]?) → OwL w' [.slice a n cap] (xs.set i x') fp := by
 obtain ⟨a', cap', he, h1, h2, h3⟩ := h
 simp only [List.cons.injEq, Value.slice.injEq, and_true] at he
 obtain ⟨rfl, rfl, rfl⟩ := he
 rcases h3 with ⟨rfl, _⟩ | ⟨g, e, cur, fps, rfl, hh, hs, hl, rfl, hn, h4⟩
 ·simp at hi
 obtain ⟨ecs, hc, ho⟩ := h4 i hi
 have hroom := mul_room (K := Rd.k α) hi
 have hsc := Nat.le_trans (Nat.mul_le_mul_right (Rd.k α) h1) hs
 have hnd := List.nodup_cons.1 hn
 refine ⟨g, e, cur, fps.getD i [], ecs, rfl, rfl, List.mem_cons_self .., fun hm => hnd.1 (mem_flat hm), fun x hx => List.mem_cons_of_mem _ (mem_flat hx), hh, by omega, hc, ho, ?_⟩
 intro w' cur' ecs' x' hh' hs' hcur hc' ho' hk
 refine ⟨some ⟨g, 0, none⟩, cap, by rw [List.length_set], by rw [List.length_set]; exact h1, h2, .inr ⟨g, e, cur', fps, rfl, hh', by rw [hs']; exact hs, by rw [List.length_set]; exact hl, rfl, hn, fun j hj => ?_⟩⟩
 rw [List.length_set] at hj
 by_cases hij : i = j
 ·subst hij
  exact ⟨ecs', hc', by rw [nth_set_eq hi]; exact ho'⟩
 ·obtain ⟨es, hce, hoe⟩ := h4 j hj
  have hel : es.length = Rd.k α := Rd.len (Ow.rd hoe)
  refine ⟨es, fun m v hv => ?_, ?_⟩
  ·have hm : m < es.length := (List.getElem?_eq_some_iff.1 hv).1
   have := hce m v hv
   rw [cell_of_row _ g _ cur e (0, 0) hh] at this
   rw [cell_of_row _ g _ cur' e (0, 0) hh', hcur _ ?_]
   ·exact this
   ·rcases Nat.lt_or_ge i j with h | h
    ·have := mul_room (K := Rd.k α) h; omega
    ·have := mul_room (K := Rd.k α) (show j < i by omega); omega
  ·rw [nth_set_ne hij]
   refine Ow.kept hoe fun b hb => hk b (Ow.lt hoe b hb) (fun e => hnd.1 (e ▸ mem_flat hb)) (fun hbi => getD_disj hnd.2 hij hbi hb)

/-- .. where the element lies in the slice's own block alone. -/
theorem OwL.putFlat {α : Type} [Fl α] {w : World} {a : Option Addr} {n cap : Nat} {xs : List α} {fp : List Nat} (h : OwL w [.slice a n cap] xs fp) {i : Nat} (hi : i < xs.length) :
  ∃ g, a = some ⟨g, 0, none⟩ ∧ Cells w g (i * Rd.k α) (Fl.enc (nth xs i)) ∧ (∀ j, w.frozen? ⟨g, j, none⟩ = false) ∧ ∀ x' : α, Fl.ok x' → OwL (put w g (i * Rd.k α) (Fl.enc x')) [.slice a n cap] (xs.set i x') fp ∧ ChgF fp w (put w g (i * Rd.k α) (Fl.enc x')) := by
 obtain ⟨g, e, cur, f, ecs, _, rfl, hg, _, _, hh, hroom, hc, ho, hclose⟩ := h.openAt hi
 obtain ⟨hr, rfl⟩ := Fl.ospec.1 ho
 obtain ⟨rfl, _⟩ := Fl.spec.1 hr
 refine ⟨g, rfl, hc, fun j => frozen_of_row w g j cur e hh, fun x' hx' => ?_⟩
 have hlen := enc_lenI hx'
 obtain ⟨cur', h1, h2, h3⟩ := put_block g e (Fl.enc x') w (i * Rd.k α) cur hh (by omega)
 refine ⟨hclose _ cur' (Fl.enc x') x' h1 h2 (fun j hj => by rw [h3, if_neg (by omega)]) (Cells.put_here hh (by omega)) (Fl.ospec.2 ⟨Fl.spec.2 ⟨rfl, hx'⟩, rfl⟩) fun b _ hb _ => (put_chg g _ w _).block b (by simpa using hb), (put_chg g _ w _).more fun x hx => by simp at hx; exact hx ▸ hg⟩

theorem OwL.len {α : Type} [Ow α] {w : World} {a : Option Addr} {n cap : Nat} {xs : List α} {fp : List Nat} (h : OwL w [.slice a n cap] xs fp) : n = xs.length := by
 obtain ⟨a', cap', he, _⟩ := h
 simp only [List.cons.injEq, Value.slice.injEq, and_true] at he
 exact he.2.1
theorem OwL.sl {α : Type} [Ow α] {w : World} {v : Value} {xs : List α} {fp : List Nat} (h : OwL w [v] xs fp) : ∃ a cap, v = .slice a xs.length cap := by
 obtain ⟨a', cap', he, _⟩ := h
 simp at he
 exact ⟨_, _, he⟩

set_option maxHeartbeats 1000000 in
theorem markIntSO_calls {v : Value} {xs : List Int} {fp : List Nat} {w : World} (k : Int) (h : OwL w [v] xs fp) (h0 : 0 ≤ k) (h1 : k + xs.length ≤ 1152921504606846976) :
  Calls Tryz.prog 36 #[v, .int .i64 k] w fun e w' => e = .returned (.int .i64 (k + cntTo xs xs.length)) ∧ OwL w' [v] (Mk.mkd k xs) fp ∧ ChgF fp w w' := by
 obtain ⟨a, cap, rfl⟩ := h.sl
 have hm : xs.length ≤ 9223372036854775807 := by omega
 have h' : OwL w [.slice a xs.length cap] (mkTo k xs 0) fp := by rw [mkTo_zero]; exact h
 have HE : Hid (cntTo xs xs.length = xs.length ∧ mkTo k xs xs.length = Mk.mkd k xs) := ⟨cntTo_int _ _, mkTo_all _ _⟩
 clear h
 go_enter Tryz.func36, Tryz.ntmps36
 go_wp2
 go_loopw [1, 5] (fun q i wr => ∃ j : Nat, j ≤ xs.length ∧ i = .int .i64 j ∧ q = .int .i64 (k + j) ∧ OwL wr [.slice a xs.length cap] (mkTo k xs j) fp ∧ ChgF fp w wr) (fun _ i _ => xs.length - (intOf i).toNat)
 case atStart => exact ⟨0, Nat.zero_le _, rfl, by simp, h', ChgF.refl _ _⟩
 case round =>
  obtain ⟨j, hj, rfl, rfl, ho, hg⟩ := hrel
  clear h'
  by_cases hlt : j < xs.length
  ·have hl := mkTo_len k xs hj
   obtain ⟨g, rfl, hC, hfr, hput⟩ := ho.putFlat (i := j) (by omega)
   obtain ⟨p1, p2⟩ := hput (k + (j : Int)) ⟨by omega, by omega⟩
   have hset := mkTo_set k hlt
   rw [cntTo_int] at hset
   rw [show Mk.mkd (k + (j : Int)) (nth xs j) = k + (j : Int) from rfl] at hset
   rw [hset] at p1
   have c0 := hC.c0
   rw [show Rd.k Int = 1 from rfl, Nat.mul_one] at c0 p1 p2
   have f0 := hfr j
   have P1 := Lib.hid p1
   have P2 := Lib.hid (hg.trans p2)
   clear hC hfr hput p1 p2 ho hg hset hl
   go_wp2
   go_roundw
   case rel => exact ⟨j + 1, by omega, by go_num, by go_num, P1.out, P2.out⟩
   case measure => simp [intOf]; omega
  ·have hjj : j = xs.length := by omega
   have HO : Hid (OwL wr [.slice a xs.length cap] (Mk.mkd k xs) fp) := by have := ho; rw [hjj, HE.out.2] at this; exact this
   have hjn := Lib.hid hjj
   clear hjj ho
   go_wp2
   go_ret
   exact ⟨ret_int (by rw [hjn.out, HE.out.1]), HO.out, hg⟩

set_option maxHeartbeats 1000000 in
theorem markWLitS_calls {v : Value} {xs : List (Int × Int)} {fp : List Nat} {w : World} (k : Int) (h : OwL w [v] xs fp) (h0 : 0 ≤ k) (h1 : k + 2 * xs.length ≤ 1152921504606846976) :
  Calls Tryz.prog 205 #[v, .int .i64 k] w fun e w' => e = .returned (.int .i64 (k + cntTo xs xs.length)) ∧ OwL w' [v] (Mk.mkd k xs) fp ∧ ChgF fp w w' := by
 obtain ⟨a, cap, rfl⟩ := h.sl
 have hm : xs.length ≤ 9223372036854775807 := by omega
 have h' : OwL w [.slice a xs.length cap] (mkTo k xs 0) fp := by rw [mkTo_zero]; exact h
 have HE : Hid (((cntTo xs xs.length : Nat) : Int) = 2 * xs.length ∧ mkTo k xs xs.length = Mk.mkd k xs) := ⟨by rw [cntTo_pair]; omega, mkTo_all _ _⟩
 clear h
 go_enter Tryz.func205, Tryz.ntmps205
 go_wp2
 go_loopw [1, 5] (fun q i wr => ∃ j : Nat, j ≤ xs.length ∧ i = .int .i64 j ∧ q = .int .i64 (k + 2 * (j : Int)) ∧ OwL wr [.slice a xs.length cap] (mkTo k xs j) fp ∧ ChgF fp w wr) (fun _ i _ => xs.length - (intOf i).toNat)
 case atStart => exact ⟨0, Nat.zero_le _, rfl, by simp, h', ChgF.refl _ _⟩
 case round =>
  obtain ⟨j, hj, rfl, rfl, ho, hg⟩ := hrel
  clear h'
  by_cases hlt : j < xs.length
  ·have hl := mkTo_len k xs hj
   obtain ⟨g, rfl, hC, hfr, hput⟩ := ho.putFlat (i := j) (by omega)
   obtain ⟨p1, p2⟩ := hput (k + 2 * (j : Int), k + 2 * (j : Int) + 1) ⟨⟨by show _ ≤ k + 2 * (j : Int); omega, by show k + 2 * (j : Int) ≤ _; omega⟩, ⟨by show _ ≤ k + 2 * (j : Int) + 1; omega, by show k + 2 * (j : Int) + 1 ≤ _; omega⟩⟩
   have hset := mkTo_set k hlt
   rw [cntTo_pair] at hset
   rw [show Mk.mkd (k + ((2 * j : Nat) : Int)) (nth xs j) = (k + 2 * (j : Int), k + 2 * (j : Int) + 1) from by show (k + ((2 * j : Nat) : Int), k + ((2 * j : Nat) : Int) + 1) = _; rw [show ((2 * j : Nat) : Int) = 2 * (j : Int) by omega]] at hset
   rw [hset] at p1
   have c0 := hC.c0
   have c1 := hC.c1
   rw [show Rd.k (Int × Int) = 2 from rfl] at c0 c1 p1 p2
   have f0 := hfr (j * 2)
   have f1 := hfr (j * 2 + 1)
   have P1 := Lib.hid p1
   have P2 := Lib.hid (hg.trans p2)
   clear hC hfr hput p1 p2 ho hg hset hl
   go_wp2
   go_roundw
   case rel => exact ⟨j + 1, by omega, by go_num, by go_num, P1.out, P2.out⟩
   case measure => simp [intOf]; omega
  ·have hjj : j = xs.length := by omega
   have HO : Hid (OwL wr [.slice a xs.length cap] (Mk.mkd k xs) fp) := by have := ho; rw [hjj, HE.out.2] at this; exact this
   have hjn := Lib.hid hjj
   clear hjj ho
   go_wp2
   go_ret
   exact ⟨ret_int (by rw [hjn.out, HE.out.1]), HO.out, hg⟩

set_option maxHeartbeats 1000000 in
theorem markExtS_calls {v : Value} {xs : List (Int × Int)} {fp : List Nat} {w : World} (k : Int) (h : OwL w [v] xs fp) (h0 : 0 ≤ k) (h1 : k + 2 * xs.length ≤ 1152921504606846976) :
  Calls Tryz.prog 120 #[v, .int .i64 k] w fun e w' => e = .returned (.int .i64 (k + cntTo xs xs.length)) ∧ OwL w' [v] (Mk.mkd k xs) fp ∧ ChgF fp w w' := by
 obtain ⟨a, cap, rfl⟩ := h.sl
 have hm : xs.length ≤ 9223372036854775807 := by omega
 have h' : OwL w [.slice a xs.length cap] (mkTo k xs 0) fp := by rw [mkTo_zero]; exact h
 have HE : Hid (((cntTo xs xs.length : Nat) : Int) = 2 * xs.length ∧ mkTo k xs xs.length = Mk.mkd k xs) := ⟨by rw [cntTo_pair]; omega, mkTo_all _ _⟩
 clear h
 go_enter Tryz.func120, Tryz.ntmps120
 go_wp2
 go_loopw [1, 5] (fun q i wr => ∃ j : Nat, j ≤ xs.length ∧ i = .int .i64 j ∧ q = .int .i64 (k + 2 * (j : Int)) ∧ OwL wr [.slice a xs.length cap] (mkTo k xs j) fp ∧ ChgF fp w wr) (fun _ i _ => xs.length - (intOf i).toNat)
 case atStart => exact ⟨0, Nat.zero_le _, rfl, by simp, h', ChgF.refl _ _⟩
 case round =>
  obtain ⟨j, hj, rfl, rfl, ho, hg⟩ := hrel
  clear h'
  by_cases hlt : j < xs.length
  ·have hl := mkTo_len k xs hj
   obtain ⟨g, rfl, hC, hfr, hput⟩ := ho.putFlat (i := j) (by omega)
   obtain ⟨p1, p2⟩ := hput (k + 2 * (j : Int), k + 2 * (j : Int) + 1) ⟨⟨by show _ ≤ k + 2 * (j : Int); omega, by show k + 2 * (j : Int) ≤ _; omega⟩, ⟨by show _ ≤ k + 2 * (j : Int) + 1; omega, by show k + 2 * (j : Int) + 1 ≤ _; omega⟩⟩
   have hset := mkTo_set k hlt
   rw [cntTo_pair] at hset
   rw [show Mk.mkd (k + ((2 * j : Nat) : Int)) (nth xs j) = (k + 2 * (j : Int), k + 2 * (j : Int) + 1) from by show (k + ((2 * j : Nat) : Int), k + ((2 * j : Nat) : Int) + 1) = _; rw [show ((2 * j : Nat) : Int) = 2 * (j : Int) by omega]] at hset
   rw [hset] at p1
   have c0 := hC.c0
   have c1 := hC.c1
   rw [show Rd.k (Int × Int) = 2 from rfl] at c0 c1 p1 p2
   have f0 := hfr (j * 2)
   have f1 := hfr (j * 2 + 1)
   have P1 := Lib.hid p1
   have P2 := Lib.hid (hg.trans p2)
   clear hC hfr hput p1 p2 ho hg hset hl
   go_wp2
   go_roundw
   case rel => exact ⟨j + 1, by omega, by go_num, by go_num, P1.out, P2.out⟩
   case measure => simp [intOf]; omega
  ·have hjj : j = xs.length := by omega
   have HO : Hid (OwL wr [.slice a xs.length cap] (Mk.mkd k xs) fp) := by have := ho; rw [hjj, HE.out.2] at this; exact this
   have hjn := Lib.hid hjj
   clear hjj ho
   go_wp2
   go_ret
   exact ⟨ret_int (by rw [hjn.out, HE.out.1]), HO.out, hg⟩


theorem seqTo_int (k : Int) (xs : List Int) : ∀ j, seqTo k xs j = seqI k j
 | 0 => rfl
 | j + 1 => by rw [seqTo, seqI, seqTo_int k xs j, cntTo_int]; rfl
theorem heldIntSO_calls {v : Value} {xs : List Int} {w : World} (k : Int) (h : RdL w [v] (Mk.mkd k xs)) (h0 : 0 ≤ k) (h1 : k + xs.length ≤ 1152921504606846976) :
  Calls Tryz.prog 123 #[v, .int .i64 k] w fun e w' => e = .returned (.int .i64 (k + cntTo xs xs.length)) ∧ w = w' := by
 have h2 : RdL w [v] (seqI k xs.length) := by rw [← seqTo_int k xs]; exact h
 obtain ⟨a, cap, rfl, _, hr⟩ := h2.sl
 rw [seqI_len, cntTo_int]
 exact heldIntS_calls a xs.length cap k w hr.ints h0 h1

/-- Of the blocks that were there only those from lo to less than hi have been written. -/
structure WrI (lo hi : Nat) (w w' : World) : Prop where
 os : w'.os = w.os
 tape : w'.tape = w.tape
 output : w'.output = w.output
 size : w.heap.size ≤ w'.heap.size
 block : ∀ g, g < w.heap.size → (g < lo ∨ hi ≤ g) → w'.heap[g]? = w.heap[g]?
theorem WrI.below {lo hi : Nat} {W w w' : World} (g : WrI lo hi w w') (t : Below W.heap.size W w) (hl : W.heap.size ≤ lo) : Below W.heap.size W w' :=
 t.trans ⟨g.os, g.tape, g.output, g.size, fun k hk => g.block k (by have := t.size; omega) (.inl (by omega))⟩
theorem OwnIn.wr {α : Type} [Ow α] {a b lo hi : Nat} {w w' : World} {cs : List Value} {x : α} (h : OwnIn a b w cs x) (g : WrI lo hi w w') (hd : b ≤ lo ∨ hi ≤ a) : OwnIn a b w' cs x := by
 obtain ⟨fp, h, hl⟩ := h
 exact ⟨fp, Ow.kept h fun x hx => g.block x (Ow.lt h x hx) (by have := hl x hx; omega), hl⟩
theorem Cells.wr {lo hi : Nat} {w w' : World} {b o : Nat} {c : Value} {cs : List Value} (h : Cells w b o (c :: cs)) (g : WrI lo hi w w') (hd : b < lo ∨ hi ≤ b) : Cells w' b o (c :: cs) := h.kept (g.block b h.lt hd)
theorem ChgF.wr {fp : List Nat} {lo hi : Nat} {w w' : World} (h : ChgF fp w w') (hl : ∀ g ∈ fp, lo ≤ g ∧ g < hi) : WrI lo hi w w' :=
 ⟨h.os, h.tape, h.output, Nat.le_of_eq h.size.symm, fun g _ hd => h.block g fun hm => by have := hl g hm; omega⟩

theorem markIntSI_calls {v : Value} {xs : List Int} {lo hi : Nat} {w : World} (k : Int) (h : OwnIn lo hi w [v] xs) (h0 : 0 ≤ k) (h1 : k + xs.length ≤ 1152921504606846976) :
  Calls Tryz.prog 36 #[v, .int .i64 k] w fun e w' => e = .returned (.int .i64 (k + cntTo xs xs.length)) ∧ OwnIn lo hi w' [v] (Mk.mkd k xs) ∧ WrI lo hi w w' := by
 obtain ⟨fp, h, hl⟩ := h
 exact (markIntSO_calls k h h0 h1).mono fun e w' ⟨he, ho, hc⟩ => ⟨he, ⟨fp, ho, hl⟩, hc.wr hl⟩

/-- A rule that was handed over by its value: only its lists are marked. -/
def mkRuleV (k : Int) (r : RuleD) : RuleD := { r with heads := Mk.mkd k r.heads, body := Mk.mkd (k + cntTo r.heads r.heads.length) r.body }
def cntRuleV (r : RuleD) : Nat := cntTo r.heads r.heads.length + cntTo r.body r.body.length

end Go.Proofs.YthikhkeofcjdfaaGreat
