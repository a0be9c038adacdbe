import Derived.Test.YtffbccajllmobaaDoorBase
import Derived.Lib.ItoaNum
import Derived.Laws.BytesArg
import Derived.Lib.LaidTab
import Derived.Sort.Grow
import Derived.WalkSmall
namespace Go.Proofs.YtffbccajllmobaaDoor
open Go.RowKit

/-- A number's text. -/
def txtOf (n : Int) : ByteArray := ⟨(Lib.itoa n).toArray⟩

theorem info_byte : (Tryd.prog.info? 5).map (fun i => (i.zero, i.size, i.bytes)) = some (some (.int .u8 0), 1, 1) := by kernel_rfl

/-- 'append([]byte{b}, out...)'. -/
theorem wpList_prepend {ops : Array Oper} {rest : List Oper} {o : Oper} {a : Act} {Q : Exit → Act → World → Prop} {w : World} {b : Int} {D : List Int} {g c : Nat} (hgd : o.guard = none) (s x : Operand)
    (ho : o.op = .call { callee := .builtin .append, args := #[s, x], argTypes := #[35, 35] })
    (hs : a.eval s = .slice (some ⟨w.heap.size, 0, none⟩) 1 1) (hx : a.eval x = .slice (some ⟨g, 0, none⟩) D.length c)
    (hcells : ∀ j, j < D.length → w.cell? ⟨g, j, none⟩ = some (.int .u8 (el D j))) (hl : D.length ≤ 1000)
    (h : ∀ g' c' w', (∀ j, j < D.length + 1 → w'.cell? ⟨g', j, none⟩ = some (.int .u8 (el (b :: D) j))) → Below w.heap.size w w' → wpList Tryd.prog ops Q rest (a.put o.dst (.slice (some ⟨g', 0, none⟩) (D.length + 1) c')) w') :
    wpList Tryd.prog ops Q (o :: rest) a (w.alloc (.cells #[.int .u8 b] 5)) := by
  obtain ⟨i0, hi, hz0, hz1, hz2⟩ := info_parts info_byte
  refine wpList_append_own _ hgd s x 35 ho w.heap.size 5 i0 (.int .u8 0) 1 1 Tryd.underlying35 hi hz0 hz1 hz2 rfl (by decide) _ 1 [.int .u8 b] hs (World.ownsRow_lit w #[.int .u8 b] 1 (Nat.le_refl _) (by simp [maxLen]) rfl) ⟨g, 0, none⟩ D.length c (D.map (Value.int .u8)) hx (by simp) ?_ ?_ ?_ ?_ (by simp) ?_
  · intro j u hj
    have hjl : j < D.length := by
      rcases Nat.lt_or_ge j D.length with h | h
      · exact h
      · simp [List.getElem?_eq_none (show (D.map (Value.int .u8)).length ≤ j by simpa using h)] at hj
    have hp : (⟨g, 0, none⟩ : Addr).add j = ⟨g, j, none⟩ := by unfold Addr.add; split <;> simp_all
    rw [hp, World.cell?_alloc_past _ _ _ (cell_lt (hcells j hjl)), hcells j hjl, el_eq hjl]
    simp [List.getElem?_eq_getElem hjl] at hj
    rw [hj]
  · intro u hu
    obtain ⟨n, _, rfl⟩ := List.mem_map.1 hu
    rfl
  · unfold maxLen; omega
  · omega
  · intro v' w' h1 h2 _
    have hb : Below w.heap.size w w' := ((Below.refl _ _).alloc (Nat.le_refl _) _).grown h2 (by simp) (fun k hk => by simp [Value.ownBlock] at hk; omega)
    rcases h1.2 with ⟨_, h0⟩ | ⟨g', c', cur, rfl, _⟩
    · omega
    · rw [show 1 + D.length = D.length + 1 from by omega] at *
      refine h g' c' w' (fun j hj => ?_) hb
      have := h1.cellAt j (by omega)
      rw [this]
      cases j with
      | zero => rfl
      | succ j =>
        have hj' : j < D.length := by omega
        have e : el (b :: D) (j + 1) = el D j := by unfold el; simp
        rw [e, el_eq hj']
        simp [List.getElem?_eq_getElem hj']

theorem below_grow (w : World) (k : Nat) (os : Array Obj) : Below w.heap.size w (Go.Sort.grow (w.drewN k) os) := by
  refine ⟨rfl, rfl, rfl, by simp [Go.Sort.grow], fun i hi => ?_⟩
  show (w.heap ++ os)[i]? = _
  rw [Array.getElem?_append_left hi]

theorem tab_kept {P : Program} {w w' : World} {name : String} {k : IntKind} {zs : List Int} {g : Nat} (hg : P.globalNamed name = some g) (h : Lib.TabIs P w name k zs) (hb : Below w.heap.size w w') : Lib.TabIs P w' name k zs := by
  refine var?_below hb hg ?_ h
  unfold Lib.TabIs World.var? at h
  rw [hg] at h
  simp only [Option.bind_some] at h
  split at h
  · rename_i hh; exact lt_of_block hh
  · cases h

/-- The digits of a number, as bytes. -/
def dgs (M : Nat) : List Int :=
  if h : M < 10 then [48 + (M : Int)] else dgs (M / 10) ++ [48 + (M : Int) % 10]
termination_by M
decreasing_by omega
def txt (M : Nat) (D : List Int) : List Int := if M = 0 then D else dgs M ++ D
theorem txt_step {M : Nat} {D : List Int} (h : ¬ M = 0) : txt M D = txt (M / 10) ((48 + (M : Int) % 10) :: D) := by
  unfold txt
  rw [if_neg h]
  by_cases hs : M < 10
  · rw [if_pos (by omega), dgs, dif_pos hs]
    have : (M : Int) % 10 = M := by omega
    rw [this]; rfl
  · rw [if_neg (by omega), dgs, dif_neg hs, List.append_assoc]; rfl
theorem txt_zero (D : List Int) : txt 0 D = D := rfl

theorem nums_dgs (M : Nat) : (dgs M).map (fun n => UInt8.ofNat n.toNat) = Lib.decDigits M := by
  induction M using Nat.strongRecOn with
  | ind M ih =>
    rw [dgs, Lib.decDigits]
    by_cases h : M < 10
    · rw [dif_pos h, dif_pos h]
      simp only [List.map_cons, List.map_nil]
      rw [show (48 + (M : Int)).toNat = 48 + M from by omega]
    · rw [dif_neg h, dif_neg h, List.map_append, ih _ (by omega)]
      simp only [List.map_cons, List.map_nil]
      rw [show (48 + (M : Int) % 10).toNat = 48 + M % 10 from by omega]

theorem str_pos {N : Nat} (h : ¬ N = 0) : strOfNums (txt N []) = txtOf (N : Int) := by
  unfold strOfNums txtOf txt Lib.itoa
  rw [if_neg h, if_neg (by omega), List.append_nil, Int.toNat_natCast, ← nums_dgs]
theorem str_neg {N : Nat} (h : ¬ N = 0) : strOfNums (45 :: txt N []) = txtOf (-(N : Int)) := by
  unfold strOfNums txtOf txt Lib.itoa
  rw [if_neg h, if_pos (by omega), List.append_nil, show (-(N : Int)).natAbs = N from by omega, ← nums_dgs]
  rfl

theorem pow_small {M k N : Nat} (h : M * 10 ^ k ≤ N) (hM : ¬ M = 0) (hN : N ≤ 9223372036854775808) : k ≤ 18 := by
  apply Classical.byContradiction
  intro hk
  have h1 : 10 ^ 19 ≤ 10 ^ k := Nat.pow_le_pow_right (by omega) (by omega)
  have h2 : 10 ^ k ≤ M * 10 ^ k := Nat.le_mul_of_pos_left _ (by omega)
  have : (10 : Nat) ^ 19 = 10000000000000000000 := by decide
  omega
theorem pow_step {M k N : Nat} (h : M * 10 ^ k ≤ N) : M / 10 * 10 ^ (k + 1) ≤ N := by
  have e : M / 10 * 10 ^ (k + 1) = M / 10 * 10 * 10 ^ k := by rw [Nat.pow_succ, Nat.mul_comm (10 ^ k) 10, Nat.mul_assoc]
  rw [e]
  exact Nat.le_trans (Nat.mul_le_mul_right _ (by omega)) h

theorem ret_str {a b : ByteArray} (h : a = b) : Ending.returned (.string a) = .returned (.string b) := by rw [h]
theorem _root_.Go.RowKit.Below.step' {W w w' : World} (t : Below W.heap.size W w) (b : Below w.heap.size w w') : Below W.heap.size W w' := t.trans (b.mono t.size)

set_option maxRecDepth 100000 in
set_option maxHeartbeats 2000000 in
theorem NumText_pos (N : Nat) (w : World) (h0 : ¬ N = 0) (hN : (N : Int) ≤ 9223372036854775807) :
    Calls Tryd.prog 9 #[.int .i64 (N : Int)] w fun e w' => e = .returned (.string (txtOf (N : Int))) ∧ Below w.heap.size w w' := by
  have hfin := Lib.hid (str_pos h0)
  have hz : ((N : Int) == 0) = false := by simpa using h0
  have hN0 : (0 : Int) < (N : Int) := by omega
  have hT := Lib.hid (Eq.refl (txt N []))
  clear h0
  go_enter Tryd.func9, Tryd.ntmps9
  go_wp2
  go_loopw [3, 4] (fun v m wr => ∃ (M : Nat) (D : List Int) (g c : Nat), m = .int .i64 (M : Int) ∧ M * 10 ^ D.length ≤ N ∧ D.length ≤ 19 ∧ v = .slice (some ⟨g, 0, none⟩) D.length c ∧ (∀ j, j < D.length → wr.cell? ⟨g, j, none⟩ = some (.int .u8 (el D j))) ∧ txt M D = txt N [] ∧ Below w.heap.size w wr) (fun _ m _ => (intOf m).toNat)
  case atStart => exact ⟨N, [], w.heap.size, 0, rfl, by simp, by simp, rfl, by simp, rfl, (Below.refl _ _).alloc (Nat.le_refl _) _⟩
  case round =>
    obtain ⟨M, D, g, c, rfl, hM, hD19, rfl, hc, ht, hb⟩ := hrel
    by_cases hm : M = 0
    · have hD := Lib.hid (show D = txt N [] by rw [← ht, hm]; rfl)
      have hmB : ((M : Int) != 0) = false := by simp [hm]
      clear ht hM hm
      have kc := run_convert_bytes_arg (P := Tryd.prog) wr 35 5 Tryd.underlying35 Tryd.underlying5 g 0 D.length c D rfl (fun i hi => by rw [Nat.zero_add]; exact hc i hi) 9 Tryd.underlying9
      clear hc
      go_wp2
      go_ret
      exact ⟨ret_str (by rw [hD.out]; exact hfin.out), hb⟩
    · have hst := Lib.hid (txt_step (D := D) hm)
      have hk := pow_small hM hm (by omega)
      have hP := Lib.hid (pow_step hM)
      have hT2 := Lib.hid ht
      have hmB : ((M : Int) != 0) = true := by simpa using hm
      have hm0 : (0 : Int) < (M : Int) := by omega
      have hmN : (M : Int) ≤ 9223372036854775807 := by
        have : M ≤ M * 10 ^ D.length := Nat.le_mul_of_pos_right _ (Nat.pow_pos (by omega))
        omega
      have hd0 : 0 ≤ (M : Int) % 10 := by omega
      have hd9 : (M : Int) % 10 ≤ 9 := by omega
      have hsz := hb.size
      clear ht hM
      go_wp2_with (at_builtin; refine wpList_prepend (b := 48 + (M : Int) % 10) rfl _ _ rfl rfl rfl hc (by omega) ?_; intro g' c' w' hc' hb')
      go_roundw
      case rel => exact ⟨M / 10, _ :: D, g', c', by first | rfl | simp, hP.out, by simp; omega, rfl, hc', hst.out.symm.trans hT2.out, hb.step' hb'⟩
      case measure => simp [intOf]; omega

set_option maxRecDepth 100000 in
set_option maxHeartbeats 4000000 in
theorem NumText_neg (N : Nat) (w : World) (h0 : ¬ N = 0) (hN : (N : Int) ≤ 9223372036854775808) :
    Calls Tryd.prog 9 #[.int .i64 (-(N : Int))] w fun e w' => e = .returned (.string (txtOf (-(N : Int)))) ∧ Below w.heap.size w w' := by
  have hfin := Lib.hid (str_neg h0)
  have hz : (-(N : Int) == 0) = false := by simpa using h0
  have hz2 : ((N : Int) == 0) = false := by simpa using h0
  have hN0 : -(N : Int) < 0 := by omega
  have hN1 : (0 : Int) < (N : Int) := by omega
  have hNd : decide (-(N : Int) < 0) = true := decide_eq_true hN0
  clear h0
  go_enter Tryd.func9, Tryd.ntmps9
  go_wp2
  go_loopw [3, 4] (fun v m wr => ∃ (M : Nat) (D : List Int) (g c : Nat), m = .int .i64 (-(M : Int)) ∧ M * 10 ^ D.length ≤ N ∧ D.length ≤ 19 ∧ v = .slice (some ⟨g, 0, none⟩) D.length c ∧ (∀ j, j < D.length → wr.cell? ⟨g, j, none⟩ = some (.int .u8 (el D j))) ∧ txt M D = txt N [] ∧ Below w.heap.size w wr) (fun _ m _ => (-(intOf m)).toNat)
  case atStart => exact ⟨N, [], w.heap.size, 0, rfl, by simp, by simp, rfl, by simp, rfl, (Below.refl _ _).alloc (Nat.le_refl _) _⟩
  case round =>
    obtain ⟨M, D, g, c, rfl, hM, hD19, rfl, hc, ht, hb⟩ := hrel
    have hsz := hb.size
    by_cases hm : M = 0
    · subst hm
      have hD := Lib.hid (show D = txt N [] from ht)
      have hl : D.length ≤ 1000 := by omega
      clear ht hM
      go_wp2_with (at_builtin; refine wpList_prepend (b := 45) rfl _ _ rfl rfl rfl hc hl ?_; intro g' c' w' hc' hb'; have kc := run_convert_bytes_arg (P := Tryd.prog) w' 35 5 Tryd.underlying35 Tryd.underlying5 g' 0 (D.length + 1) c' (45 :: D) rfl (fun i hi => by rw [Nat.zero_add]; exact hc' i hi) 9 Tryd.underlying9)
      go_ret
      exact ⟨ret_str (by rw [hD.out]; exact hfin.out), hb.step' hb'⟩
    · have hst := Lib.hid (txt_step (D := D) hm)
      have hk := pow_small hM hm (by omega)
      have hP := Lib.hid (pow_step hM)
      have hT2 := Lib.hid ht
      have hmB : (-(M : Int) != 0) = true := by simpa using hm
      have hmB2 : ((M : Int) != 0) = true := by simpa using hm
      have hmB3 : ((M : Int) == 0) = false := by simpa using hm
      have hm0 : (0 : Int) < (M : Int) := by omega
      have hmN : (M : Int) ≤ 9223372036854775808 := by
        have : M ≤ M * 10 ^ D.length := Nat.le_mul_of_pos_right _ (Nat.pow_pos (by omega))
        omega
      have htd : (-(M : Int)).tdiv 10 = -((M : Int) / 10) := by rw [Int.neg_tdiv, Int.tdiv_eq_ediv_of_nonneg (by omega)]
      have hm2 : (0 : Int) ≤ (M : Int) / 10 := by omega
      have hd0 : 0 ≤ (M : Int) % 10 := by omega
      have hd9 : (M : Int) % 10 ≤ 9 := by omega
      by_cases hd : (M : Int) % 10 = 0
      · have htm : (-(M : Int)).tmod 10 = 0 := by rw [Int.neg_tmod, Int.tmod_eq_emod_of_nonneg (by omega), hd]; rfl
        rw [hd] at hst
        clear ht hM hd hd0 hd9
        go_wp2_with (at_builtin; refine wpList_prepend (b := 48) rfl _ _ rfl rfl rfl hc (by omega) ?_; intro g' c' w' hc' hb')
        go_roundw
        case rel => exact ⟨M / 10, _ :: D, g', c', by first | rfl | simp, hP.out, by simp; omega, rfl, hc', hst.out.symm.trans hT2.out, hb.step' hb'⟩
        case measure => simp [intOf]; omega
      · have htm : (-(M : Int)).tmod 10 = -((M : Int) % 10) := by rw [Int.neg_tmod, Int.tmod_eq_emod_of_nonneg (by omega)]
        have hd1 : -((M : Int) % 10) < 0 := by omega
        have hd2 : (0 : Int) < (M : Int) % 10 := by omega
        clear ht hM hd hd0
        go_wp2_with (at_builtin; refine wpList_prepend (b := 48 + (M : Int) % 10) rfl _ _ rfl rfl rfl hc (by omega) ?_; intro g' c' w' hc' hb')
        go_roundw
        case rel => exact ⟨M / 10, _ :: D, g', c', by first | rfl | simp, hP.out, by simp; omega, rfl, hc', hst.out.symm.trans hT2.out, hb.step' hb'⟩
        case measure => simp [intOf]; omega

theorem NumText_zero (w : World) :
    Calls Tryd.prog 9 #[.int .i64 0] w fun e w' => e = .returned (.string (txtOf 0)) ∧ Below w.heap.size w w' := by
  go_enter Tryd.func9, Tryd.ntmps9
  go_wp2
  go_ret
  exact ⟨ret_str (by unfold txtOf Lib.itoa Lib.decDigits; rfl), Below.refl _ _⟩

/-- NumText: a number's text. -/
theorem NumText_calls (n : Int) (w : World) (hn : Fits n) :
    Calls Tryd.prog 9 #[.int .i64 n] w fun e w' => e = .returned (.string (txtOf n)) ∧ Below w.heap.size w w' := by
  obtain ⟨h1, h2⟩ := hn
  rcases Int.lt_trichotomy n 0 with h | rfl | h
  · obtain ⟨N, hN⟩ := Int.eq_ofNat_of_zero_le (show 0 ≤ -n by omega)
    obtain rfl : n = -(N : Int) := by omega
    exact NumText_neg N w (by omega) (by omega)
  · exact NumText_zero w
  · obtain ⟨N, rfl⟩ := Int.eq_ofNat_of_zero_le (show 0 ≤ n by omega)
    exact NumText_pos N w (by omega) (by omega)

end Go.Proofs.YtffbccajllmobaaDoor
