/-
  laws.markText: what it answers. No condition of its own.
-/
import Derived.Test.YtnjiephgiemkjaaDigits
import Derived.Laws.BytesArg
import Derived.Laws.Concat
namespace Go.Proofs.Ytnjiephgiemkjaa
set_option linter.unusedVariables false
set_option linter.unusedSimpArgs false
open Go.RowKit
set_option maxRecDepth 100000

/-- The text of a mark. -/
def markT (k : Int) : ByteArray := if k ≤ 0 then ⟨#[109, 48]⟩ else ⟨#[109]⟩ ++ strOfNums (txt k.toNat [])
theorem strOfNums_cons (d : Int) (D : List Int) : strOfNums [d] ++ strOfNums D = strOfNums (d :: D) := by
  apply ByteArray.ext
  simp [strOfNums, ByteArray.data_append]
theorem dgs_len : ∀ (k M : Nat), M < 10 ^ (k + 1) → (dgs M).length ≤ k + 1
  | 0, M, h => by rw [dgs, dif_pos (by omega)]; simp
  | k + 1, M, h => by
    rw [dgs]
    split
    · simp
    · have h10 : 10 ^ (k + 1 + 1) = 10 ^ (k + 1) * 10 := Nat.pow_succ 10 (k + 1)
      have := dgs_len k (M / 10) (by omega)
      simp; omega
theorem txt_len {M : Nat} (h : M ≤ 9223372036854775807) : (txt M []).length ≤ 19 := by
  unfold txt
  split
  · simp
  · have := dgs_len 18 M (by have : (10 : Nat) ^ 19 = 10000000000000000000 := by decide
                             omega)
    simpa using this
theorem markT_size {k : Int} (h : k ≤ 9223372036854775807) : (markT k).size ≤ 100 := by
  unfold markT
  split
  · decide
  · have := txt_len (M := k.toNat) (by omega)
    rw [ByteArray.size_append, strOfNums_size]
    have : (⟨#[109]⟩ : ByteArray).size = 1 := rfl
    omega

set_option maxHeartbeats 2000000 in
theorem markText_calls (k : Int) (w : World) (h1 : k ≤ 9223372036854775807) :
    Calls Try.prog 50 #[.int .i64 k] w fun e w' => e = .returned (.string (markT k)) ∧ Below w.heap.size w w' := by
  by_cases h0 : k ≤ 0
  · have hv : Hid (markT k = ⟨#[109, 48]⟩) := by show _ = _; unfold markT; rw [if_pos h0]
    go_enter Try.func50, Try.ntmps50
    go_wp2
    go_ret
    exact ⟨ret_str hv.out.symm, Below.refl _ _⟩
  · obtain ⟨N, rfl⟩ : ∃ N : Nat, k = N := ⟨k.toNat, by omega⟩
    have hv : Hid (markT (N : Int) = ⟨#[109]⟩ ++ strOfNums (txt N [])) := by show _ = _; unfold markT; rw [if_neg h0]; rfl
    have hN0 : (0 : Int) < (N : Int) := by omega
    have hsT := txt_len (M := N) (by omega)
    have hfa := fun w => run_string_add_sum (P := Try.prog) w ⟨#[109]⟩ (strOfNums (txt N [])) (by rw [strOfNums_size]; have : (⟨#[109]⟩ : ByteArray).size = 1 := rfl; omega)
    clear h0
    go_enter Try.func50, Try.ntmps50
    go_wp2
    go_loopw [0, 3] (fun m v wr => ∃ (M : Nat) (D : List Int), m = .int .i64 (M : Int) ∧ M * 10 ^ D.length ≤ N ∧ D.length ≤ 19 ∧ v = .string (strOfNums D) ∧ txt M D = txt N [] ∧ Below w.heap.size w wr) (fun m _ _ => (intOf m).toNat)
    case atStart => exact ⟨N, [], rfl, by simp, by simp, rfl, rfl, Below.refl _ _⟩
    case round =>
      obtain ⟨M, D, rfl, hM, hD19, rfl, ht, hb⟩ := hrel
      by_cases hm : M = 0
      · have hD : D = txt N [] := by rw [← ht, hm]; rfl
        subst hm
        subst hD
        have hfa := hfa wr
        clear ht hM
        go_wp2
        go_ret
        exact ⟨ret_str hv.out.symm, hb⟩
      · have hst := Lib.hid (txt_step (D := D) hm)
        have hk := pow_small hM hm (by omega)
        have hP := Lib.hid (pow_step hM)
        have hT2 := Lib.hid ht
        have hm0 : (0 : Int) < (M : Int) := by omega
        have hmN : (M : Int) ≤ 9223372036854775807 := by
          have : M ≤ M * 10 ^ D.length := Nat.le_mul_of_pos_right _ (Nat.pow_pos (by omega))
          omega
        have hd0 : 0 ≤ (M : Int) % 10 := by omega
        have hd9 : (M : Int) % 10 ≤ 9 := by omega
        have hadd : ∀ w, (Op.stringOp .add (strOfNums [48 + (M : Int) % 10]) (strOfNums D)).run Try.prog w = .ok (.string (strOfNums ((48 + (M : Int) % 10) :: D))) w := fun w => by
          rw [run_string_add_sum w _ _ (by rw [strOfNums_size, strOfNums_size]; simp; omega), strOfNums_cons]
        have kc := run_convert_bytes_arg (P := Try.prog) (wr.alloc (.cells #[.int .u8 (48 + (M : Int) % 10)] 5)) 48 5 Try.underlying48 Try.underlying5 wr.heap.size 0 1 1 [48 + (M : Int) % 10] rfl (fun i hi => by
          have : i = 0 := by omega
          subst this
          simp) 9 Try.underlying9
        have hbA := hb.alloc hb.size (.cells #[.int .u8 (48 + (M : Int) % 10)] 5)
        clear ht hM hm
        go_wp2
        go_roundw
        case rel => exact ⟨M / 10, _ :: D, by go_num, hP.out, by simp; omega, rfl, hst.out.symm.trans hT2.out, hbA⟩
        case measure => simp [intOf]; omega

end Go.Proofs.Ytnjiephgiemkjaa
