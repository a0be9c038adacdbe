/-
  Reading the marks of what a program holds. No condition of its own.
-/
import Derived.Test.YtnapbjifbppndaaMarkC
import Derived.Deep.RegionHeld3
namespace Go.Proofs.Ytnapbjifbppndaa
set_option linter.unusedVariables false
set_option linter.unusedSimpArgs false
open Go.RowKit
set_option maxRecDepth 100000

/-! ### Held -/
theorem mkd_len {α : Type} [Inhabited α] [Mk α] (k : Int) (xs : List α) : (Mk.mkd k xs).length = xs.length := seqTo_len k xs _
theorem mkd_nth {α : Type} [Inhabited α] [Mk α] (k : Int) (xs : List α) {j : Nat} (h : j < xs.length) : nth (Mk.mkd k xs) j = Mk.mkd (k + (cntTo xs j : Nat)) (nth xs j) := seqTo_nth k xs h
/-- A slice that was marked, opened at an element. -/
theorem rd_mkd {α : Type} [Rd α] [Mk α] {w : World} {a : Option Addr} {k : Int} {xs : List α} (h : Row w a (Mk.mkd k xs)) {j : Nat} (hj : j < xs.length) :
    ∃ b off cs, a = some ⟨b, off, none⟩ ∧ Cells w b (off + j * Rd.k α) cs ∧ Rd.R w cs (Mk.mkd (k + (cntTo xs j : Nat)) (nth xs j)) := by
  obtain ⟨b, off, cs, h1, h2, h3⟩ := h.2 j (by rw [mkd_len]; exact hj)
  rw [mkd_nth k xs hj] at h3
  exact ⟨b, off, cs, h1, h2, h3⟩





/-! ### HeldP -/



end Go.Proofs.Ytnapbjifbppndaa
