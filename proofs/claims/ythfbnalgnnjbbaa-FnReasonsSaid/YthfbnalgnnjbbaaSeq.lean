/-
  A set that is ranged over; its list. No condition of its own.
-/
import Derived.RangeFuncNested
import Derived.RangeFuncBound
import Derived.RangeFuncCalls
import Derived.RangeFuncLeaves
import Derived.RangeFuncBox
import Derived.Shelf.Abstract
import Derived.Shelf.RegionOpen
import Derived.WalkKit
import Derived.OwnWalkIn
import Derived.TacticsInMore
import Derived.LoopNIn
import Derived.LoopIn
import Derived.Maps.AppendAt
import Derived.Deep.RegionHeld3
import Derived.Deep.RegionWith
import Derived.Test.YthfbnalgnnjbbaaSetsPure
namespace Go.Proofs.Ythfbnalgnnjbbaa
set_option linter.unusedVariables false
set_option linter.unusedSimpArgs false
open Go.RowKit Go.Shelf
set_option maxRecDepth 100000

attribute [local go_sem] Oper.semAt_some

/-- An atom. -/
abbrev AtomI := { x : Int // 1 ≤ x ∧ x ≤ 12 }
/-- A box that lies as it lay. -/
def KpB (B : Nat) (t : TypeId) (v : Value) (W W' : World) : Prop := Boxed W B t v → Boxed W' B t v
theorem kpB_t {B : Nat} {t : TypeId} {v : Value} {X Y Z : World} (h : KpB B t v X Y) (k : KpB B t v Y Z) : KpB B t v X Z := fun x => k (h x)
theorem kpB_b {w : World} {B : Nat} {t : TypeId} {v : Value} (W : World) (l : Nat) (o o' : Obj) (_ : w.heap.size ≤ l) (h : W.heap[l]? = some o) (hc : o.isCells = false) (_ : o.isWalk = false) : KpB B t v W (W.putObj l o') := fun hb => by
  unfold Boxed at *
  by_cases e : B = l
  · subst e; rw [hb] at h; cases h; cases hc
  · exact (World.putObj_heap_other e).trans hb

theorem wideC {F : Fence} (hF : F = Fence.wide) {n : Nat} {P : Program} {f : FuncId} {args : Array Value} {w : World} {R : Ending → World → Prop} (h : Calls P f args w R) : CallsIn F n P f args w R := by subst hF; exact callsIn_wide.2 h
theorem wideF {F : Fence} (hF : F = Fence.wide) (k : Nat) : F.fn k := by subst hF; trivial
theorem wideR {F : Fence} (hF : F = Fence.wide) : F.round = none := by subst hF; rfl


theorem atomsSeq_calls (m : Nat) (w : World) :
    Calls Try.prog 70 #[.int .u16 (m : Int)] w fun e w' => e = .returned (.func (.func 101) #[] #[.pointer (some ⟨w.heap.size, 0, none⟩)]) ∧ w' = w.alloc (.cells #[.int .u16 (m : Int)] 68) := by
  have hmf : ∀ (fn : Fn) (first cap : Array Value) (w : World), (Instr.makeFunc fn first cap).run Try.prog w = .ok (.func fn first cap) w := fun _ _ _ _ => rfl
  go_enter Try.func70, Try.ntmps70
  go_wp2
  go_ret
  exact ⟨rfl, rfl⟩





end Go.Proofs.Ythfbnalgnnjbbaa
