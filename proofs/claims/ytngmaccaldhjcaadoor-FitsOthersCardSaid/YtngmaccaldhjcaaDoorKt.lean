import Derived.Test.YtngmaccaldhjcaaDoorProg
import Derived.WalkKit
import Derived.KernelRfl
set_option linter.all false
set_option linter.unusedSimpArgs false
set_option linter.unnecessarySimpa false
set_option linter.unusedVariables false
set_option linter.unusedSectionVars false
set_option maxRecDepth 100000
set_option linter.unusedVariables false
namespace Go.Proofs.YtngmaccaldhjcaaDoor
open Go.RowKit
/-! ## The table of trailing zeros -/
/-- What is asked of the world: three of the table's numbers. -/
def TabW (w : World) : Prop := w.cell? ⟨1, 0, none⟩ = some (.int .u8 0) ∧ w.cell? ⟨1, 1, none⟩ = some (.int .u8 1) ∧ w.cell? ⟨1, 3, none⟩ = some (.int .u8 2)
set_option maxHeartbeats 400000 in
theorem tz64_core (x k idx : Nat) (w : World) (hx0 : ((x : Int) == 0) = false)
    (key : IntKind.u64.wrap (bits BinOp.and IntKind.u64 (x : Int) (IntKind.u64.wrap (-(x : Int))) * 285870213051353865) / 288230376151711744 = (idx : Int))
    (hi : idx < 64) (hk : k < 64) (hcell : w.cell? ⟨1, idx, none⟩ = some (.int .u8 k)) :
    Calls Tryd.prog 90 #[.int .u64 x] w fun e w' => e = .returned (.int .i64 k) ∧ w' = w := by
  go_enter Tryd.func90, Tryd.ntmps90
  go_wp2_with (simp only [key])
  go_ret
  exact ⟨rfl, rfl⟩
/-- The least fashion of a set of three. -/
def tzN (x : Nat) : Nat := [0, 0, 1, 0, 2, 0, 1, 0].getD x 0
theorem tz64 (x : Nat) (h1 : 1 ≤ x) (h7 : x ≤ 7) (w : World) (hT : TabW w) : Calls Tryd.prog 90 #[.int .u64 x] w fun e w' => e = .returned (.int .i64 (tzN x)) ∧ w' = w := by
  obtain ⟨t0, t1, t2⟩ := hT
  obtain rfl | rfl | rfl | rfl | rfl | rfl | rfl : x = 1 ∨ x = 2 ∨ x = 3 ∨ x = 4 ∨ x = 5 ∨ x = 6 ∨ x = 7 := by omega
  · exact tz64_core 1 0 0 w rfl (by decide +kernel) (by decide) (by decide) t0
  · exact tz64_core 2 1 1 w rfl (by decide +kernel) (by decide) (by decide) t1
  · exact tz64_core 3 0 0 w rfl (by decide +kernel) (by decide) (by decide) t0
  · exact tz64_core 4 2 3 w rfl (by decide +kernel) (by decide) (by decide) t2
  · exact tz64_core 5 0 0 w rfl (by decide +kernel) (by decide) (by decide) t0
  · exact tz64_core 6 1 1 w rfl (by decide +kernel) (by decide) (by decide) t1
  · exact tz64_core 7 0 0 w rfl (by decide +kernel) (by decide) (by decide) t0
theorem tz_calls (x : Nat) (h1 : 1 ≤ x) (h7 : x ≤ 7) (w : World) (hT : TabW w) : Calls Tryd.prog 87 #[.int .u64 x] w fun e w' => e = .returned (.int .i64 (tzN x)) ∧ RowKit.Below w.heap.size w w' := by
  go_enter Tryd.func87, Tryd.ntmps87
  go_wp2_with (go_at_call 90; refine (tz64 x h1 h7 w hT).mono ?_; rintro e w' ⟨rfl, rfl⟩)
  go_ret
  exact ⟨rfl, RowKit.Below.refl _ _⟩
end Go.Proofs.YtngmaccaldhjcaaDoor
