import Derived.Test.YtnpapnpedcbfnaaDoorProg
import Derived.WalkKit
import Derived.KernelRfl
import Derived.Test.YtnpapnpedcbfnaaDoorVm
set_option linter.all false
set_option linter.unusedSimpArgs false
set_option linter.unnecessarySimpa false
set_option linter.unusedVariables false
set_option linter.unusedSectionVars false
set_option maxRecDepth 100000
set_option linter.unusedVariables false
namespace Go.Proofs.YtnpapnpedcbfnaaDoor
open Go.RowKit Go.Vs
/-! ## The table of trailing zeros -/
def tzIx (k : Nat) : Nat := [0, 1, 3, 7, 15, 31, 63, 62, 61, 59].getD k 0
/-- What is asked of the world: ten of the table's numbers. -/
def TabW (w : World) : Prop := ∀ k, k < 10 → w.cell? ⟨1, tzIx k, none⟩ = some (.int .u8 (k : Nat))
def keyF (x : Nat) : Int := IntKind.u64.wrap (bits BinOp.and IntKind.u64 (x : Int) (IntKind.u64.wrap (-(x : Int))) * 285870213051353865) / 288230376151711744
set_option maxHeartbeats 400000 in
theorem tz64_core (x k idx : Nat) (w : World) (hx0 : ((x : Int) == 0) = false)
    (key : IntKind.u64.wrap (bits BinOp.and IntKind.u64 (x : Int) (IntKind.u64.wrap (-(x : Int))) * 285870213051353865) / 288230376151711744 = (idx : Int))
    (hi : idx < 64) (hk : k < 64) (hcell : w.cell? ⟨1, idx, none⟩ = some (.int .u8 k)) :
    Calls Tryd.prog 73 #[.int .u64 x] w fun e w' => e = .returned (.int .i64 k) ∧ w' = w := by
  by_cases h0 : idx = 0
  · subst h0
    go_enter Tryd.func73, Tryd.ntmps73
    go_wp2_with (simp only [key])
    go_ret
    exact ⟨rfl, rfl⟩
  · go_enter Tryd.func73, Tryd.ntmps73
    go_wp2_with (simp only [key])
    go_ret
    exact ⟨rfl, rfl⟩
def bitB (x k : Nat) : Bool := Nat.beq (x % 2 ^ (k + 1)) (2 ^ k)
theorem low_of {x k : Nat} (h : bitB x k = true) : low x = k := by
  have h : x % 2 ^ (k + 1) = 2 ^ k := Nat.eq_of_beq_eq_true h
  have h2 : ∀ j, j < k + 1 → x.testBit j = (2 ^ k).testBit j := fun j hj => by
    rw [← h, Nat.testBit_mod_two_pow]; simp [hj]
  refine low_is (by rw [h2 k (by omega), Nat.testBit_two_pow_self]) fun j hj => ?_
  rw [h2 j (by omega), Nat.testBit_two_pow_of_ne (by omega)]
theorem tz_all : ((List.range 1024).all fun x => Nat.beq x 0 || (List.range 10).any fun k => bitB x k && decide (keyF x = (tzIx k : Int))) = true := by decide +kernel
theorem ix_all : ((List.range 10).all fun k => decide (tzIx k < 64)) = true := by decide
theorem tz64 (x : Nat) (h1 : 1 ≤ x) (h2 : x < 1024) (w : World) (hT : TabW w) : Calls Tryd.prog 73 #[.int .u64 x] w fun e w' => e = .returned (.int .i64 (low x : Nat)) ∧ w' = w := by
  have h3 := List.all_eq_true.1 tz_all x (List.mem_range.2 h2)
  have h0 : Nat.beq x 0 = false := by
    cases h : Nat.beq x 0 with
    | false => rfl
    | true => have := Nat.eq_of_beq_eq_true h; omega
  rw [h0, Bool.false_or, List.any_eq_true] at h3
  obtain ⟨k, hk, h4⟩ := h3
  have hk := List.mem_range.1 hk
  rw [Bool.and_eq_true, decide_eq_true_eq] at h4
  rw [low_of h4.1]
  exact tz64_core x k (tzIx k) w (by simp; omega) h4.2 (of_decide_eq_true (List.all_eq_true.1 ix_all k (List.mem_range.2 hk))) (by omega) (hT k hk)
theorem tz_calls (x : Nat) (h1 : 1 ≤ x) (h2 : x < 1024) (w : World) (hT : TabW w) : Calls Tryd.prog 67 #[.int .u64 x] w fun e w' => e = .returned (.int .i64 (low x : Nat)) ∧ RowKit.Below w.heap.size w w' := by
  go_enter Tryd.func67, Tryd.ntmps67
  go_wp2_with (go_at_call 73; refine (tz64 x h1 h2 w hT).mono ?_; rintro e w' ⟨rfl, rfl⟩)
  go_ret
  exact ⟨rfl, RowKit.Below.refl _ _⟩
end Go.Proofs.YtnpapnpedcbfnaaDoor
