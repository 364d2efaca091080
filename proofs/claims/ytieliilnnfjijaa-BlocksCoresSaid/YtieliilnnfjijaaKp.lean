import Derived.Test.YtieliilnnfjijaaK1
import Derived.Test.YtieliilnnfjijaaKa
import Derived.Test.YtieliilnnfjijaaRows
import Derived.WalkKit
import Derived.ProofKit
import Derived.OpenShut
import Derived.ShutString
import Derived.ChangeOld
import Derived.Below
import Derived.Laws.IdiomArrays
set_option linter.all false
set_option linter.unusedSimpArgs false
set_option linter.unnecessarySimpa false
set_option linter.unusedVariables false
set_option linter.unusedSectionVars false
set_option maxRecDepth 100000
set_option maxHeartbeats 8000000
set_option linter.unusedSimpArgs false
set_option linter.unusedVariables false
namespace Go.Proofs.Ytieliilnnfjijaa
open Go.Ds
/-- The call that is known: the closed example. -/
def knownK (f : FuncId) (args : List Value) : Option Value :=
  if f = 16 then (match args with
    | [] => some (.bool true)
    | _ => none)
  else none
theorem knownK_sound : ∀ f args v, knownK f args = some v → Known Try.prog f args v := by
  have inst : Inhabited Bound := ⟨⟨0⟩⟩
  intro f args v h
  unfold knownK at h
  split at h
  · rename_i hf
    subst hf
    split at h
    · simp only [Option.some.injEq] at h
      subst h
      exact Known.of_calls Try.func16 (by kernel_rfl) (by kernel_rfl) alive_calls
    · cases h
  · cases h
def X0 : Caller := knownX knownK
theorem X0_orac (i : Inhabited Bound) : @Orac i Try.prog X0 := @knownX_orac i Try.prog knownK knownK_sound
theorem X0_free {f : FuncId} (h2 : f ≠ 16) (l : List Value) (h : AH) : X0 f l h = none := by
  unfold X0 knownX knownK
  rw [if_neg h2]
  cases l.all plainV <;> rfl
theorem X0_ok : Xok X0 where
  pres := fun i => (X0_orac i).pres
  free := fun f h l h2 => X0_free h l h2
  alive := fun g => Rets.known rfl (v := .bool true) rfl rfl ⟨Nat.le_refl _, rfl⟩
theorem mixedO : Try.prog.follows .mixedOrders = true := by kernel_rfl
end Go.Proofs.Ytieliilnnfjijaa
namespace Go.Proofs.Ytieliilnnfjijaa
open Go.ChangeShapes Go.WideShapes Go.ChangeAt Go.RowKit
set_option linter.unusedVariables false
set_option maxRecDepth 100000
theorem ownNone : ownKnob Try.prog.godebug = none := by kernel_rfl
theorem laidOut : laidOutB Try.prog = true := by kernel_rfl
theorem cells3 : Try.prog.cellsOf 3 = 1 := by kernel_rfl
end Go.Proofs.Ytieliilnnfjijaa
