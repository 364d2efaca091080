import Derived.Test.YteeelcmnlomgmaaDsZd
import Derived.Test.YteeelcmnlomgmaaProg
import Derived.Laws.Externs
import Derived.KernelRfl
set_option linter.all false
set_option linter.unusedSimpArgs false
set_option linter.unnecessarySimpa false
set_option linter.unusedVariables false
set_option linter.unusedSectionVars false
namespace Go.Proofs.Yteeelcmnlomgmaa
open Go.Ds
def noneX (_ : FuncId) (_ : List Value) : Option Value := none
theorem noneX_sound : ∀ f args v, noneX f args = some v → Known Try.prog f args v := fun _ _ _ h => by cases h
theorem Try.mixed : Try.prog.follows .mixedOrders = true := by kernel_rfl
@[reducible] def bigRoom : Inhabited Bound := ⟨⟨1000000000⟩⟩
theorem alive_ev : isTrue (@evK bigRoom Try.prog (knownX noneX) 100000 50 14 [] AH.zero) = true := by kernel_rfl
set_option maxRecDepth 100000 in
theorem alive_calls (w : World) : Calls Try.prog 14 #[] w fun e w' => e = .returned (.bool true) ∧ RowKit.Below w.heap.size w w' :=
  @call_of_true bigRoom Try.prog (knownX noneX) (@knownX_orac bigRoom Try.prog noneX noneX_sound) Try.mixed 100000 49 14 rfl alive_ev w
end Go.Proofs.Yteeelcmnlomgmaa
