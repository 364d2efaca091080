import Derived.Test.YtieliilnnfjijaaK1
import Derived.Test.YtieliilnnfjijaaKq
import Derived.Test.YtieliilnnfjijaaKa
import Derived.Test.YtieliilnnfjijaaRows
import Derived.WalkKit
import Derived.ProofKit
import Derived.OpenShut
import Derived.ShutString
import Derived.ChangeOld
import Derived.Below
import Derived.Laws.IdiomArrays
set_option linter.all false
set_option linter.unusedSimpArgs false
set_option linter.unnecessarySimpa false
set_option linter.unusedVariables false
set_option linter.unusedSectionVars false
set_option maxRecDepth 100000
set_option maxHeartbeats 8000000
set_option linter.unusedSimpArgs false
set_option linter.unusedVariables false
namespace Go.Proofs.Ytieliilnnfjijaa
open Go.Ds
/-- The call that is known: the closed example. -/
def knownK (f : FuncId) (args : List Value) : Option Value :=
  if f = 16 then (match args with
    | [] => some (.bool true)
    | _ => none)
  else none
theorem knownK_sound : ∀ f args v, knownK f args = some v → Known Try.prog f args v := by
  have inst : Inhabited Bound := ⟨⟨0⟩⟩
  intro f args v h
  unfold knownK at h
  split at h
  · rename_i hf
    subst hf
    split at h
    · simp only [Option.some.injEq] at h
      subst h
      exact Known.of_calls Try.func16 (by kernel_rfl) (by kernel_rfl) alive_calls
    · cases h
  · cases h
theorem Rets.knownY {P : Program} {K : FuncId → List Value → Option Value} {Y : Caller} {f : FuncId} {args : List Value} {g : GH} {Q : Value → GH → Nat → Prop} {v : Value} (ha : args.all plainV = true) (hk : K f args = some v) (hv : plainC v = true) (h : Q v g g.next) : Rets P (orX (knownX K) Y) f args g Q := by
  unfold Rets
  intro _
  refine ⟨v, g, g.next, ⟨bnd 0, 1, 0, ?_⟩, ⟨Nat.le_refl _, rfl, Nat.le_refl _, fun _ _ _ => rfl, fun _ _ _ => rfl⟩, h⟩
  have : orX (knownX K) Y f args (g.at g.next) = some (v, g.at g.next) := by
    unfold orX knownX
    rw [ha, hk]
    simp only [cond_true, hv]
  simp only [evF, this]
theorem sort_orac (i : Inhabited Bound) : @Orac i Try.prog (sortX 78 79 sortD) :=
  ⟨@sortX_sound i Try.prog 78 79 Try.f78 sortD Try.func78 (by kernel_rfl) (by kernel_rfl) (fun L => by unfold sortD; simp) (fun p c w => sortFunc_none p c _ w) (fun b off c L w h1 h2 h3 => sortFunc_cells b off c L w h1 h2 h3), @sortX_pres i 78 79 sortD⟩
def X0 : Caller := orX (knownX knownK) (sortX 78 79 sortD)
theorem X0_orac (i : Inhabited Bound) : @Orac i Try.prog X0 := orX_orac (@knownX_orac i Try.prog knownK knownK_sound) (sort_orac i)
theorem known_none {f : FuncId} (h : f ≠ 16) (l : List Value) (g : AH) : knownX knownK f l g = none := by
  unfold knownX knownK
  rw [if_neg h]
  cases l.all plainV <;> rfl
theorem X0_free {f : FuncId} (h2 : f ≠ 16 ∧ f ≠ 78) (l : List Value) (h : AH) : X0 f l h = none := by
  unfold X0 orX
  rw [known_none h2.1]
  show sortX 78 79 sortD f l h = none
  unfold sortX
  split
  · rw [show Nat.beq f 78 = false from Bool.eq_false_iff.2 (fun k => h2.2 (Nat.eq_of_beq_eq_true k))]; rfl
  · rfl
theorem X0_ok : Xok X0 where
  pres := fun i => (X0_orac i).pres
  free := fun f h l h2 => X0_free h l h2
  alive := fun g => Rets.knownY rfl (v := .bool true) rfl rfl ⟨Nat.le_refl _, rfl⟩
  sort := fun args h => by
    unfold X0 orX
    rw [known_none (by decide)]
theorem mixedO : Try.prog.follows .mixedOrders = true := by kernel_rfl
end Go.Proofs.Ytieliilnnfjijaa
namespace Go.Proofs.Ytieliilnnfjijaa
open Go.ChangeShapes Go.WideShapes Go.ChangeAt Go.RowKit
set_option linter.unusedVariables false
set_option maxRecDepth 100000
theorem ownNone : ownKnob Try.prog.godebug = none := by kernel_rfl
theorem laidOut : laidOutB Try.prog = true := by kernel_rfl
theorem cells3 : Try.prog.cellsOf 3 = 1 := by kernel_rfl
end Go.Proofs.Ytieliilnnfjijaa
