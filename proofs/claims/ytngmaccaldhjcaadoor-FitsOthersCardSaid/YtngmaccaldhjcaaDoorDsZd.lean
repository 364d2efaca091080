import Derived.Test.YtngmaccaldhjcaaDoorDsZc
import Derived.Test.YtngmaccaldhjcaaDoorDsD
set_option linter.all false
set_option linter.unusedSimpArgs false
set_option linter.unnecessarySimpa false
set_option linter.unusedVariables false
set_option linter.unusedSectionVars false
set_option linter.unusedSectionVars false
set_option linter.unusedVariables false
namespace Go.Ds
variable [Inhabited Bound]

/-! ## What the kernel runs -/
theorem fillK_eq {R : Type} : ∀ (l : List Value) (e : Env) (i : Nat) (k : Env → R), Env.fillK e i l k = k (Env.fill e i l)
  | [], e, i, k => rfl
  | v :: l, e, i, k => by
    unfold Env.fillK Env.fill
    simp only [fV_eq, Env.putK_eq, fillK_eq l]
theorem evK_eq (P : Program) (X : Caller) (fuel : Nat) : ∀ n, evK P X fuel n = evF P X fuel n
  | 0 => by funext f args h; rfl
  | n + 1 => by
    funext f args h
    have ih := evK_eq P X fuel n
    have hs : evK P X fuel (n + 1) f args h = (match X f args h with
      | some r => some r
      | none => match fastF P f with
        | none => none
        | some (c, rs) => bif Nat.ble (lenN args) 512 then Env.fillK Env.none 0 args fun e => match c (evK P X fuel n) fuel e h with
          | some (.exit _, _, _) => none
          | some (_, e, h) => match resF h e rs with
            | some l => some (oneOf l, h)
            | none => none
          | none => none
          else none) := rfl
    rw [hs, fastF_eq, ih]
    simp only [evF]
    cases X f args h with
    | some r => rfl
    | none =>
      simp only
      cases prepF P f with
      | none => rfl
      | some x =>
        obtain ⟨c, rs⟩ := x
        simp only [Option.map_some, fillK_eq]
        cases Nat.ble (lenN args) 512 with
        | false => rfl
        | true =>
          simp only [cond_true]
          cases evC (evF P X fuel n) fuel c (Env.fill Env.none 0 args) h with
          | none => rfl
          | some y =>
            obtain ⟨o, e, h'⟩ := y
            cases o <;> rfl

end Go.Ds
