import Derived.Test.YtngmaccaldhjcaaDoorDtM
import Derived.ChangeSlices
import Derived.ChangeShapes
import Derived.WideShapes
import Derived.ProofKit
set_option linter.all false
set_option linter.unusedSimpArgs false
set_option linter.unnecessarySimpa false
set_option linter.unusedVariables false
set_option linter.unusedSectionVars false
set_option linter.unusedSectionVars false
set_option linter.unusedVariables false
namespace Go.Ds
open Go.ChangeShapes Go.WideShapes

/-! ## A list of integers that came in -/
theorem cells_of_shape {w : World} {b : Nat} {x : TypeId × Nat} (h : w.shape? b = some x) : ∃ c fr, w.heap[b]? = some (.cells c x.1 fr) := by
  unfold World.shape? at h
  split at h
  · rename_i c elem fr hc
    simp only [Option.some.injEq] at h
    subst h
    exact ⟨c, fr, hc⟩
  · cases h
theorem slice_has {P : Program} {w : World} {r : Reach} {base : Nat} {t e : TypeId} {a : Addr} {len cap : Nat} (ht : P.underlying t = some (.slice e)) (h : Value.okWide P w r base t (.slice (some a) len cap)) : len ≤ cap ∧ (cap : Int) ≤ IntKind.i64.max ∧ a.spot = none ∧ ∃ c row fr, w.heap[a.block]? = some (.cells c row fr) := by
  unfold Value.okWide at h
  simp only [ht] at h
  unfold Cell.okWide at h
  simp only [ht] at h
  unfold Cell.ok at h
  simp only [ht] at h
  obtain ⟨h1, h2, _, h3, row, cells, h4, _⟩ := h
  obtain ⟨c, fr, hc⟩ := cells_of_shape h4
  exact ⟨h1, h2, h3, c, _, fr, hc⟩
end Go.Ds
