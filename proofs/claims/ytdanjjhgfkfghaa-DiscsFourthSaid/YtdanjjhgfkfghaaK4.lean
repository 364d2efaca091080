import Derived.Test.YtdanjjhgfkfghaaK2
import Derived.Test.YtdanjjhgfkfghaaDtN
import Derived.Test.YtdanjjhgfkfghaaKa
import Derived.Test.YtdanjjhgfkfghaaRows
import Derived.WalkKit
import Derived.ProofKit
import Derived.OpenShut
import Derived.ShutString
import Derived.ChangeOld
import Derived.Below
import Derived.Laws.IdiomArrays
set_option linter.all false
set_option linter.unusedSimpArgs false
set_option linter.unnecessarySimpa false
set_option linter.unusedVariables false
set_option linter.unusedSectionVars false
set_option maxRecDepth 100000
set_option maxHeartbeats 8000000
set_option linter.unusedSimpArgs false
set_option linter.unusedVariables false
namespace Go.Proofs.Ytdanjjhgfkfghaa
open Go.Ds
/-- The calls that are known: Add64, and the closed example. -/
def knownK (f : FuncId) (args : List Value) : Option Value :=
  if f = 65 then (match args with
    | [.int .u64 x, .int .u64 y, .int .u64 c] => if 0 ≤ x ∧ 0 ≤ y ∧ 0 ≤ c ∧ c ≤ 1 then some (.tuple #[.int .u64 ((x + y + c) % 18446744073709551616), .int .u64 ((x + y + c) / 18446744073709551616)]) else none
    | _ => none)
  else if f = 21 then (match args with
    | [] => some (.bool true)
    | _ => none)
  else none
theorem knownK_sound : ∀ f args v, knownK f args = some v → Known Try.prog f args v := by
  have inst : Inhabited Bound := ⟨⟨0⟩⟩
  intro f args v h
  unfold knownK at h
  split at h
  · rename_i hf
    subst hf
    split at h
    · rename_i x y c
      split at h
      · rename_i hc
        obtain ⟨h1, h2, h3, h4⟩ := hc
        simp only [Option.some.injEq] at h
        subst h
        refine Known.of_value fun w => ?_
        show (callFunc 65 #[.int .u64 x, .int .u64 y, .int .u64 c]).run Try.prog w = _
        rw [run_callFunc_extern Try.func65 (by kernel_rfl) (by kernel_rfl) (by kernel_rfl) (e := add64Entry) (by kernel_rfl), run_add64 x y c h1 h2 h3 h4]
        try rfl
      · cases h
    · cases h
  · split at h
    · rename_i hf
      subst hf
      split at h
      · simp only [Option.some.injEq] at h
        subst h
        exact Known.of_calls Try.func21 (by kernel_rfl) (by kernel_rfl) alive_calls
      · cases h
    · cases h
def X0 : Caller := knownX knownK
theorem X0_orac (i : Inhabited Bound) : @Orac i Try.prog X0 := @knownX_orac i Try.prog knownK knownK_sound
theorem X0_free {f : FuncId} (h1 : f ≠ 65) (h2 : f ≠ 21) (l : List Value) (h : AH) : X0 f l h = none := by
  unfold X0 knownX knownK
  rw [if_neg h1, if_neg h2]
  cases l.all plainV <;> rfl
theorem X0_all : Xall X0 where
  pres := fun i => (X0_orac i).pres
  free := fun f h1 h2 h3 l h => X0_free h2 h1 l h
  mul := fun l h => X0_free (by decide) (by decide) l h
  add := fun x y c g hx hy hc0 hc1 => Rets.known rfl (v := .tuple #[.int .u64 ((x + y + c) % 18446744073709551616), .int .u64 ((x + y + c) / 18446744073709551616)]) (by unfold knownK; rw [if_pos rfl]; simp [hx, hy, hc0, hc1]) rfl ⟨Nat.le_refl _, rfl⟩
  alive := fun g => Rets.known rfl (v := .bool true) rfl rfl ⟨Nat.le_refl _, rfl⟩
theorem mixedO : Try.prog.follows .mixedOrders = true := by kernel_rfl
end Go.Proofs.Ytdanjjhgfkfghaa
namespace Go.Proofs.Ytdanjjhgfkfghaa
open Go.ChangeShapes Go.WideShapes Go.ChangeAt Go.RowKit
set_option linter.unusedVariables false
set_option maxRecDepth 100000
theorem ownNone : ownKnob Try.prog.godebug = none := by kernel_rfl
theorem laidOut : laidOutB Try.prog = true := by kernel_rfl
theorem cells3 : Try.prog.cellsOf 3 = 1 := by kernel_rfl
theorem cells23 : Try.prog.cellsOf 23 = 4 := by kernel_rfl
theorem list4 {α : Type} (l : List α) (h : (⟨l⟩ : Array α).size = 4) : ∃ a b c d, l = [a, b, c, d] := by
  match l, h with
  | [a, b, c, d], _ => exact ⟨a, b, c, d, rfl⟩
/-- A quad that came in is four numbers. -/
theorem open_quad {H : Type} {enc : TypeId × Value → H} {w : World} {r : Reach} {b0 base : Nat} {spare : Nat → Bool} {held : Bool} {v : Value} {d : DataW H} {p : List MemPlace} (hv : Value.okWide Try.prog w r b0 23 v) (h : DataW.Trod enc Try.prog w base spare held 23 v d p) :
    ∃ a0 a1 a2 a3 : Int, v = .agg #[.int .i64 a0, .int .i64 a1, .int .i64 a2, .int .i64 a3] := by
  obtain ⟨cs, rfl, hsz, _⟩ : ∃ cs, v = .agg cs ∧ cs.size = Try.prog.cellsOf 23 ∧ Row.okWide Try.prog w r b0 23 cs := by
    simpa [Value.okWide, Try.underlying23] using hv
  rw [cells23] at hsz
  obtain ⟨l⟩ := cs
  obtain ⟨c0, c1, c2, c3, rfl⟩ := list4 l hsz
  obtain ⟨fuel, hf⟩ := h
  obtain ⟨y0, y1, y2, y3, m, hx, hy0, hy1, hy2, hy3⟩ := trod_array4 Try.underlying23 cells3 hf
  obtain ⟨x0, e0, rfl, w0⟩ := DataW.trod_int Try.underlying3 hy0
  obtain ⟨x1, e1, rfl, w1⟩ := DataW.trod_int Try.underlying3 hy1
  obtain ⟨x2, e2, rfl, w2⟩ := DataW.trod_int Try.underlying3 hy2
  obtain ⟨x3, e3, rfl, w3⟩ := DataW.trod_int Try.underlying3 hy3
  simp at e0 e1 e2 e3
  subst e0 e1 e2 e3
  exact ⟨x0, x1, x2, x3, rfl⟩
end Go.Proofs.Ytdanjjhgfkfghaa
