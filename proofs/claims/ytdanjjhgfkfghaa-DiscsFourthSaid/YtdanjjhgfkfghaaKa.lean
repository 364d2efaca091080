import Derived.Test.YtdanjjhgfkfghaaDsZd
import Derived.Test.YtdanjjhgfkfghaaProg
import Derived.Laws.Externs
import Derived.KernelRfl
set_option linter.all false
set_option linter.unusedSimpArgs false
set_option linter.unnecessarySimpa false
set_option linter.unusedVariables false
set_option linter.unusedSectionVars false
namespace Go.Proofs.Ytdanjjhgfkfghaa
open Go.Ds
def bitsX (f : FuncId) (args : List Value) : Option Value :=
  bif Nat.beq f 65 then match args with
  | [.int .u64 (.ofNat a), .int .u64 (.ofNat b), .int .u64 (.ofNat c)] => bif Nat.ble c 1 then some (.tuple #[.int .u64 (.ofNat (Nat.mod (Nat.add (Nat.add a b) c) 18446744073709551616)), .int .u64 (.ofNat (Nat.div (Nat.add (Nat.add a b) c) 18446744073709551616))]) else none
  | _ => none
  else none
set_option maxRecDepth 100000 in
theorem bitsX_sound : ∀ f args v, bitsX f args = some v → Known Try.prog f args v := by
  have inst : Inhabited Bound := ⟨⟨0⟩⟩
  intro f args v h
  unfold bitsX at h
  obtain ⟨hf, h2⟩ := bif_some h
  clear h
  have hf := beq_eq hf
  subst hf
  split at h2
  · rename_i a b c
    obtain ⟨hk, h3⟩ := bif_some h2
    have hc := Nat.le_of_ble_eq_true hk
    simp only [Option.some.injEq] at h3
    subst h3
    refine Known.of_value fun w => ?_
    show (callFunc 65 #[.int .u64 (Int.ofNat a), .int .u64 (Int.ofNat b), .int .u64 (Int.ofNat c)]).run Try.prog w = _
    rw [run_callFunc_extern Try.func65 (by kernel_rfl) (by kernel_rfl) (by kernel_rfl) (e := add64Entry) (by kernel_rfl), run_add64 (Int.ofNat a) (Int.ofNat b) (Int.ofNat c) (Int.natCast_nonneg _) (Int.natCast_nonneg _) (Int.natCast_nonneg _) (Int.ofNat_le.2 hc)]
    rfl
  · cases h2
theorem Try.mixed : Try.prog.follows .mixedOrders = true := by kernel_rfl
@[reducible] def bigRoom : Inhabited Bound := ⟨⟨1000000000⟩⟩
theorem alive_ev : isTrue (@evK bigRoom Try.prog (knownX bitsX) 100000 50 21 [] AH.zero) = true := by kernel_rfl
set_option maxRecDepth 100000 in
theorem alive_calls (w : World) : Calls Try.prog 21 #[] w fun e w' => e = .returned (.bool true) ∧ RowKit.Below w.heap.size w w' :=
  @call_of_true bigRoom Try.prog (knownX bitsX) (@knownX_orac bigRoom Try.prog bitsX bitsX_sound) Try.mixed 100000 49 21 rfl alive_ev w
end Go.Proofs.Ytdanjjhgfkfghaa
