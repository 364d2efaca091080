import Derived.Test.YteeelcmnlomgmaaDtN
import Derived.Test.YteeelcmnlomgmaaDtO
import Derived.Test.YteeelcmnlomgmaaKc
import Derived.Test.YteeelcmnlomgmaaKa
import Derived.Test.YteeelcmnlomgmaaRows
import Derived.WalkKit
import Derived.ProofKit
import Derived.OpenShut
import Derived.ShutString
import Derived.ChangeOld
import Derived.Below
import Derived.Laws.IdiomArrays
set_option linter.all false
set_option linter.unusedSimpArgs false
set_option linter.unnecessarySimpa false
set_option linter.unusedVariables false
set_option linter.unusedSectionVars false
set_option maxRecDepth 100000
set_option maxHeartbeats 4000000
set_option linter.unusedSimpArgs false
set_option linter.unusedVariables false
namespace Go.Proofs.Yteeelcmnlomgmaa
open Go.Ds
def ints (D : List Int) : List Value := D.map (Value.int .i64)
theorem ints_get {D : List Int} {i : Nat} (h : i < D.length) : (ints D)[i]? = some (.int .i64 (D.getD i 0)) := by
  simp [ints, h]
theorem ints_len (D : List Int) : (ints D).length = D.length := by simp [ints]
theorem ints_app (D E : List Int) : ints (D ++ E) = ints D ++ ints E := by simp [ints]
theorem ints_cell (D : List Int) : (ints D).all cellV = true := by simp [ints, cellV]
theorem ints_set (O : List Int) (n : Nat) (x : Int) : (ints O).set n (.int .i64 x) = ints (O.set n x) := by simp [ints, List.map_set]
structure Xok (X : Caller) : Prop where
  pres : ∀ i, @CallPres i X
  free : ∀ f, (f ≠ 14 ∧ f ≠ 24 ∧ f ≠ 26 ∧ f ≠ 28 ∧ f ≠ 29) → ∀ l h, X f l h = none
  alive : ∀ g : GH, Rets Try.prog X 14 [] g (fun v g' lo => g.next ≤ lo ∧ v = .bool true)
theorem take_snoc (D : List Int) (i : Nat) (h : i < D.length) : D.take (i + 1) = D.take i ++ [D.getD i 0] := by
  rw [List.take_add_one]; simp [h]
theorem take_snoc' {α : Type} (D : List α) (i : Nat) (x : α) (h : D[i]? = some x) : D.take (i + 1) = D.take i ++ [x] := by
  rw [List.take_add_one]; simp [h]
/-- Two slices of integers are the same. -/
theorem same_rets {X : Caller} (hX : Xok X) (A B : List Int) (hA : A.length < 1000000) (hB : B.length < 1000000) (s t : Value) (g : GH) (hs : SlR g s (ints A)) (ht : SlR g t (ints B)) :
    Rets Try.prog X 19 [s, t] g (fun v g' lo => g.next ≤ lo ∧ v = .bool (decide (A = B))) := by
  refine Rets.run hX.pres p19 (hX.free 19 (by decide) _ _) rfl fun ho => ?_
  have hls := hs.len
  have hlt := ht.len
  rw [ints_len] at hls hlt
  by_cases c : A.length = B.length
  · simp +decide (disch := first | assumption | (apply GH.ok_push; assumption) | exact cellV_int _ _ | exact cellV_bool _ | omega) only [go_sem, ↓reduceIte, Nat.reduceEqDiff, Nat.reduceAdd, Int.reduceToNat, hls, hlt]
    refine Wk.loops (fun m e g' lo => g' = g ∧ g.next ≤ lo ∧ ∃ i : Nat, i + m = A.length ∧ (ev e (.s 0) = s ∧ ev e (.s 1) = t ∧ ev e (.s 5) = .int .i64 i) ∧ A.take i = B.take i)
      (fun e g' lo => g' = g ∧ g.next ≤ lo ∧ A = B) (n := A.length) ?_ ?_ ?_
    · exact ⟨rfl, Nat.le_refl _, 0, by omega, (by simp +decide (disch := first | assumption | (apply GH.ok_push; assumption) | exact cellV_int _ _ | exact cellV_bool _ | omega) only [go_sem, ↓reduceIte, Nat.reduceEqDiff, Nat.reduceAdd, Int.reduceToNat]; first | done | exact rfl), rfl⟩
    · rintro e g' lo - - ⟨rfl, hlo, h⟩
      simp +decide (disch := first | assumption | (apply GH.ok_push; assumption) | exact cellV_int _ _ | exact cellV_bool _ | omega) only [go_sem, ↓reduceIte, Nat.reduceEqDiff, Nat.reduceAdd, Int.reduceToNat]
      intro hx
      exact ⟨hlo, by simp [h]⟩
    · rintro m e g' lo ho' hl' ih out ⟨rfl, hlo, i, hi, he, hp⟩
      by_cases c2 : i < A.length
      · obtain ⟨j1, o1, hj1, hp1, hp2⟩ := hs.ptr (ints_get (D := A) (i := i) c2)
        obtain ⟨j2, o2, hj2, hq1, hq2⟩ := ht.ptr (ints_get (D := B) (i := i) (by omega))
        have hp1 := hp1 (i : Int) rfl
        have hq1 := hq1 (i : Int) rfl
        by_cases d : A.getD i 0 = B.getD i 0
        · simp +decide (disch := first | assumption | (apply GH.ok_push; assumption) | exact cellV_int _ _ | exact cellV_bool _ | omega) only [go_sem, ↓reduceIte, Nat.reduceEqDiff, Nat.reduceAdd, Int.reduceToNat, he, hls, hp1, hp2, hq1, hq2, d]
          refine ih (m - 1) _ _ _ (by omega) ⟨rfl, hlo, i + 1, by omega, (by simp +decide (disch := first | assumption | (apply GH.ok_push; assumption) | exact cellV_int _ _ | exact cellV_bool _ | omega) only [go_sem, ↓reduceIte, Nat.reduceEqDiff, Nat.reduceAdd, Int.reduceToNat, he]; first | done | exact rfl), ?_⟩
          rw [take_snoc A i c2, take_snoc B i (by omega), hp, d]
        · simp +decide (disch := first | assumption | (apply GH.ok_push; assumption) | exact cellV_int _ _ | exact cellV_bool _ | omega) only [go_sem, ↓reduceIte, Nat.reduceEqDiff, Nat.reduceAdd, Int.reduceToNat, he, hls, hp1, hp2, hq1, hq2]
          intro hx
          refine ⟨hlo, ?_⟩
          rw [decide_eq_false fun h => d (by rw [h])]
      · simp +decide (disch := first | assumption | (apply GH.ok_push; assumption) | exact cellV_int _ _ | exact cellV_bool _ | omega) only [go_sem, ↓reduceIte, Nat.reduceEqDiff, Nat.reduceAdd, Int.reduceToNat, he, hls]
        refine out _ _ _ ⟨rfl, hlo, ?_⟩
        rw [List.take_of_length_le (by omega), List.take_of_length_le (by omega)] at hp
        exact hp
  · simp +decide (disch := first | assumption | (apply GH.ok_push; assumption) | exact cellV_int _ _ | exact cellV_bool _ | omega) only [go_sem, ↓reduceIte, Nat.reduceEqDiff, Nat.reduceAdd, Int.reduceToNat, hls, hlt]
    intro hx
    exact ⟨Nat.le_refl _, by rw [decide_eq_false fun h => c (by rw [h])]⟩

end Go.Proofs.Yteeelcmnlomgmaa
set_option maxRecDepth 100000
set_option maxHeartbeats 8000000
set_option linter.unusedSimpArgs false
set_option linter.unusedVariables false
namespace Go.Proofs.Yteeelcmnlomgmaa
open Go.Ds
/-- The call that is known: the closed example. -/
def knownK (f : FuncId) (args : List Value) : Option Value :=
  if f = 14 then (match args with
    | [] => some (.bool true)
    | _ => none)
  else none
theorem knownK_sound : ∀ f args v, knownK f args = some v → Known Try.prog f args v := by
  have inst : Inhabited Bound := ⟨⟨0⟩⟩
  intro f args v h
  unfold knownK at h
  split at h
  · rename_i hf
    subst hf
    split at h
    · simp only [Option.some.injEq] at h
      subst h
      exact Known.of_calls Try.func14 (by kernel_rfl) (by kernel_rfl) alive_calls
    · cases h
  · cases h
def X0 : Caller := knownX knownK
theorem X0_orac (i : Inhabited Bound) : @Orac i Try.prog X0 := @knownX_orac i Try.prog knownK knownK_sound
theorem X0_free {f : FuncId} (h2 : f ≠ 14) (l : List Value) (h : AH) : X0 f l h = none := by
  unfold X0 knownX knownK
  rw [if_neg h2]
  cases l.all plainV <;> rfl
theorem X0_ok : Xok X0 where
  pres := fun i => (X0_orac i).pres
  free := fun f h l h2 => X0_free h.1 l h2
  alive := fun g => Rets.known rfl (v := .bool true) rfl rfl ⟨Nat.le_refl _, rfl⟩
theorem mixedO : Try.prog.follows .mixedOrders = true := by kernel_rfl
end Go.Proofs.Yteeelcmnlomgmaa
namespace Go.Proofs.Yteeelcmnlomgmaa
open Go.ChangeShapes Go.WideShapes Go.ChangeAt Go.RowKit
set_option linter.unusedVariables false
set_option maxRecDepth 100000
theorem ownNone : ownKnob Try.prog.godebug = none := by kernel_rfl
theorem laidOut : laidOutB Try.prog = true := by kernel_rfl
theorem cells3 : Try.prog.cellsOf 3 = 1 := by kernel_rfl
end Go.Proofs.Yteeelcmnlomgmaa
