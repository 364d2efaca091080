import Derived.Test.YteeelcmnlomgmaaK1
set_option linter.all false
set_option linter.unusedSimpArgs false
set_option linter.unnecessarySimpa false
set_option linter.unusedVariables false
set_option linter.unusedSectionVars false
set_option maxRecDepth 100000
set_option maxHeartbeats 8000000
set_option linter.unusedSimpArgs false
set_option linter.unusedVariables false
namespace Go.Proofs.Yteeelcmnlomgmaa
open Go.Ds
theorem twice_0 (hX : Xok X0) (s : Int) (h : s.tmod 9 = 0) : Rets Try.prog X0 9 [.int .u8 s] GH.zero (fun v g' lo => GH.zero.next ≤ lo ∧ v = .bool true) := by
  have hc : convF .i64 (.int .u8 0) = some (.int .i64 0) := rfl
  refine Rets.intro hX.pres p9 (hX.free 9 (by decide) _ _) rfl fun ho => ?_
  refine GC.cutK fun K hK => ?_
  simp +decide (disch := first | assumption | (apply GH.ok_push; assumption) | exact cellV_int _ _ | exact cellV_bool _ | omega) only [go_sem, ↓reduceIte, Nat.reduceEqDiff, Nat.reduceAdd, Int.reduceToNat]
  refine hK _ (GC.cutK fun K hK => ?_)
  simp +decide (disch := first | assumption | (apply GH.ok_push; assumption) | exact cellV_int _ _ | exact cellV_bool _ | omega) only [go_sem, ↓reduceIte, Nat.reduceEqDiff, Nat.reduceAdd, Int.reduceToNat, h, hc]
  refine hK _ ?_
  exact GC.eval (Qv := fun v g' lo => GH.zero.next ≤ lo ∧ v = .bool true) bigRoom 100000 49 (fun _ _ => ⟨Nat.zero_le _, rfl⟩) (by kernel_rfl)
theorem twice_1 (hX : Xok X0) (s : Int) (h : s.tmod 9 = 1) : Rets Try.prog X0 9 [.int .u8 s] GH.zero (fun v g' lo => GH.zero.next ≤ lo ∧ v = .bool true) := by
  have hc : convF .i64 (.int .u8 1) = some (.int .i64 1) := rfl
  refine Rets.intro hX.pres p9 (hX.free 9 (by decide) _ _) rfl fun ho => ?_
  refine GC.cutK fun K hK => ?_
  simp +decide (disch := first | assumption | (apply GH.ok_push; assumption) | exact cellV_int _ _ | exact cellV_bool _ | omega) only [go_sem, ↓reduceIte, Nat.reduceEqDiff, Nat.reduceAdd, Int.reduceToNat]
  refine hK _ (GC.cutK fun K hK => ?_)
  simp +decide (disch := first | assumption | (apply GH.ok_push; assumption) | exact cellV_int _ _ | exact cellV_bool _ | omega) only [go_sem, ↓reduceIte, Nat.reduceEqDiff, Nat.reduceAdd, Int.reduceToNat, h, hc]
  refine hK _ ?_
  exact GC.eval (Qv := fun v g' lo => GH.zero.next ≤ lo ∧ v = .bool true) bigRoom 100000 49 (fun _ _ => ⟨Nat.zero_le _, rfl⟩) (by kernel_rfl)
theorem twice_2 (hX : Xok X0) (s : Int) (h : s.tmod 9 = 2) : Rets Try.prog X0 9 [.int .u8 s] GH.zero (fun v g' lo => GH.zero.next ≤ lo ∧ v = .bool true) := by
  have hc : convF .i64 (.int .u8 2) = some (.int .i64 2) := rfl
  refine Rets.intro hX.pres p9 (hX.free 9 (by decide) _ _) rfl fun ho => ?_
  refine GC.cutK fun K hK => ?_
  simp +decide (disch := first | assumption | (apply GH.ok_push; assumption) | exact cellV_int _ _ | exact cellV_bool _ | omega) only [go_sem, ↓reduceIte, Nat.reduceEqDiff, Nat.reduceAdd, Int.reduceToNat]
  refine hK _ (GC.cutK fun K hK => ?_)
  simp +decide (disch := first | assumption | (apply GH.ok_push; assumption) | exact cellV_int _ _ | exact cellV_bool _ | omega) only [go_sem, ↓reduceIte, Nat.reduceEqDiff, Nat.reduceAdd, Int.reduceToNat, h, hc]
  refine hK _ ?_
  exact GC.eval (Qv := fun v g' lo => GH.zero.next ≤ lo ∧ v = .bool true) bigRoom 100000 49 (fun _ _ => ⟨Nat.zero_le _, rfl⟩) (by kernel_rfl)
theorem twice_3 (hX : Xok X0) (s : Int) (h : s.tmod 9 = 3) : Rets Try.prog X0 9 [.int .u8 s] GH.zero (fun v g' lo => GH.zero.next ≤ lo ∧ v = .bool true) := by
  have hc : convF .i64 (.int .u8 3) = some (.int .i64 3) := rfl
  refine Rets.intro hX.pres p9 (hX.free 9 (by decide) _ _) rfl fun ho => ?_
  refine GC.cutK fun K hK => ?_
  simp +decide (disch := first | assumption | (apply GH.ok_push; assumption) | exact cellV_int _ _ | exact cellV_bool _ | omega) only [go_sem, ↓reduceIte, Nat.reduceEqDiff, Nat.reduceAdd, Int.reduceToNat]
  refine hK _ (GC.cutK fun K hK => ?_)
  simp +decide (disch := first | assumption | (apply GH.ok_push; assumption) | exact cellV_int _ _ | exact cellV_bool _ | omega) only [go_sem, ↓reduceIte, Nat.reduceEqDiff, Nat.reduceAdd, Int.reduceToNat, h, hc]
  refine hK _ ?_
  exact GC.eval (Qv := fun v g' lo => GH.zero.next ≤ lo ∧ v = .bool true) bigRoom 100000 49 (fun _ _ => ⟨Nat.zero_le _, rfl⟩) (by kernel_rfl)
theorem twice_4 (hX : Xok X0) (s : Int) (h : s.tmod 9 = 4) : Rets Try.prog X0 9 [.int .u8 s] GH.zero (fun v g' lo => GH.zero.next ≤ lo ∧ v = .bool true) := by
  have hc : convF .i64 (.int .u8 4) = some (.int .i64 4) := rfl
  refine Rets.intro hX.pres p9 (hX.free 9 (by decide) _ _) rfl fun ho => ?_
  refine GC.cutK fun K hK => ?_
  simp +decide (disch := first | assumption | (apply GH.ok_push; assumption) | exact cellV_int _ _ | exact cellV_bool _ | omega) only [go_sem, ↓reduceIte, Nat.reduceEqDiff, Nat.reduceAdd, Int.reduceToNat]
  refine hK _ (GC.cutK fun K hK => ?_)
  simp +decide (disch := first | assumption | (apply GH.ok_push; assumption) | exact cellV_int _ _ | exact cellV_bool _ | omega) only [go_sem, ↓reduceIte, Nat.reduceEqDiff, Nat.reduceAdd, Int.reduceToNat, h, hc]
  refine hK _ ?_
  exact GC.eval (Qv := fun v g' lo => GH.zero.next ≤ lo ∧ v = .bool true) bigRoom 100000 49 (fun _ _ => ⟨Nat.zero_le _, rfl⟩) (by kernel_rfl)
theorem twice_5 (hX : Xok X0) (s : Int) (h : s.tmod 9 = 5) : Rets Try.prog X0 9 [.int .u8 s] GH.zero (fun v g' lo => GH.zero.next ≤ lo ∧ v = .bool true) := by
  have hc : convF .i64 (.int .u8 5) = some (.int .i64 5) := rfl
  refine Rets.intro hX.pres p9 (hX.free 9 (by decide) _ _) rfl fun ho => ?_
  refine GC.cutK fun K hK => ?_
  simp +decide (disch := first | assumption | (apply GH.ok_push; assumption) | exact cellV_int _ _ | exact cellV_bool _ | omega) only [go_sem, ↓reduceIte, Nat.reduceEqDiff, Nat.reduceAdd, Int.reduceToNat]
  refine hK _ (GC.cutK fun K hK => ?_)
  simp +decide (disch := first | assumption | (apply GH.ok_push; assumption) | exact cellV_int _ _ | exact cellV_bool _ | omega) only [go_sem, ↓reduceIte, Nat.reduceEqDiff, Nat.reduceAdd, Int.reduceToNat, h, hc]
  refine hK _ ?_
  exact GC.eval (Qv := fun v g' lo => GH.zero.next ≤ lo ∧ v = .bool true) bigRoom 100000 49 (fun _ _ => ⟨Nat.zero_le _, rfl⟩) (by kernel_rfl)
theorem twice_6 (hX : Xok X0) (s : Int) (h : s.tmod 9 = 6) : Rets Try.prog X0 9 [.int .u8 s] GH.zero (fun v g' lo => GH.zero.next ≤ lo ∧ v = .bool true) := by
  have hc : convF .i64 (.int .u8 6) = some (.int .i64 6) := rfl
  refine Rets.intro hX.pres p9 (hX.free 9 (by decide) _ _) rfl fun ho => ?_
  refine GC.cutK fun K hK => ?_
  simp +decide (disch := first | assumption | (apply GH.ok_push; assumption) | exact cellV_int _ _ | exact cellV_bool _ | omega) only [go_sem, ↓reduceIte, Nat.reduceEqDiff, Nat.reduceAdd, Int.reduceToNat]
  refine hK _ (GC.cutK fun K hK => ?_)
  simp +decide (disch := first | assumption | (apply GH.ok_push; assumption) | exact cellV_int _ _ | exact cellV_bool _ | omega) only [go_sem, ↓reduceIte, Nat.reduceEqDiff, Nat.reduceAdd, Int.reduceToNat, h, hc]
  refine hK _ ?_
  exact GC.eval (Qv := fun v g' lo => GH.zero.next ≤ lo ∧ v = .bool true) bigRoom 100000 49 (fun _ _ => ⟨Nat.zero_le _, rfl⟩) (by kernel_rfl)
theorem twice_7 (hX : Xok X0) (s : Int) (h : s.tmod 9 = 7) : Rets Try.prog X0 9 [.int .u8 s] GH.zero (fun v g' lo => GH.zero.next ≤ lo ∧ v = .bool true) := by
  have hc : convF .i64 (.int .u8 7) = some (.int .i64 7) := rfl
  refine Rets.intro hX.pres p9 (hX.free 9 (by decide) _ _) rfl fun ho => ?_
  refine GC.cutK fun K hK => ?_
  simp +decide (disch := first | assumption | (apply GH.ok_push; assumption) | exact cellV_int _ _ | exact cellV_bool _ | omega) only [go_sem, ↓reduceIte, Nat.reduceEqDiff, Nat.reduceAdd, Int.reduceToNat]
  refine hK _ (GC.cutK fun K hK => ?_)
  simp +decide (disch := first | assumption | (apply GH.ok_push; assumption) | exact cellV_int _ _ | exact cellV_bool _ | omega) only [go_sem, ↓reduceIte, Nat.reduceEqDiff, Nat.reduceAdd, Int.reduceToNat, h, hc]
  refine hK _ ?_
  exact GC.eval (Qv := fun v g' lo => GH.zero.next ≤ lo ∧ v = .bool true) bigRoom 100000 49 (fun _ _ => ⟨Nat.zero_le _, rfl⟩) (by kernel_rfl)
theorem twice_8 (hX : Xok X0) (s : Int) (h : s.tmod 9 = 8) : Rets Try.prog X0 9 [.int .u8 s] GH.zero (fun v g' lo => GH.zero.next ≤ lo ∧ v = .bool true) := by
  have hc : convF .i64 (.int .u8 8) = some (.int .i64 8) := rfl
  refine Rets.intro hX.pres p9 (hX.free 9 (by decide) _ _) rfl fun ho => ?_
  refine GC.cutK fun K hK => ?_
  simp +decide (disch := first | assumption | (apply GH.ok_push; assumption) | exact cellV_int _ _ | exact cellV_bool _ | omega) only [go_sem, ↓reduceIte, Nat.reduceEqDiff, Nat.reduceAdd, Int.reduceToNat]
  refine hK _ (GC.cutK fun K hK => ?_)
  simp +decide (disch := first | assumption | (apply GH.ok_push; assumption) | exact cellV_int _ _ | exact cellV_bool _ | omega) only [go_sem, ↓reduceIte, Nat.reduceEqDiff, Nat.reduceAdd, Int.reduceToNat, h, hc]
  refine hK _ ?_
  exact GC.eval (Qv := fun v g' lo => GH.zero.next ≤ lo ∧ v = .bool true) bigRoom 100000 49 (fun _ _ => ⟨Nat.zero_le _, rfl⟩) (by kernel_rfl)
theorem twiceLaw_rets (hX : Xok X0) (s : Int) (h0 : 0 ≤ s) (h1 : s < 256) (_ : GH) : Rets Try.prog X0 9 [.int .u8 s] GH.zero (fun v g' lo => GH.zero.next ≤ lo ∧ v = .bool true) := by
  have hm : s.tmod 9 = 0 ∨ s.tmod 9 = 1 ∨ s.tmod 9 = 2 ∨ s.tmod 9 = 3 ∨ s.tmod 9 = 4 ∨ s.tmod 9 = 5 ∨ s.tmod 9 = 6 ∨ s.tmod 9 = 7 ∨ s.tmod 9 = 8 := by
    rw [Int.tmod_eq_emod_of_nonneg h0]
    omega
  rcases hm with h | h | h | h | h | h | h | h | h
  · exact twice_0 hX s h
  · exact twice_1 hX s h
  · exact twice_2 hX s h
  · exact twice_3 hX s h
  · exact twice_4 hX s h
  · exact twice_5 hX s h
  · exact twice_6 hX s h
  · exact twice_7 hX s h
  · exact twice_8 hX s h
end Go.Proofs.Yteeelcmnlomgmaa
