import Derived.Test.YteeelcmnlomgmaaK1
set_option linter.all false
set_option linter.unusedSimpArgs false
set_option linter.unnecessarySimpa false
set_option linter.unusedVariables false
set_option linter.unusedSectionVars false
set_option maxRecDepth 100000
set_option maxHeartbeats 8000000
set_option linter.unusedSimpArgs false
set_option linter.unusedVariables false
namespace Go.Proofs.Yteeelcmnlomgmaa
open Go.Ds
theorem triangles_18 (hX : Xok X0) : Rets Try.prog X0 5 [.int .i64 18] GH.zero (fun v g' lo => GH.zero.next ≤ lo ∧ v = .bool true) := by
  refine Rets.intro hX.pres p5 (hX.free 5 (by decide) _ _) rfl fun ho => ?_
  exact GC.eval (Qv := fun v g' lo => GH.zero.next ≤ lo ∧ v = .bool true) bigRoom 100000 49 (fun _ _ => ⟨Nat.zero_le _, rfl⟩) (by kernel_rfl)
end Go.Proofs.Yteeelcmnlomgmaa
set_option maxRecDepth 100000
set_option maxHeartbeats 8000000
set_option linter.unusedSimpArgs false
set_option linter.unusedVariables false
namespace Go.Proofs.Yteeelcmnlomgmaa
open Go.Ds
theorem triangles_17 (hX : Xok X0) : Rets Try.prog X0 5 [.int .i64 17] GH.zero (fun v g' lo => GH.zero.next ≤ lo ∧ v = .bool true) := by
  refine Rets.intro hX.pres p5 (hX.free 5 (by decide) _ _) rfl fun ho => ?_
  exact GC.eval (Qv := fun v g' lo => GH.zero.next ≤ lo ∧ v = .bool true) bigRoom 100000 49 (fun _ _ => ⟨Nat.zero_le _, rfl⟩) (by kernel_rfl)
theorem triangles_16 (hX : Xok X0) : Rets Try.prog X0 5 [.int .i64 16] GH.zero (fun v g' lo => GH.zero.next ≤ lo ∧ v = .bool true) := by
  refine Rets.intro hX.pres p5 (hX.free 5 (by decide) _ _) rfl fun ho => ?_
  exact GC.eval (Qv := fun v g' lo => GH.zero.next ≤ lo ∧ v = .bool true) bigRoom 100000 49 (fun _ _ => ⟨Nat.zero_le _, rfl⟩) (by kernel_rfl)
end Go.Proofs.Yteeelcmnlomgmaa
set_option maxRecDepth 100000
set_option maxHeartbeats 8000000
set_option linter.unusedSimpArgs false
set_option linter.unusedVariables false
namespace Go.Proofs.Yteeelcmnlomgmaa
open Go.Ds
theorem triangles_15 (hX : Xok X0) : Rets Try.prog X0 5 [.int .i64 15] GH.zero (fun v g' lo => GH.zero.next ≤ lo ∧ v = .bool true) := by
  refine Rets.intro hX.pres p5 (hX.free 5 (by decide) _ _) rfl fun ho => ?_
  exact GC.eval (Qv := fun v g' lo => GH.zero.next ≤ lo ∧ v = .bool true) bigRoom 100000 49 (fun _ _ => ⟨Nat.zero_le _, rfl⟩) (by kernel_rfl)
theorem triangles_14 (hX : Xok X0) : Rets Try.prog X0 5 [.int .i64 14] GH.zero (fun v g' lo => GH.zero.next ≤ lo ∧ v = .bool true) := by
  refine Rets.intro hX.pres p5 (hX.free 5 (by decide) _ _) rfl fun ho => ?_
  exact GC.eval (Qv := fun v g' lo => GH.zero.next ≤ lo ∧ v = .bool true) bigRoom 100000 49 (fun _ _ => ⟨Nat.zero_le _, rfl⟩) (by kernel_rfl)
theorem triangles_13 (hX : Xok X0) : Rets Try.prog X0 5 [.int .i64 13] GH.zero (fun v g' lo => GH.zero.next ≤ lo ∧ v = .bool true) := by
  refine Rets.intro hX.pres p5 (hX.free 5 (by decide) _ _) rfl fun ho => ?_
  exact GC.eval (Qv := fun v g' lo => GH.zero.next ≤ lo ∧ v = .bool true) bigRoom 100000 49 (fun _ _ => ⟨Nat.zero_le _, rfl⟩) (by kernel_rfl)
end Go.Proofs.Yteeelcmnlomgmaa
set_option maxRecDepth 100000
set_option maxHeartbeats 8000000
set_option linter.unusedSimpArgs false
set_option linter.unusedVariables false
namespace Go.Proofs.Yteeelcmnlomgmaa
open Go.Ds
theorem triangles_0 (hX : Xok X0) : Rets Try.prog X0 5 [.int .i64 0] GH.zero (fun v g' lo => GH.zero.next ≤ lo ∧ v = .bool true) := by
  refine Rets.intro hX.pres p5 (hX.free 5 (by decide) _ _) rfl fun ho => ?_
  exact GC.eval (Qv := fun v g' lo => GH.zero.next ≤ lo ∧ v = .bool true) bigRoom 100000 49 (fun _ _ => ⟨Nat.zero_le _, rfl⟩) (by kernel_rfl)
theorem triangles_1 (hX : Xok X0) : Rets Try.prog X0 5 [.int .i64 1] GH.zero (fun v g' lo => GH.zero.next ≤ lo ∧ v = .bool true) := by
  refine Rets.intro hX.pres p5 (hX.free 5 (by decide) _ _) rfl fun ho => ?_
  exact GC.eval (Qv := fun v g' lo => GH.zero.next ≤ lo ∧ v = .bool true) bigRoom 100000 49 (fun _ _ => ⟨Nat.zero_le _, rfl⟩) (by kernel_rfl)
theorem triangles_2 (hX : Xok X0) : Rets Try.prog X0 5 [.int .i64 2] GH.zero (fun v g' lo => GH.zero.next ≤ lo ∧ v = .bool true) := by
  refine Rets.intro hX.pres p5 (hX.free 5 (by decide) _ _) rfl fun ho => ?_
  exact GC.eval (Qv := fun v g' lo => GH.zero.next ≤ lo ∧ v = .bool true) bigRoom 100000 49 (fun _ _ => ⟨Nat.zero_le _, rfl⟩) (by kernel_rfl)
theorem triangles_3 (hX : Xok X0) : Rets Try.prog X0 5 [.int .i64 3] GH.zero (fun v g' lo => GH.zero.next ≤ lo ∧ v = .bool true) := by
  refine Rets.intro hX.pres p5 (hX.free 5 (by decide) _ _) rfl fun ho => ?_
  exact GC.eval (Qv := fun v g' lo => GH.zero.next ≤ lo ∧ v = .bool true) bigRoom 100000 49 (fun _ _ => ⟨Nat.zero_le _, rfl⟩) (by kernel_rfl)
theorem triangles_4 (hX : Xok X0) : Rets Try.prog X0 5 [.int .i64 4] GH.zero (fun v g' lo => GH.zero.next ≤ lo ∧ v = .bool true) := by
  refine Rets.intro hX.pres p5 (hX.free 5 (by decide) _ _) rfl fun ho => ?_
  exact GC.eval (Qv := fun v g' lo => GH.zero.next ≤ lo ∧ v = .bool true) bigRoom 100000 49 (fun _ _ => ⟨Nat.zero_le _, rfl⟩) (by kernel_rfl)
theorem triangles_5 (hX : Xok X0) : Rets Try.prog X0 5 [.int .i64 5] GH.zero (fun v g' lo => GH.zero.next ≤ lo ∧ v = .bool true) := by
  refine Rets.intro hX.pres p5 (hX.free 5 (by decide) _ _) rfl fun ho => ?_
  exact GC.eval (Qv := fun v g' lo => GH.zero.next ≤ lo ∧ v = .bool true) bigRoom 100000 49 (fun _ _ => ⟨Nat.zero_le _, rfl⟩) (by kernel_rfl)
theorem triangles_6 (hX : Xok X0) : Rets Try.prog X0 5 [.int .i64 6] GH.zero (fun v g' lo => GH.zero.next ≤ lo ∧ v = .bool true) := by
  refine Rets.intro hX.pres p5 (hX.free 5 (by decide) _ _) rfl fun ho => ?_
  exact GC.eval (Qv := fun v g' lo => GH.zero.next ≤ lo ∧ v = .bool true) bigRoom 100000 49 (fun _ _ => ⟨Nat.zero_le _, rfl⟩) (by kernel_rfl)
theorem triangles_7 (hX : Xok X0) : Rets Try.prog X0 5 [.int .i64 7] GH.zero (fun v g' lo => GH.zero.next ≤ lo ∧ v = .bool true) := by
  refine Rets.intro hX.pres p5 (hX.free 5 (by decide) _ _) rfl fun ho => ?_
  exact GC.eval (Qv := fun v g' lo => GH.zero.next ≤ lo ∧ v = .bool true) bigRoom 100000 49 (fun _ _ => ⟨Nat.zero_le _, rfl⟩) (by kernel_rfl)
theorem triangles_8 (hX : Xok X0) : Rets Try.prog X0 5 [.int .i64 8] GH.zero (fun v g' lo => GH.zero.next ≤ lo ∧ v = .bool true) := by
  refine Rets.intro hX.pres p5 (hX.free 5 (by decide) _ _) rfl fun ho => ?_
  exact GC.eval (Qv := fun v g' lo => GH.zero.next ≤ lo ∧ v = .bool true) bigRoom 100000 49 (fun _ _ => ⟨Nat.zero_le _, rfl⟩) (by kernel_rfl)
theorem triangles_9 (hX : Xok X0) : Rets Try.prog X0 5 [.int .i64 9] GH.zero (fun v g' lo => GH.zero.next ≤ lo ∧ v = .bool true) := by
  refine Rets.intro hX.pres p5 (hX.free 5 (by decide) _ _) rfl fun ho => ?_
  exact GC.eval (Qv := fun v g' lo => GH.zero.next ≤ lo ∧ v = .bool true) bigRoom 100000 49 (fun _ _ => ⟨Nat.zero_le _, rfl⟩) (by kernel_rfl)
theorem triangles_10 (hX : Xok X0) : Rets Try.prog X0 5 [.int .i64 10] GH.zero (fun v g' lo => GH.zero.next ≤ lo ∧ v = .bool true) := by
  refine Rets.intro hX.pres p5 (hX.free 5 (by decide) _ _) rfl fun ho => ?_
  exact GC.eval (Qv := fun v g' lo => GH.zero.next ≤ lo ∧ v = .bool true) bigRoom 100000 49 (fun _ _ => ⟨Nat.zero_le _, rfl⟩) (by kernel_rfl)
theorem triangles_11 (hX : Xok X0) : Rets Try.prog X0 5 [.int .i64 11] GH.zero (fun v g' lo => GH.zero.next ≤ lo ∧ v = .bool true) := by
  refine Rets.intro hX.pres p5 (hX.free 5 (by decide) _ _) rfl fun ho => ?_
  exact GC.eval (Qv := fun v g' lo => GH.zero.next ≤ lo ∧ v = .bool true) bigRoom 100000 49 (fun _ _ => ⟨Nat.zero_le _, rfl⟩) (by kernel_rfl)
theorem triangles_12 (hX : Xok X0) : Rets Try.prog X0 5 [.int .i64 12] GH.zero (fun v g' lo => GH.zero.next ≤ lo ∧ v = .bool true) := by
  refine Rets.intro hX.pres p5 (hX.free 5 (by decide) _ _) rfl fun ho => ?_
  exact GC.eval (Qv := fun v g' lo => GH.zero.next ≤ lo ∧ v = .bool true) bigRoom 100000 49 (fun _ _ => ⟨Nat.zero_le _, rfl⟩) (by kernel_rfl)
end Go.Proofs.Yteeelcmnlomgmaa
set_option maxRecDepth 100000
set_option maxHeartbeats 8000000
set_option linter.unusedSimpArgs false
set_option linter.unusedVariables false
namespace Go.Proofs.Yteeelcmnlomgmaa
open Go.Ds
theorem tri_bad {X : Caller} (hX : Xok X) (n : Int) (hn : n < 0 ∨ 18 < n) (g : GH) : Rets Try.prog X 31 [.int .i64 n] g (fun v g' lo => g.next ≤ lo ∧ v = .tuple #[.slice none 0 0, .int .i64 2]) := by
  refine Rets.run hX.pres p31 (hX.free 31 (by decide) _ _) rfl fun ho => ?_
  by_cases c : n < 0
  · simp +decide (disch := first | assumption | (apply GH.ok_push; assumption) | exact cellV_int _ _ | exact cellV_bool _ | omega) only [go_sem, ↓reduceIte, Nat.reduceEqDiff, Nat.reduceAdd, Int.reduceToNat]
    intro hx
    exact ⟨Nat.le_refl _, rfl⟩
  · have c2 : 18 < n := by omega
    simp +decide (disch := first | assumption | (apply GH.ok_push; assumption) | exact cellV_int _ _ | exact cellV_bool _ | omega) only [go_sem, ↓reduceIte, Nat.reduceEqDiff, Nat.reduceAdd, Int.reduceToNat]
    intro hx
    exact ⟨Nat.le_refl _, rfl⟩
theorem refTri_bad {X : Caller} (hX : Xok X) (n : Int) (hn : n < 0 ∨ 18 < n) (g : GH) : Rets Try.prog X 30 [.int .i64 n] g (fun v g' lo => g.next ≤ lo ∧ v = .tuple #[.slice none 0 0, .int .i64 2]) := by
  refine Rets.run hX.pres p30 (hX.free 30 (by decide) _ _) rfl fun ho => ?_
  by_cases c : n < 0
  · simp +decide (disch := first | assumption | (apply GH.ok_push; assumption) | exact cellV_int _ _ | exact cellV_bool _ | omega) only [go_sem, ↓reduceIte, Nat.reduceEqDiff, Nat.reduceAdd, Int.reduceToNat]
    intro hx
    exact ⟨Nat.le_refl _, rfl⟩
  · have c2 : 18 < n := by omega
    simp +decide (disch := first | assumption | (apply GH.ok_push; assumption) | exact cellV_int _ _ | exact cellV_bool _ | omega) only [go_sem, ↓reduceIte, Nat.reduceEqDiff, Nat.reduceAdd, Int.reduceToNat]
    intro hx
    exact ⟨Nat.le_refl _, rfl⟩
theorem triangles_bad (hX : Xok X0) (n : Int) (hn : n < 0 ∨ 18 < n) : Rets Try.prog X0 5 [.int .i64 n] GH.zero (fun v g' lo => GH.zero.next ≤ lo ∧ v = .bool true) := by
  have e0 : ∀ a b : Value, extF (.tuple #[a, b]) 0 = some a := fun _ _ => rfl
  have e1 : ∀ a b : Value, extF (.tuple #[a, b]) 1 = some b := fun _ _ => rfl
  refine Rets.run hX.pres p5 (hX.free 5 (by decide) _ _) rfl fun ho => ?_
  simp +decide (disch := first | assumption | (apply GH.ok_push; assumption) | exact cellV_int _ _ | exact cellV_bool _ | omega) only [go_sem, ↓reduceIte, Nat.reduceEqDiff, Nat.reduceAdd, Int.reduceToNat]
  refine CallD.calm (refTri_bad hX n hn _) ?_
  rintro v G hx rfl
  have hn1 := hx.next
  simp +decide (disch := first | assumption | (apply GH.ok_push; assumption) | exact cellV_int _ _ | exact cellV_bool _ | omega) only [go_sem, ↓reduceIte, Nat.reduceEqDiff, Nat.reduceAdd, Int.reduceToNat, e0, e1]
  refine Wk.loops (fun m e g' lo => GH.zero.next ≤ lo ∧ ∃ k : Nat, k + m = 2 ∧ (ev e (.s 0) = .int .i64 n ∧ ev e (.s 3) = .slice none 0 0 ∧ ev e (.s 4) = .int .i64 2 ∧ ev e (.s 5) = .int .i64 k))
    (fun e g' lo => GH.zero.next ≤ lo) (n := 2) ?_ ?_ ?_
  · exact ⟨Nat.zero_le _, 0, rfl, (by simp +decide (disch := first | assumption | (apply GH.ok_push; assumption) | exact cellV_int _ _ | exact cellV_bool _ | omega) only [go_sem, ↓reduceIte, Nat.reduceEqDiff, Nat.reduceAdd, Int.reduceToNat]; first | done | exact rfl)⟩
  · rintro e g' lo hoG hlG hlo
    simp +decide (disch := first | assumption | (apply GH.ok_push; assumption) | exact cellV_int _ _ | exact cellV_bool _ | omega) only [go_sem, ↓reduceIte, Nat.reduceEqDiff, Nat.reduceAdd, Int.reduceToNat]
    refine CallD.calm (hX.alive _) ?_
    rintro v G2 hx2 rfl
    simp +decide (disch := first | assumption | (apply GH.ok_push; assumption) | exact cellV_int _ _ | exact cellV_bool _ | omega) only [go_sem, ↓reduceIte, Nat.reduceEqDiff, Nat.reduceAdd, Int.reduceToNat]
    intro hx0
    exact ⟨Nat.zero_le _, rfl⟩
  · rintro m e g' lo ho' hl' ih out ⟨hlo, k, hk, he⟩
    by_cases c : k < 2
    · simp +decide (disch := first | assumption | (apply GH.ok_push; assumption) | exact cellV_int _ _ | exact cellV_bool _ | omega) only [go_sem, ↓reduceIte, Nat.reduceEqDiff, Nat.reduceAdd, Int.reduceToNat, he]
      refine CallD.calm (tri_bad hX n hn _) ?_
      rintro v G2 hx2 rfl
      have hn2 := hx2.next
      simp +decide (disch := first | assumption | (apply GH.ok_push; assumption) | exact cellV_int _ _ | exact cellV_bool _ | omega) only [go_sem, ↓reduceIte, Nat.reduceEqDiff, Nat.reduceAdd, Int.reduceToNat, he, e0, e1]
      refine Wk.loops (fun m e g' lo => ev e (.s 6) = .slice none 0 0 ∧ ev e (.s 8) = .int .i64 0 ∧ ev e (.s 0) = .int .i64 n ∧ ev e (.s 3) = .slice none 0 0 ∧ ev e (.s 4) = .int .i64 2 ∧ ev e (.s 5) = .int .i64 k)
        (fun e g' lo => ev e (.s 0) = .int .i64 n ∧ ev e (.s 3) = .slice none 0 0 ∧ ev e (.s 4) = .int .i64 2 ∧ ev e (.s 5) = .int .i64 k) (n := 0) ?_ ?_ ?_
      · exact (by simp +decide (disch := first | assumption | (apply GH.ok_push; assumption) | exact cellV_int _ _ | exact cellV_bool _ | omega) only [go_sem, ↓reduceIte, Nat.reduceEqDiff, Nat.reduceAdd, Int.reduceToNat, he]; first | done | exact rfl)
      · rintro e3 g3 lo3 hoG hlG he3
        simp +decide (disch := first | assumption | (apply GH.ok_push; assumption) | exact cellV_int _ _ | exact cellV_bool _ | omega) only [go_sem, ↓reduceIte, Nat.reduceEqDiff, Nat.reduceAdd, Int.reduceToNat, he3]
        exact ih (m - 1) _ _ _ (by omega) ⟨Nat.zero_le _, k + 1, by omega, (by simp +decide (disch := first | assumption | (apply GH.ok_push; assumption) | exact cellV_int _ _ | exact cellV_bool _ | omega) only [go_sem, ↓reduceIte, Nat.reduceEqDiff, Nat.reduceAdd, Int.reduceToNat, he3]; first | done | exact rfl)⟩
      · rintro m3 e3 g3 lo3 ho3 hl3 ih3 out3 he3
        simp +decide (disch := first | assumption | (apply GH.ok_push; assumption) | exact cellV_int _ _ | exact cellV_bool _ | omega) only [go_sem, ↓reduceIte, Nat.reduceEqDiff, Nat.reduceAdd, Int.reduceToNat, he3]
        exact out3 _ _ _ (by simp +decide (disch := first | assumption | (apply GH.ok_push; assumption) | exact cellV_int _ _ | exact cellV_bool _ | omega) only [go_sem, ↓reduceIte, Nat.reduceEqDiff, Nat.reduceAdd, Int.reduceToNat, he3]; first | done | exact rfl)
    · simp +decide (disch := first | assumption | (apply GH.ok_push; assumption) | exact cellV_int _ _ | exact cellV_bool _ | omega) only [go_sem, ↓reduceIte, Nat.reduceEqDiff, Nat.reduceAdd, Int.reduceToNat, he]
      exact out _ _ _ (Nat.zero_le _)
end Go.Proofs.Yteeelcmnlomgmaa
set_option maxRecDepth 100000
set_option maxHeartbeats 8000000
set_option linter.unusedSimpArgs false
set_option linter.unusedVariables false
namespace Go.Proofs.Yteeelcmnlomgmaa
open Go.Ds
theorem trianglesLaw_rets (hX : Xok X0) (n : Int) (_ : GH) : Rets Try.prog X0 5 [.int .i64 n] GH.zero (fun v g' lo => GH.zero.next ≤ lo ∧ v = .bool true) := by
  by_cases c : n < 0 ∨ 18 < n
  · exact triangles_bad hX n c
  · have hm : n = 0 ∨ n = 1 ∨ n = 2 ∨ n = 3 ∨ n = 4 ∨ n = 5 ∨ n = 6 ∨ n = 7 ∨ n = 8 ∨ n = 9 ∨ n = 10 ∨ n = 11 ∨ n = 12 ∨ n = 13 ∨ n = 14 ∨ n = 15 ∨ n = 16 ∨ n = 17 ∨ n = 18 := by omega
    rcases hm with rfl | rfl | rfl | rfl | rfl | rfl | rfl | rfl | rfl | rfl | rfl | rfl | rfl | rfl | rfl | rfl | rfl | rfl | rfl
    · exact triangles_0 hX
    · exact triangles_1 hX
    · exact triangles_2 hX
    · exact triangles_3 hX
    · exact triangles_4 hX
    · exact triangles_5 hX
    · exact triangles_6 hX
    · exact triangles_7 hX
    · exact triangles_8 hX
    · exact triangles_9 hX
    · exact triangles_10 hX
    · exact triangles_11 hX
    · exact triangles_12 hX
    · exact triangles_13 hX
    · exact triangles_14 hX
    · exact triangles_15 hX
    · exact triangles_16 hX
    · exact triangles_17 hX
    · exact triangles_18 hX
end Go.Proofs.Yteeelcmnlomgmaa
