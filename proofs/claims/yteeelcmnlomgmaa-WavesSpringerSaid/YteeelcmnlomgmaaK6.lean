import Derived.Test.YteeelcmnlomgmaaK5
import Derived.Test.YteeelcmnlomgmaaDtO
set_option linter.all false
set_option linter.unusedSimpArgs false
set_option linter.unnecessarySimpa false
set_option linter.unusedVariables false
set_option linter.unusedSectionVars false
set_option maxRecDepth 100000
set_option maxHeartbeats 8000000
set_option linter.unusedSimpArgs false
set_option linter.unusedVariables false
namespace Go.Proofs.Yteeelcmnlomgmaa
open Go.Ds
/-! ## Snakes -/
def negv (x : Int) : Int := if x = -9223372036854775808 then x else -x
def absv (x : Int) : Int := if x < negv x then negv x else x
def InR (x : Int) : Prop := -9223372036854775808 ≤ x ∧ x ≤ 9223372036854775807
theorem neg_fact {x : Int} (h : InR x) : unF .neg (.int .i64 x) = some (.int .i64 (negv x)) := by
  simp only [unF]
  unfold negv
  unfold InR at h
  by_cases c : x = -9223372036854775808
  · rw [if_pos c, c]; rfl
  · rw [if_neg c, wr64 (by omega) (by omega)]
    congr 2
    omega
theorem absv_iff {x : Int} (h : InR x) {n : Nat} (hn : n ≤ 1000) : (1 ≤ absv x ∧ absv x ≤ n) ↔ (-(n : Int) ≤ x ∧ x ≤ n ∧ x ≠ 0) := by
  unfold InR at h
  unfold absv negv
  by_cases c : x = -9223372036854775808
  · rw [if_pos c]
    simp only [Int.lt_irrefl, ↓reduceIte]
    omega
  · rw [if_neg c]
    by_cases d : x < -x
    · rw [if_pos d]; omega
    · rw [if_neg d]; omega
def absL (L : List Int) : List Int := L.map absv
theorem absL_len (L : List Int) : (absL L).length = L.length := by simp [absL]
theorem absL_get {L : List Int} {i : Nat} (h : i < L.length) : (absL L).getD i 0 = absv (L.getD i 0) := by simp [absL, h]
theorem absL_rng (L : List Int) : absL L = rng L.length (fun r => absv (L.getD r 0)) := by
  apply List.ext_getElem
  · simp [absL_len, rng_len]
  · intro i h1 h2
    rw [absL_len] at h1
    simp [absL, rng, h1]
def snkE (L : List Int) : Int := if 6 < L.length then 3 else if rowGo L.length [] (absL L) = true then 0 else 2
def snakeB (L : List Int) : Bool := (decide (L.length = 0) || decide (0 < L.getD 0 0)) && inTurnL false L
theorem isSnake_rets {X : Caller} (hX : Xok X) (L : List Int) (hL : L.length ≤ 1000) (s : Value) (g : GH) (hs : SlR g s (ints L)) :
    Rets Try.prog X 62 [s] g (fun v g' lo => g.next ≤ lo ∧ v = .bool (snakeB L)) := by
  refine Rets.run hX.pres p62 (hX.free 62 (by decide) _ _) rfl fun ho => ?_
  have hl := hs.len
  rw [ints_len] at hl
  unfold snakeB
  by_cases c : L.length = 0
  · rw [decide_eq_true c]
    have c' : (L.length : Int) = 0 := by omega
    simp +decide (disch := first | assumption | (apply GH.ok_push; assumption) | exact cellV_int _ _ | exact cellV_bool _ | omega) only [go_sem, ↓reduceIte, Nat.reduceEqDiff, Nat.reduceAdd, Int.reduceToNat, hl, c']
    refine CallD.calm (inTurn_rets hX L hL false s _ hs) ?_
    rintro v G hx rfl
    have hn := hx.next
    simp +decide (disch := first | assumption | (apply GH.ok_push; assumption) | exact cellV_int _ _ | exact cellV_bool _ | omega) only [go_sem, ↓reduceIte, Nat.reduceEqDiff, Nat.reduceAdd, Int.reduceToNat]
    intro hx0
    exact ⟨Nat.le_refl _, by simp⟩
  · rw [decide_eq_false c]
    have c' : ¬ (L.length : Int) = 0 := by omega
    obtain ⟨p, hp1, hp2⟩ := hs.at (ints_get (D := L) (i := 0) (by omega))
    have hp1 := hp1 (0 : Int) rfl
    by_cases d : 0 < L.getD 0 0
    · rw [decide_eq_true d]
      simp +decide (disch := first | assumption | (apply GH.ok_push; assumption) | exact cellV_int _ _ | exact cellV_bool _ | omega) only [go_sem, ↓reduceIte, Nat.reduceEqDiff, Nat.reduceAdd, Int.reduceToNat, hl, c', hp1, hp2]
      refine CallD.calm (inTurn_rets hX L hL false s _ hs) ?_
      rintro v G hx rfl
      have hn := hx.next
      simp +decide (disch := first | assumption | (apply GH.ok_push; assumption) | exact cellV_int _ _ | exact cellV_bool _ | omega) only [go_sem, ↓reduceIte, Nat.reduceEqDiff, Nat.reduceAdd, Int.reduceToNat]
      intro hx0
      exact ⟨Nat.le_refl _, by simp⟩
    · rw [decide_eq_false d]
      simp +decide (disch := first | assumption | (apply GH.ok_push; assumption) | exact cellV_int _ _ | exact cellV_bool _ | omega) only [go_sem, ↓reduceIte, Nat.reduceEqDiff, Nat.reduceAdd, Int.reduceToNat, hl, c', hp1, hp2]
      intro hx0
      exact ⟨Nat.le_refl _, by simp⟩
theorem refSnake_rets {X : Caller} (hX : Xok X) (L : List Int) (hL : L.length ≤ 1000) (hd : Diff L) (h0 : L.getD 0 1 ≠ 0) (s : Value) (g : GH) (hs : SlR g s (ints L)) :
    Rets Try.prog X 63 [s] g (fun v g' lo => g.next ≤ lo ∧ v = .bool (snakeB L)) := by
  have h0' : 0 < L.length → L.getD 0 0 ≠ 0 := by
    intro h e
    apply h0
    rw [List.getD_eq_getElem?_getD, List.getElem?_eq_getElem h] at e ⊢
    exact e
  refine Rets.run hX.pres p63 (hX.free 63 (by decide) _ _) rfl fun ho => ?_
  have hl := hs.len
  rw [ints_len] at hl
  have body : ∀ (e0 : Env) (g0 : GH) (lo0 : Nat) (ks : List Fr), g0 = g → g.next ≤ lo0 → (ev e0 (.s 0) = s ∧ ev e0 (.s 3) = .int .i64 1) →
      (∀ e lo, g.next ≤ lo → inTurnL false L = true → Wk Try.prog X (Qr r63 g (fun v g' lo => g.next ≤ lo ∧ v = .bool (snakeB L))) (.O .normal ks e g lo)) →
      (∀ e lo, g.next ≤ lo → inTurnL false L = false → ev e (.s 2) = .bool false → Wk Try.prog X (Qr r63 g (fun v g' lo => g.next ≤ lo ∧ v = .bool (snakeB L))) (.C .ret [] e g lo)) →
      Wk Try.prog X (Qr r63 g (fun v g' lo => g.next ≤ lo ∧ v = .bool (snakeB L))) (.C (.loop b63_0) (.blk 0 :: ks) e0 g0 lo0) := by
    intro e0 g0 lo0 ks hg0 hlo0 he0 hend hfail
    subst hg0
    refine Wk.loops (fun m e g' lo => g0.next ≤ lo ∧ g' = g0 ∧ ∃ j : Nat, j + m = L.length ∧ (ev e (.s 0) = s ∧ ev e (.s 3) = .int .i64 (j + 1)) ∧ inTurnL (decide (j % 2 = 1)) (L.drop j) = inTurnL false L)
      (fun e g' lo => g0.next ≤ lo ∧ g' = g0 ∧ inTurnL false L = true) (n := L.length) ?_ ?_ ?_
    · exact ⟨hlo0, rfl, 0, by omega, he0, rfl⟩
    · rintro e g' lo hog - ⟨hlo, rfl, hr⟩
      exact hend e lo hlo hr
    · rintro m e g' lo ho' hl' ih out ⟨hlo, rfl, j, hj, he, hr⟩
      by_cases c : j + 1 < L.length
      · obtain ⟨b1, o1, hb1, hp1, hp2⟩ := hs.ptr (ints_get (D := L) (i := j) (by omega))
        obtain ⟨b2, o2, hb2, hq1, hq2⟩ := hs.ptr (ints_get (D := L) (i := j + 1) c)
        have hp1 := hp1 (j : Int) rfl
        have hq1 := hq1 ((j : Int) + 1) (by omega)
        have hst := inTurnL_step (decide (j % 2 = 1)) L j c
        have hj1 : (j : Int) + 1 - 1 = j := by omega
        have hne := hd j c
        have ht : ((j : Int) + 1).tmod 2 = (((j + 1) % 2 : Nat) : Int) := rfl
        by_cases c2 : j % 2 = 0
        · have ht2 : (j + 1) % 2 = 1 := by omega
          have hs2 : decide ((j + 1) % 2 = 1) = true := decide_eq_true (by omega)
          have hs3 : decide (j % 2 = 1) = false := decide_eq_false (by omega)
          rw [ht2] at ht
          rw [hs3] at hst hr
          by_cases d : L.getD j 0 < L.getD (j + 1) 0
          · rw [decide_eq_true d] at hst
            have d2 : L.getD j 0 ≤ L.getD (j + 1) 0 := by omega
            simp +decide (disch := first | assumption | (apply GH.ok_push; assumption) | exact cellV_int _ _ | exact cellV_bool _ | omega) only [go_sem, ↓reduceIte, Nat.reduceEqDiff, Nat.reduceAdd, Int.reduceToNat, he, hl, hj1, hp1, hp2, hq1, hq2, d2, ht]
            intro hx0
            refine ⟨hlo, ?_⟩
            unfold snakeB
            rw [← hr, hst]; simp
          · rw [decide_eq_false d] at hst
            have d2 : ¬ L.getD j 0 ≤ L.getD (j + 1) 0 := by omega
            simp +decide (disch := first | assumption | (apply GH.ok_push; assumption) | exact cellV_int _ _ | exact cellV_bool _ | omega) only [go_sem, ↓reduceIte, Nat.reduceEqDiff, Nat.reduceAdd, Int.reduceToNat, he, hl, hj1, hp1, hp2, hq1, hq2, d2, ht]
            exact ih (m - 1) _ _ _ (by omega) ⟨hlo, rfl, j + 1, by omega, (by simp +decide (disch := first | assumption | (apply GH.ok_push; assumption) | exact cellV_int _ _ | exact cellV_bool _ | omega) only [go_sem, ↓reduceIte, Nat.reduceEqDiff, Nat.reduceAdd, Int.reduceToNat, he]; first | done | exact rfl), by rw [hs2, ← hr, hst]; rfl⟩
        · have ht2 : (j + 1) % 2 = 0 := by omega
          have hs2 : decide ((j + 1) % 2 = 1) = false := decide_eq_false (by omega)
          have hs3 : decide (j % 2 = 1) = true := decide_eq_true (by omega)
          rw [ht2] at ht
          rw [hs3] at hst hr
          by_cases d : L.getD j 0 < L.getD (j + 1) 0
          · rw [decide_eq_true d] at hst
            have d2 : ¬ L.getD (j + 1) 0 ≤ L.getD j 0 := by omega
            simp +decide (disch := first | assumption | (apply GH.ok_push; assumption) | exact cellV_int _ _ | exact cellV_bool _ | omega) only [go_sem, ↓reduceIte, Nat.reduceEqDiff, Nat.reduceAdd, Int.reduceToNat, he, hl, hj1, hp1, hp2, hq1, hq2, d2, ht]
            exact ih (m - 1) _ _ _ (by omega) ⟨hlo, rfl, j + 1, by omega, (by simp +decide (disch := first | assumption | (apply GH.ok_push; assumption) | exact cellV_int _ _ | exact cellV_bool _ | omega) only [go_sem, ↓reduceIte, Nat.reduceEqDiff, Nat.reduceAdd, Int.reduceToNat, he]; first | done | exact rfl), by rw [hs2, ← hr, hst]; rfl⟩
          · rw [decide_eq_false d] at hst
            have d2 : L.getD (j + 1) 0 ≤ L.getD j 0 := by omega
            simp +decide (disch := first | assumption | (apply GH.ok_push; assumption) | exact cellV_int _ _ | exact cellV_bool _ | omega) only [go_sem, ↓reduceIte, Nat.reduceEqDiff, Nat.reduceAdd, Int.reduceToNat, he, hl, hj1, hp1, hp2, hq1, hq2, d2, ht]
            intro hx0
            refine ⟨hlo, ?_⟩
            unfold snakeB
            rw [← hr, hst]; simp
      · simp +decide (disch := first | assumption | (apply GH.ok_push; assumption) | exact cellV_int _ _ | exact cellV_bool _ | omega) only [go_sem, ↓reduceIte, Nat.reduceEqDiff, Nat.reduceAdd, Int.reduceToNat, he, hl]
        refine out _ _ _ ⟨hlo, rfl, ?_⟩
        rw [← hr, inTurnL_end _ L j (by omega)]
  have endT : ∀ e lo, g.next ≤ lo → inTurnL false L = true → (decide (L.length = 0) || decide (0 < L.getD 0 0)) = true → Wk Try.prog X (Qr r63 g (fun v g' lo => g.next ≤ lo ∧ v = .bool (snakeB L))) (.O .normal [.seq (.seq (.reg [⟨none, some 2, some (.move (.c (.bool true))), none, []⟩]) .ret)] e g lo) := by
    intro e lo hlo h1 h2
    unfold snakeB
    rw [h1, h2]
    simp +decide (disch := first | assumption | (apply GH.ok_push; assumption) | exact cellV_int _ _ | exact cellV_bool _ | omega) only [go_sem, ↓reduceIte, Nat.reduceEqDiff, Nat.reduceAdd, Int.reduceToNat]
    intro hx0
    exact ⟨hlo, rfl⟩
  by_cases c : L.length = 0
  · have c' : ¬ 0 < (L.length : Int) := by omega
    simp +decide (disch := first | assumption | (apply GH.ok_push; assumption) | exact cellV_int _ _ | exact cellV_bool _ | omega) only [go_sem, ↓reduceIte, Nat.reduceEqDiff, Nat.reduceAdd, Int.reduceToNat, hl, c']
    refine body _ _ _ _ rfl (Nat.le_refl _) (by simp +decide (disch := first | assumption | (apply GH.ok_push; assumption) | exact cellV_int _ _ | exact cellV_bool _ | omega) only [go_sem, ↓reduceIte, Nat.reduceEqDiff, Nat.reduceAdd, Int.reduceToNat]; first | done | exact rfl) (fun e lo h1 h2 => endT e lo h1 h2 (by simp [c])) ?_
    intro e lo h1 h2 h3
    simp +decide (disch := first | assumption | (apply GH.ok_push; assumption) | exact cellV_int _ _ | exact cellV_bool _ | omega) only [go_sem, ↓reduceIte, Nat.reduceEqDiff, Nat.reduceAdd, Int.reduceToNat, h3]
    intro hx0
    refine ⟨h1, ?_⟩
    unfold snakeB
    rw [h2]; simp
  · have c' : 0 < (L.length : Int) := by omega
    have hne := h0' (by omega)
    obtain ⟨p, hp1, hp2⟩ := hs.at (ints_get (D := L) (i := 0) (by omega))
    have hp1 := hp1 (0 : Int) rfl
    by_cases d : L.getD 0 0 < 0
    · simp +decide (disch := first | assumption | (apply GH.ok_push; assumption) | exact cellV_int _ _ | exact cellV_bool _ | omega) only [go_sem, ↓reduceIte, Nat.reduceEqDiff, Nat.reduceAdd, Int.reduceToNat, hl, c', hp1, hp2]
      intro hx0
      refine ⟨Nat.le_refl _, ?_⟩
      unfold snakeB
      rw [decide_eq_false c, decide_eq_false (by omega)]; rfl
    · simp +decide (disch := first | assumption | (apply GH.ok_push; assumption) | exact cellV_int _ _ | exact cellV_bool _ | omega) only [go_sem, ↓reduceIte, Nat.reduceEqDiff, Nat.reduceAdd, Int.reduceToNat, hl, c', hp1, hp2]
      refine body _ _ _ _ rfl (Nat.le_refl _) (by simp +decide (disch := first | assumption | (apply GH.ok_push; assumption) | exact cellV_int _ _ | exact cellV_bool _ | omega) only [go_sem, ↓reduceIte, Nat.reduceEqDiff, Nat.reduceAdd, Int.reduceToNat]; first | done | exact rfl) (fun e lo h1 h2 => endT e lo h1 h2 (by rw [decide_eq_true (show 0 < L.getD 0 0 by omega)]; simp)) ?_
      intro e lo h1 h2 h3
      simp +decide (disch := first | assumption | (apply GH.ok_push; assumption) | exact cellV_int _ _ | exact cellV_bool _ | omega) only [go_sem, ↓reduceIte, Nat.reduceEqDiff, Nat.reduceAdd, Int.reduceToNat, h3]
      intro hx0
      refine ⟨h1, ?_⟩
      unfold snakeB
      rw [h2]; simp
end Go.Proofs.Yteeelcmnlomgmaa
set_option maxRecDepth 100000
set_option maxHeartbeats 8000000
set_option linter.unusedSimpArgs false
set_option linter.unusedVariables false
namespace Go.Proofs.Yteeelcmnlomgmaa
open Go.Ds
def snkB (L : List Int) : Bool := decide (snkE L = 0) && snakeB L
theorem absv_fact {x : Int} : mxF (.int .i64 x) (.int .i64 (negv x)) = some (.int .i64 (absv x)) := mx_ints x (negv x)
theorem negv_wrap {x : Int} (h : InR x) : wrapF .i64 (0 - x) = negv x := by
  have := neg_fact h
  simp only [unF, Option.some.injEq, Value.int.injEq, true_and] at this
  exact this
theorem IsSnake_rets {X : Caller} (hX : Xok X) (L : List Int) (hL : L.length ≤ 1000) (hr : ∀ x ∈ L, InR x) (s : Value) (g : GH) (hs : SlR g s (ints L)) :
    Rets Try.prog X 36 [s] g (fun v g' lo => g.next ≤ lo ∧ v = .tuple #[.bool (snkB L), .int .i64 (snkE L)]) := by
  refine Rets.run hX.pres p36 (hX.free 36 (by decide) _ _) rfl fun ho => ?_
  have hl := hs.len
  rw [ints_len] at hl
  unfold snkB snkE
  by_cases c0 : 6 < L.length
  · rw [if_pos c0]
    simp +decide (disch := first | assumption | (apply GH.ok_push; assumption) | exact cellV_int _ _ | exact cellV_bool _ | omega) only [go_sem, ↓reduceIte, Nat.reduceEqDiff, Nat.reduceAdd, Int.reduceToNat, hl]
    intro hx0
    exact ⟨Nat.le_refl _, by simp⟩
  · rw [if_neg c0]
    simp +decide (disch := first | assumption | (apply GH.ok_push; assumption) | exact cellV_int _ _ | exact cellV_bool _ | omega) only [go_sem, ↓reduceIte, Nat.reduceEqDiff, Nat.reduceAdd, Int.reduceToNat, hl]
    refine Wk.mkslice (n := L.length) (c := L.length) (by simp +decide (disch := first | assumption | (apply GH.ok_push; assumption) | exact cellV_int _ _ | exact cellV_bool _ | omega) only [go_sem, ↓reduceIte, Nat.reduceEqDiff, Nat.reduceAdd, Int.reduceToNat, hl]; first | done | exact rfl) (by simp +decide (disch := first | assumption | (apply GH.ok_push; assumption) | exact cellV_int _ _ | exact cellV_bool _ | omega) only [go_sem, ↓reduceIte, Nat.reduceEqDiff, Nat.reduceAdd, Int.reduceToNat, hl]; first | done | exact rfl) (Nat.le_refl _) (by omega) ?_
    simp +decide (disch := first | assumption | (apply GH.ok_push; assumption) | exact cellV_int _ _ | exact cellV_bool _ | omega) only [go_sem, ↓reduceIte, Nat.reduceEqDiff, Nat.reduceAdd, Int.reduceToNat, hl]
    refine Wk.loops (fun m e g' lo => g.next ≤ lo ∧ Kept g g' ∧ g.next < g'.next ∧ ∃ i : Nat, i + m = L.length ∧ (ev e (.s 0) = s ∧ ev e (.s 4) = .slice (some ⟨g.next, 0, none⟩) L.length L.length ∧ ev e (.s 13) = s ∧ ev e (.s 14) = .int .i64 L.length ∧ ev e (.s 15) = .int .i64 i) ∧ g'.get g.next = cellsOb (ints (rng L.length (fun r => if r < i then absv (L.getD r 0) else 0))) 3)
      (fun e g' lo => g.next ≤ lo ∧ Kept g g' ∧ g.next < g'.next ∧ (ev e (.s 0) = s ∧ ev e (.s 4) = .slice (some ⟨g.next, 0, none⟩) L.length L.length) ∧ g'.get g.next = cellsOb (ints (absL L)) 3) (n := L.length) ?_ ?_ ?_
    · refine ⟨Nat.le_refl _, (Kept.refl g).push ho _, Nat.lt_succ_self _, 0, by omega, (by simp +decide (disch := first | assumption | (apply GH.ok_push; assumption) | exact cellV_int _ _ | exact cellV_bool _ | omega) only [go_sem, ↓reduceIte, Nat.reduceEqDiff, Nat.reduceAdd, Int.reduceToNat, hl]; first | done | exact rfl), ?_⟩
      rw [GH.get_push ho, if_pos rfl, repeat_rng]
      congr 2
    · rintro e g' lo hog - ⟨hlo, hk, hnx, he, hget⟩
      have hsl := SlR.whole (c := L.length) hget hnx (show L.length = _ by rw [ints_len, absL_len])
      simp +decide (disch := first | assumption | (apply GH.ok_push; assumption) | exact cellV_int _ _ | exact cellV_bool _ | omega) only [go_sem, ↓reduceIte, Nat.reduceEqDiff, Nat.reduceAdd, Int.reduceToNat, he]
      refine CallD.calm (isRow_rets hX (absL L) (by rw [absL_len]; exact hL) _ _ hsl) ?_
      rintro v G hx rfl
      have hn := hx.next
      rw [absL_len]
      cases hb : rowGo L.length [] (absL L) with
      | true =>
        simp +decide (disch := first | assumption | (apply GH.ok_push; assumption) | exact cellV_int _ _ | exact cellV_bool _ | omega) only [go_sem, ↓reduceIte, Nat.reduceEqDiff, Nat.reduceAdd, Int.reduceToNat, he]
        refine CallD.calm (isSnake_rets hX L hL s _ ((hs.kept hk).ext hx)) ?_
        rintro v G2 hx2 rfl
        have hn2 := hx2.next
        simp +decide (disch := first | assumption | (apply GH.ok_push; assumption) | exact cellV_int _ _ | exact cellV_bool _ | omega) only [go_sem, ↓reduceIte, Nat.reduceEqDiff, Nat.reduceAdd, Int.reduceToNat]
        intro hx0
        exact ⟨hlo, by simp⟩
      | false =>
        simp +decide (disch := first | assumption | (apply GH.ok_push; assumption) | exact cellV_int _ _ | exact cellV_bool _ | omega) only [go_sem, ↓reduceIte, Nat.reduceEqDiff, Nat.reduceAdd, Int.reduceToNat, he]
        intro hx0
        exact ⟨hlo, by simp⟩
    · rintro m e g' lo ho' hl' ih out ⟨hlo, hk, hnx, i, hi, he, hget⟩
      by_cases ci : i < L.length
      · obtain ⟨p, hp1, hp2⟩ := (hs.kept hk).at (ints_get (D := L) (i := i) ci)
        have hp1 := hp1 (i : Int) rfl
        have hng := neg_fact (hr _ (mem_getD ci))
        have hab := absv_fact (x := L.getD i 0)
        rw [← negv_wrap (hr _ (mem_getD ci))] at hab
        have hia := iaddrS_at (j := g.next) (n := L.length) (c := L.length) (m := i) (x := (i : Int)) rfl ci
        have hlen : (ints (rng L.length (fun r => if r < i then absv (L.getD r 0) else 0))).length = L.length := by rw [ints_len, rng_len]
        simp +decide (disch := first | assumption | (apply GH.ok_push; assumption) | exact cellV_int _ _ | exact cellV_bool _ | omega) only [go_sem, ↓reduceIte, Nat.reduceEqDiff, Nat.reduceAdd, Int.reduceToNat, he, hl, hp1, hp2, hng, hab, hia, hget, hlen]
        have hw := Wrote.set (o := cellsOb (splice i (ints (rng L.length (fun r => if r < i then absv (L.getD r 0) else 0))) [.int .i64 (absv (L.getD i 0))]) 3) hget Nat.one_ne_zero ho'
        refine ih (m - 1) _ _ _ (by omega) ⟨by omega, hw.kept hk (Nat.le_refl _), hnx, i + 1, by omega, (by simp +decide (disch := first | assumption | (apply GH.ok_push; assumption) | exact cellV_int _ _ | exact cellV_bool _ | omega) only [go_sem, ↓reduceIte, Nat.reduceEqDiff, Nat.reduceAdd, Int.reduceToNat, he]; first | done | exact rfl), ?_⟩
        rw [hw.get, splice_set _ _ _ (by rw [hlen]; exact ci), ints_set, rng_set]
        congr 2
        refine rng_congr fun k hk => ?_
        by_cases hkc : k = i
        · subst hkc; simp
        · rw [if_neg hkc]
          by_cases hkl : k < i
          · rw [if_pos hkl, if_pos (by omega)]
          · rw [if_neg hkl, if_neg (by omega)]
      · simp +decide (disch := first | assumption | (apply GH.ok_push; assumption) | exact cellV_int _ _ | exact cellV_bool _ | omega) only [go_sem, ↓reduceIte, Nat.reduceEqDiff, Nat.reduceAdd, Int.reduceToNat, he]
        refine out _ _ _ ⟨hlo, hk, hnx, (by simp +decide (disch := first | assumption | (apply GH.ok_push; assumption) | exact cellV_int _ _ | exact cellV_bool _ | omega) only [go_sem, ↓reduceIte, Nat.reduceEqDiff, Nat.reduceAdd, Int.reduceToNat, he]; first | done | exact rfl), ?_⟩
        rw [hget, absL_rng]
        congr 2
        refine rng_congr fun k hk => ?_
        rw [if_pos (by omega)]
theorem absL_diff {L : List Int} (h : rowGo L.length [] (absL L) = true) : Diff L ∧ L.getD 0 1 ≠ 0 := by
  obtain ⟨h1, h2⟩ := rowGo_mem h
  refine ⟨fun j hj e => ?_, fun e => ?_⟩
  · have := nodup_diff h1 j (by rw [absL_len]; exact hj)
    rw [absL_get (by omega), absL_get hj, e] at this
    exact this rfl
  · cases L with
    | nil => simp at e
    | cons a l =>
      simp at e
      subst e
      have := h2 (absv 0) (by simp [absL])
      have hz : absv 0 = 0 := by decide
      omega
theorem refIsSnake_rets {X : Caller} (hX : Xok X) (L : List Int) (hL : L.length ≤ 1000) (hr : ∀ x ∈ L, InR x) (s : Value) (g : GH) (hs : SlR g s (ints L)) :
    Rets Try.prog X 37 [s] g (fun v g' lo => g.next ≤ lo ∧ v = .tuple #[.bool (snkB L), .int .i64 (snkE L)]) := by
  refine Rets.run hX.pres p37 (hX.free 37 (by decide) _ _) rfl fun ho => ?_
  have hl := hs.len
  rw [ints_len] at hl
  unfold snkB snkE
  by_cases c0 : 6 < L.length
  · rw [if_pos c0]
    simp +decide (disch := first | assumption | (apply GH.ok_push; assumption) | exact cellV_int _ _ | exact cellV_bool _ | omega) only [go_sem, ↓reduceIte, Nat.reduceEqDiff, Nat.reduceAdd, Int.reduceToNat, hl]
    intro hx0
    exact ⟨Nat.le_refl _, by simp⟩
  · rw [if_neg c0]
    have hlr : InR (L.length : Int) := by unfold InR; omega
    have hnl : unF .neg (.int .i64 (L.length : Int)) = some (.int .i64 (-(L.length : Int))) := by
      rw [neg_fact hlr]; unfold negv; rw [if_neg (by omega)]
    simp +decide (disch := first | assumption | (apply GH.ok_push; assumption) | exact cellV_int _ _ | exact cellV_bool _ | omega) only [go_sem, ↓reduceIte, Nat.reduceEqDiff, Nat.reduceAdd, Int.reduceToNat, hl]
    refine Wk.loops (fun m e g' lo => g.next ≤ lo ∧ g' = g ∧ ∃ i : Nat, i + m = L.length ∧ ∃ t : Nat, (ev e (.s 0) = s ∧ ev e (.s 4) = .int .i64 t ∧ ev e (.s 5) = .int .i64 i) ∧ t ≤ 1024 * i ∧ (∀ y : Nat, y ≤ 10 → t / 2 ^ y % 2 = if (y : Int) ∈ (absL L).take i then 1 else 0) ∧ rowGo L.length ((absL L).take i) ((absL L).drop i) = rowGo L.length [] (absL L))
      (fun e g' lo => g.next ≤ lo ∧ g' = g ∧ ev e (.s 0) = s ∧ rowGo L.length [] (absL L) = true) (n := L.length) ?_ ?_ ?_
    · exact ⟨Nat.le_refl _, rfl, 0, by omega, 0, (by simp +decide (disch := first | assumption | (apply GH.ok_push; assumption) | exact cellV_int _ _ | exact cellV_bool _ | omega) only [go_sem, ↓reduceIte, Nat.reduceEqDiff, Nat.reduceAdd, Int.reduceToNat]; first | done | exact rfl), by omega, fun y _ => by simp, rfl⟩
    · rintro e g' lo hog - ⟨hlo, rfl, h0, hr0⟩
      rw [if_pos hr0]
      have hd := absL_diff hr0
      simp +decide (disch := first | assumption | (apply GH.ok_push; assumption) | exact cellV_int _ _ | exact cellV_bool _ | omega) only [go_sem, ↓reduceIte, Nat.reduceEqDiff, Nat.reduceAdd, Int.reduceToNat, h0]
      refine CallD.calm (refSnake_rets hX L hL hd.1 hd.2 s _ hs) ?_
      rintro v G2 hx2 rfl
      have hn2 := hx2.next
      simp +decide (disch := first | assumption | (apply GH.ok_push; assumption) | exact cellV_int _ _ | exact cellV_bool _ | omega) only [go_sem, ↓reduceIte, Nat.reduceEqDiff, Nat.reduceAdd, Int.reduceToNat]
      intro hx0
      exact ⟨hlo, by simp⟩
    · rintro m e g' lo ho' hl' ih out ⟨hlo, rfl, i, hi, t, he, ht, hb, hr0⟩
      by_cases c : i < L.length
      · obtain ⟨b1, o1, hb1, hp1, hp2⟩ := hs.ptr (ints_get (D := L) (i := i) c)
        have hp1 := hp1 (i : Int) rfl
        have hst := rowGo_step L.length (absL L) i (by rw [absL_len]; exact c)
        have htk := take_snoc (absL L) i (by rw [absL_len]; exact c)
        rw [absL_get c] at hst htk
        have hxr := hr _ (mem_getD c)
        obtain ⟨x, hx⟩ : ∃ x, L.getD i 0 = x := ⟨_, rfl⟩
        rw [hx] at hp2 hst htk hxr
        have hiff := absv_iff hxr (n := L.length) hL
        have hng := neg_fact hxr
        have hab := absv_fact (x := x)
        have bad : ¬ (1 ≤ absv x ∧ absv x ≤ L.length) → rowGo L.length [] (absL L) = false := by
          intro h
          rw [← hr0, hst, decide_eq_false (fun k => h ⟨k.1, k.2.1⟩)]; rfl
        by_cases c1 : x < -(L.length : Int)
        · rw [bad (fun h => by have := hiff.1 h; omega)]
          simp +decide (disch := first | assumption | (apply GH.ok_push; assumption) | exact cellV_int _ _ | exact cellV_bool _ | omega) only [go_sem, ↓reduceIte, Nat.reduceEqDiff, Nat.reduceAdd, Int.reduceToNat, he, hl, hp1, hp2, hnl]
          intro hx0
          exact ⟨hlo, by simp⟩
        · by_cases c2 : (L.length : Int) < x
          · rw [bad (fun h => by have := hiff.1 h; omega)]
            simp +decide (disch := first | assumption | (apply GH.ok_push; assumption) | exact cellV_int _ _ | exact cellV_bool _ | omega) only [go_sem, ↓reduceIte, Nat.reduceEqDiff, Nat.reduceAdd, Int.reduceToNat, he, hl, hp1, hp2, hnl]
            intro hx0
            exact ⟨hlo, by simp⟩
          · by_cases c3 : x = 0
            · rw [bad (fun h => by have := hiff.1 h; omega)]
              simp +decide (disch := first | assumption | (apply GH.ok_push; assumption) | exact cellV_int _ _ | exact cellV_bool _ | omega) only [go_sem, ↓reduceIte, Nat.reduceEqDiff, Nat.reduceAdd, Int.reduceToNat, he, hl, hp1, hp2, hnl, c3]
              intro hx0
              exact ⟨hlo, by simp⟩
            · have hok := hiff.2 ⟨by omega, by omega, c3⟩
              obtain ⟨k, hk1⟩ : ∃ k : Nat, absv x = k := ⟨(absv x).toNat, by omega⟩
              rw [hk1] at hok hst htk hab
              have hn0 : negv x = 0 - x := by unfold negv; rw [if_neg (by omega)]; omega
              rw [hn0] at hab
              have hbk := hb k (by omega)
              have hsr : ((t : Int).fdiv (Int.ofNat (Nat.pow 2 (min (k : Int).toNat 64)))).tmod 2 = ((t / 2 ^ k % 2 : Nat) : Int) := by rw [shr_fact t k (by omega)]; rfl
              have hsl := shl_fact k (by omega)
              have hpw : 2 ^ k ≤ 1024 := by have := Nat.pow_le_pow_right (n := 2) (by omega) (show k ≤ 10 by omega); exact this
              obtain ⟨w, hw⟩ : ∃ w, 2 ^ k = w := ⟨_, rfl⟩
              by_cases c4 : ((k : Int)) ∈ (absL L).take i
              · rw [if_pos c4] at hbk
                rw [hbk] at hsr
                have hbd : rowGo L.length [] (absL L) = false := by rw [← hr0, hst, decide_eq_false (fun h => h.2.2 c4)]; rfl
                rw [hbd]
                simp +decide (disch := first | assumption | (apply GH.ok_push; assumption) | exact cellV_int _ _ | exact cellV_bool _ | omega) only [go_sem, ↓reduceIte, Nat.reduceEqDiff, Nat.reduceAdd, Int.reduceToNat, he, hl, hp1, hp2, hnl, c3, hng, hab, hsr]
                intro hx0
                exact ⟨hlo, by simp⟩
              · rw [if_neg c4] at hbk
                rw [hbk] at hsr
                rw [hw] at hsl hpw
                simp +decide (disch := first | assumption | (apply GH.ok_push; assumption) | exact cellV_int _ _ | exact cellV_bool _ | omega) only [go_sem, ↓reduceIte, Nat.reduceEqDiff, Nat.reduceAdd, Int.reduceToNat, he, hl, hp1, hp2, hnl, c3, hng, hab, hsr, hsl]
                refine ih (m - 1) _ _ _ (by omega) ⟨hlo, rfl, i + 1, by omega, t + w, (by simp +decide (disch := first | assumption | (apply GH.ok_push; assumption) | exact cellV_int _ _ | exact cellV_bool _ | omega) only [go_sem, ↓reduceIte, Nat.reduceEqDiff, Nat.reduceAdd, Int.reduceToNat, he]; first | done | exact rfl), by omega, fun y hy => ?_, ?_⟩
                · rw [← hw, bit_add t k y hbk, hb y hy, htk]
                  by_cases d : y = k
                  · subst d; simp
                  · have d' : ¬ (y : Int) = k := by omega
                    rw [if_neg d]
                    simp only [List.mem_append, List.mem_singleton, d', or_false]
                · rw [← hr0, hst, decide_eq_true ⟨by omega, by omega, c4⟩]; rfl
      · simp +decide (disch := first | assumption | (apply GH.ok_push; assumption) | exact cellV_int _ _ | exact cellV_bool _ | omega) only [go_sem, ↓reduceIte, Nat.reduceEqDiff, Nat.reduceAdd, Int.reduceToNat, he, hl]
        refine out _ _ _ ⟨hlo, rfl, (by simp +decide (disch := first | assumption | (apply GH.ok_push; assumption) | exact cellV_int _ _ | exact cellV_bool _ | omega) only [go_sem, ↓reduceIte, Nat.reduceEqDiff, Nat.reduceAdd, Int.reduceToNat, he]; first | done | exact rfl), ?_⟩
        rw [← hr0, List.drop_of_length_le (by rw [absL_len]; omega)]; cases (absL L).take i <;> rfl
end Go.Proofs.Yteeelcmnlomgmaa
set_option linter.unusedSectionVars false
set_option linter.unusedVariables false
namespace Go.Ds
/-! ## Rows of one family, some of which are given up -/
theorem killGo_spec2 (keep off : Nat) : ∀ (ms : List (Nat × Nat)) (g : GH) (low : Nat) (fam : Nat), g.ok → (∀ x ∈ ms, fam ≤ x.1) → ∃ (g' : GH) (low' : Nat), killGo keep off ms (g.at low) = g'.at low' ∧ g'.next = g.next ∧ g'.hid = g.hid ∧ g'.ok ∧ (∀ f, g'.fams f = g.fams f) ∧ (∀ j, (∀ x ∈ ms, x.1 = j → x.2 ≤ off) → g'.get j = g.get j) ∧ min low fam ≤ low'
  | [], g, low, fam, ho, _ => ⟨g, low, rfl, rfl, rfl, ho, fun _ => rfl, fun _ _ => rfl, Nat.min_le_left _ _⟩
  | (i, n) :: ms, g, low, fam, ho, hm => by
    have hi : fam ≤ i := hm (i, n) List.mem_cons_self
    have hm' := fun x hx => hm x (List.mem_cons_of_mem (i, n) hx)
    simp only [killGo]
    cases hb : (Nat.blt off n && !Nat.beq i keep) with
    | false =>
      simp only [cond_false]
      obtain ⟨g', low', h1, h2, h3, h4, h5, h6, h7⟩ := killGo_spec2 keep off ms g low fam ho hm'
      exact ⟨g', low', h1, h2, h3, h4, h5, fun j hj => h6 j fun x hx => hj x (List.mem_cons_of_mem _ hx), h7⟩
    | true =>
      simp only [cond_true]
      have hlt : off < n := by
        simp only [Bool.and_eq_true] at hb
        exact blt_lt' hb.1
      have hget : ∀ j, j ≠ i → (g.set i dead).get j = g.get j := by
        intro j hj
        unfold GH.get
        rw [@AH.get_eq ⟨⟨0⟩⟩, @AH.get_eq ⟨⟨0⟩⟩]
        show (bif inSpans g.hid j then dead else T5.get (T5.set g.tr i dead) j) = (bif inSpans g.hid j then dead else T5.get g.tr j)
        rw [T5.get_set', if_neg (Ne.symm hj)]
      obtain ⟨g', low', h1, h2, h3, h4, h5, h6, h8⟩ := killGo_spec2 keep off ms (g.set i dead) (bif Nat.blt i low then i else low) fam (GH.ok_set ho) hm'
      refine ⟨g', low', h1, h2, h3, h4, h5, fun j hj => ?_, ?_⟩
      · refine (h6 j fun x hx => hj x (List.mem_cons_of_mem _ hx)).trans (hget j fun e => ?_)
        have := hj (i, n) List.mem_cons_self e.symm
        simp only at this
        omega
      · have : (bif Nat.blt i low then i else low) = min i low := low_min' i low
        rw [this] at h8
        omega
/-- A row of a family whose other members may be longer. -/
def FamS (g : GH) (s : Value) (vs : List Value) (t : TypeId) (fam : Nat) : Prop :=
  ∃ j, s = .slice (some ⟨j, 0, none⟩) vs.length (OPEN + 1) ∧ j < g.next ∧ g.get j = slackOb vs t fam ∧ vs ≠ [] ∧ fam ≤ j ∧ (∀ x ∈ g.fams fam, fam ≤ x.1 ∧ x.1 < g.next) ∧ (∀ x ∈ g.fams fam, x.1 = j → x.2 ≤ vs.length)
theorem FamS.read {g : GH} {s : Value} {vs : List Value} {t : TypeId} {fam : Nat} (h : FamS g s vs t fam) : SlR g s vs := by
  obtain ⟨j, h1, h2, h3, h4, h5, h6, h7⟩ := h
  exact .inr ⟨j, 0, _, _, h1, h2, h3, .inl rfl, by simp [slackOb], by simp [slackOb]⟩
/-- What is kept where only longer rows of the family are given up. -/
structure KeptG (g g' : GH) (fam n : Nat) : Prop where
  next : g.next ≤ g'.next
  gets : ∀ j, j < g.next → (∀ x ∈ g.fams fam, x.1 = j → x.2 ≤ n) → g'.get j = g.get j
  mem : ∀ x ∈ g'.fams fam, x ∈ g.fams fam ∨ (g.next ≤ x.1 ∧ x.1 < g'.next)
theorem KeptG.refl (g : GH) (fam n : Nat) : KeptG g g fam n := ⟨Nat.le_refl _, fun _ _ _ => rfl, fun x hx => .inl hx⟩
theorem KeptG.trans {a b c : GH} {fam n m : Nat} (h : KeptG a b fam n) (k : KeptG b c fam m) (hm : n ≤ m) : KeptG a c fam n := by
  refine ⟨Nat.le_trans h.next k.next, fun j hj hx => ?_, fun x hx => ?_⟩
  · have h1 := h.next
    refine (k.gets j (by omega) fun x hxm hxj => ?_).trans (h.gets j hj hx)
    rcases h.mem x hxm with h2 | h2
    · exact Nat.le_trans (hx x h2 hxj) hm
    · omega
  · have h1 := h.next
    have h3 := k.next
    rcases k.mem x hx with h2 | h2
    · rcases h.mem x h2 with h4 | h4
      · exact .inl h4
      · exact .inr ⟨h4.1, by omega⟩
    · exact .inr ⟨by omega, h2.2⟩
theorem FamS.kept {g g' : GH} {s : Value} {vs : List Value} {t : TypeId} {fam n : Nat} (h : FamS g s vs t fam) (k : KeptG g g' fam n) (hn : vs.length ≤ n) : FamS g' s vs t fam := by
  obtain ⟨j, h1, h2, h3, h4, h5, h6, h7⟩ := h
  have hk := k.next
  refine ⟨j, h1, by omega, (k.gets j h2 fun x hx hj => Nat.le_trans (h7 x hx hj) hn).trans h3, h4, h5, fun x hx => ?_, fun x hx hj => ?_⟩
  · rcases k.mem x hx with h8 | h8
    · have := h6 x h8; omega
    · omega
  · rcases k.mem x hx with h8 | h8
    · exact h7 x h8 hj
    · omega
section
variable {P : Program} {X : Caller} {Q : Out → Env → GH → Nat → Prop} {gd : Option (P3 × Bool)} {dd : Option P3} {l : List PI} {k : Nat} {sp : List (Nat × (Nat × Nat))} {wr : List Nat} {ks : List Fr} {e : Env} {g : GH} {lo : Nat}
theorem GR.appG {t : TypeId} {b : Nat} {s x : PO} {sv xv : Value} {vs new : List Value} {fam lw : Nat} (hg : wantF e gd = some true) (hs : ev e s = sv) (hx : ev e x = xv) (hown : FamS g sv vs t fam) (hnew : SlR g xv new) (hne : new ≠ [])
    (hc : new.all cellV = true) (hsz : (vs.length + new.length) * (b + 1) ≤ 1073741824) (hlo : lw ≤ lo) (hlw : lw ≤ fam) (ho : g.ok)
    (h : ∀ s' g' lo' sp wr, g'.ok → g'.next = g.next + 1 → KeptG g g' fam vs.length → FamS g' s' (vs ++ new) t fam → lw ≤ lo' → GR P X Q l (Nat.succ k) sp wr ks (putE e dd s') g' lo') :
    GR P X Q (⟨gd, dd, none, some (.app t 1 b s x), []⟩ :: l) k sp wr ks e g lo := by
  have hlen : lenF xv = some new.length := by
    rcases hnew with ⟨rfl, rfl⟩ | ⟨j, off, cap, ob, rfl, _⟩ <;> rfl
  have hstr : strOk 1 xv = true := by
    rcases hnew with ⟨rfl, rfl⟩ | ⟨j, off, cap, ob, rfl, _⟩ <;> rfl
  have hfirst : ∀ lo, firstF (g.at lo) 1 new.length xv = some new := by
    intro lo
    rcases hnew with ⟨rfl, rfl⟩ | ⟨j, off, cap, ob, rfl, h2, h3, h4, h5, h6⟩
    · exact absurd rfl hne
    · simp only [firstF, Nat.mul_one]
      have := SlR.readN (cap := cap) (lo := lo) h3 h4 h5 h6 (i := 0) (n := new.length) (by omega)
      rw [Nat.add_zero, List.drop_zero, List.take_length] at this
      exact this
  have hpos : 0 < new.length := List.length_pos_iff.2 hne
  have hz : Nat.beq new.length 0 = false := by rw [beq_d, decide_eq_false_iff_not]; omega
  obtain ⟨j, rfl, h2, h3, h4, h5, h6, h7⟩ := hown
  have hvl : 0 < vs.length := List.length_pos_iff.2 h4
  obtain ⟨g1, low1, k1, k2, k3, k4, k5, k6, k7⟩ := killGo_spec2 g.next vs.length (g.fams fam) g g.next fam ho fun x hx => (h6 x hx).1
  let filt := (g.fams fam).filter fun m => Nat.ble m.2 vs.length || Nat.beq m.1 g.next
  let G : GH := ⟨T5.set g1.tr g1.next (slackOb (vs ++ new) t fam), Nat.succ g1.next, g1.hid, T5.set (T5.set g1.fams fam filt) fam ((g1.next, vs.length + new.length) :: filt)⟩
  have hkill : killF (g.at g.next) fam (g.at g.next).next vs.length = (⟨g1.tr, g1.next, low1, g1.hid, T5.set g1.fams fam filt⟩ : AH) := by
    unfold killF
    show (killGo g.next vs.length (g.fams fam) (g.at g.next)).setFam fam _ = _
    rw [k1]
    rfl
  refine GR.wrote (v := .slice (some ⟨g1.next, 0, none⟩) (vs.length + new.length) (OPEN + 1)) (g' := G) (lo' := bif Nat.blt j low1 then j else low1) hg (Hp.mk (bnd (g.next + 1)) fun call => ?_) k3 (by show g.next ≤ g1.next + 1; omega) (h _ G _ _ _ ?_ (by show g1.next + 1 = _; omega) ?_ ?_ ?_)
  · have hb1 : Nat.ble (vs.length + new.length) vs.length = false := by rw [ble_d, decide_eq_false_iff_not]; omega
    have htake : takeN vs.length vs = some vs := by rw [takeN_len (Nat.le_refl _), List.take_length]
    have hz0 : Nat.beq vs.length 0 = false := by rw [beq_d, decide_eq_false_iff_not]; omega
    have hlt : Nat.blt j g.next = true := Nat.blt_eq ▸ h2
    simp only [runH, hs, hx, hstr, cond_true, appF, hlen]
    rw [mul_succ_le (by simpa using hsz), hz, hfirst]
    simp only [cond_false]
    rw [show (g.at g.next).get j = slackOb vs t fam from h3]
    unfold slackOb
    simp only [lenN_length, Nat.zero_add, Nat.mul_one, hb1, hz0, Bool.false_and, cond_false, htake]
    rw [show Nat.beq (OPEN + 1) (OPEN + 1) = true by simp, show Nat.beq t t = true by simp]
    simp only [cond_true, Bool.and_self, appMay, hkill]
    have hL : Nat.blt (g.at g.next).next (@LIM (bnd (g.next + 1))) = true := by rw [Nat.blt_eq]; exact Nat.lt_succ_self _
    rw [hL, show Nat.blt j (g.at g.next).next = true from hlt, hc]
    rw [show Nat.beq 0 0 = true from rfl]
    simp only [Bool.and_self, cond_true, lenN_length, List.length_append, T5.get_set', if_true]
    rfl
  · exact fun i hi => by
      show inSpans g1.hid i = false
      exact k4 i (by have : g1.next + 1 ≤ i := hi; omega)
  · have hget : ∀ j, G.get j = if g1.next = j then slackOb (vs ++ new) t fam else g1.get j := GH.get_push k4 (slackOb (vs ++ new) t fam)
    refine ⟨by show g.next ≤ g1.next + 1; omega, fun i hi hx => ?_, ?_⟩
    · rw [hget, if_neg (by omega)]
      exact k6 i hx
    · show ∀ x ∈ (T5.set (T5.set g1.fams fam filt) fam ((g1.next, vs.length + new.length) :: filt)) fam, _
      rw [T5.get_set', if_pos rfl]
      intro x hx
      rcases List.mem_cons.1 hx with rfl | hx
      · exact .inr ⟨by show g.next ≤ g1.next; omega, Nat.lt_succ_self _⟩
      · exact .inl ((List.mem_filter.1 hx).1)
  · have hget : ∀ j, G.get j = if g1.next = j then slackOb (vs ++ new) t fam else g1.get j := GH.get_push k4 (slackOb (vs ++ new) t fam)
    refine ⟨g1.next, by simp, Nat.lt_succ_self _, by rw [hget, if_pos rfl], by simp [hne], by omega, ?_, ?_⟩
    · show ∀ x ∈ (T5.set (T5.set g1.fams fam filt) fam ((g1.next, vs.length + new.length) :: filt)) fam, _
      rw [T5.get_set', if_pos rfl]
      intro x hx
      rcases List.mem_cons.1 hx with rfl | hx
      · exact ⟨by show fam ≤ g1.next; omega, Nat.lt_succ_self _⟩
      · have := h6 x ((List.mem_filter.1 hx).1)
        exact ⟨this.1, by show x.1 < g1.next + 1; omega⟩
    · show ∀ x ∈ (T5.set (T5.set g1.fams fam filt) fam ((g1.next, vs.length + new.length) :: filt)) fam, _
      rw [T5.get_set', if_pos rfl]
      intro x hx hxj
      rcases List.mem_cons.1 hx with rfl | hx
      · simp
      · have := h6 x ((List.mem_filter.1 hx).1)
        omega
  · have : (bif Nat.blt j low1 then j else low1) = min j low1 := low_min' j low1
    rw [this]
    omega
theorem AppD.famG {t : TypeId} {b : Nat} {sv xv : Value} {vs new : List Value} {fam lw : Nat} (hown : FamS g sv vs t fam) (hnew : SlR g xv new) (hne : new ≠ [])
    (hc : new.all cellV = true) (hsz : (vs.length + new.length) * (b + 1) ≤ 1073741824) (hlo : lw ≤ lo) (hlw : lw ≤ fam) (ho : g.ok)
    (h : ∀ s' g' lo' sp wr, g'.ok → g'.next = g.next + 1 → KeptG g g' fam vs.length → FamS g' s' (vs ++ new) t fam → lw ≤ lo' → Wk P X Q (.R l (k + 1) sp wr ks (putE e dd s') g' lo')) : AppD P X Q t 1 b sv xv [] dd l k sp wr ks e g lo := fun y z hy hz =>
  GR.appG rfl hy hz hown hnew hne hc hsz hlo hlw ho fun s' g' lo' sp wr h1 h2 h3 h4 h5 => (h s' g' lo' sp wr h1 h2 h3 h4 h5).R
/-- The first row of a family. -/
theorem GR.appN {t : TypeId} {b : Nat} {s x : PO} {xv : Value} {new : List Value} {lw : Nat} (hg : wantF e gd = some true) (hs : ev e s = .slice none 0 0) (hx : ev e x = xv) (hnew : SlR g xv new) (hne : new ≠ [])
    (hsz : new.length * (b + 1) ≤ 1073741824) (hlo : lw ≤ lo) (ho : g.ok)
    (h : ∀ s' g' lo' sp wr, g'.ok → g'.next = g.next + 1 → Kept g g' → FamS g' s' new t g.next → lw ≤ lo' → GR P X Q l (Nat.succ k) sp wr ks (putE e dd s') g' lo') :
    GR P X Q (⟨gd, dd, none, some (.app t 1 b s x), []⟩ :: l) k sp wr ks e g lo := by
  have hlen : lenF xv = some new.length := by
    rcases hnew with ⟨rfl, rfl⟩ | ⟨j, off, cap, ob, rfl, _⟩ <;> rfl
  have hstr : strOk 1 xv = true := by
    rcases hnew with ⟨rfl, rfl⟩ | ⟨j, off, cap, ob, rfl, _⟩ <;> rfl
  have hfirst : ∀ lo, firstF (g.at lo) 1 new.length xv = some new := by
    intro lo
    rcases hnew with ⟨rfl, rfl⟩ | ⟨j, off, cap, ob, rfl, h2, h3, h4, h5, h6⟩
    · exact absurd rfl hne
    · simp only [firstF, Nat.mul_one]
      have := SlR.readN (cap := cap) (lo := lo) h3 h4 h5 h6 (i := 0) (n := new.length) (by omega)
      rw [Nat.add_zero, List.drop_zero, List.take_length] at this
      exact this
  have hz : Nat.beq new.length 0 = false := by
    have := List.length_pos_iff.2 hne
    rw [beq_d, decide_eq_false_iff_not]; omega
  let G : GH := ⟨T5.set g.tr g.next (slackOb new t g.next), Nat.succ g.next, g.hid, T5.set g.fams g.next [(g.next, new.length)]⟩
  refine GR.more (v := .slice (some ⟨g.next, 0, none⟩) new.length (OPEN + 1)) (g' := G) hg (Hp.mk (bnd (g.next + 1)) fun call => ?_) rfl (Nat.le_succ _) (h _ G lo _ _ ?_ rfl ?_ ?_ hlo)
  · simp only [runH, hs, hx, hstr, cond_true, appF, hlen]
    rw [mul_succ_le (by simpa using hsz), hz, hfirst]
    simp only [cond_false]
    rw [show (Nat.beq 0 0 && Nat.beq 0 0) = true from rfl]
    simp only [cond_true, appNew]
    have : Nat.blt (g.at g.next).next (@LIM (bnd (g.next + 1))) = true := by rw [Nat.blt_eq]; exact Nat.lt_succ_self _
    rw [this]
    simp only [cond_true, lenN_length, Nat.zero_add]
    rfl
  · exact fun i hi => ho i (Nat.le_trans (Nat.le_succ _) hi)
  · have hget : ∀ j, G.get j = if g.next = j then slackOb new t g.next else g.get j := GH.get_push ho (slackOb new t g.next)
    refine ⟨Nat.le_succ _, fun i hi => by rw [hget, if_neg (by omega)], fun f hf => ?_⟩
    show (T5.set g.fams g.next [(g.next, new.length)]) f = _
    rw [T5.get_set', if_neg (by omega)]
  · have hget : ∀ j, G.get j = if g.next = j then slackOb new t g.next else g.get j := GH.get_push ho (slackOb new t g.next)
    refine ⟨g.next, rfl, Nat.lt_succ_self _, by rw [hget, if_pos rfl], hne, Nat.le_refl _, ?_, ?_⟩
    · show ∀ x ∈ (T5.set g.fams g.next [(g.next, new.length)]) g.next, _
      rw [T5.get_set', if_pos rfl]
      intro x hx
      rw [List.mem_singleton.1 hx]
      exact ⟨Nat.le_refl _, Nat.lt_succ_self _⟩
    · show ∀ x ∈ (T5.set g.fams g.next [(g.next, new.length)]) g.next, _
      rw [T5.get_set', if_pos rfl]
      intro x hx _
      rw [List.mem_singleton.1 hx]
      exact Nat.le_refl _
theorem AppD.famN {t : TypeId} {b : Nat} {xv : Value} {new : List Value} {lw : Nat} (hnew : SlR g xv new) (hne : new ≠ [])
    (hsz : new.length * (b + 1) ≤ 1073741824) (hlo : lw ≤ lo) (ho : g.ok)
    (h : ∀ s' g' lo' sp wr, g'.ok → g'.next = g.next + 1 → Kept g g' → FamS g' s' new t g.next → lw ≤ lo' → Wk P X Q (.R l (k + 1) sp wr ks (putE e dd s') g' lo')) : AppD P X Q t 1 b (.slice Option.none 0 0) xv [] dd l k sp wr ks e g lo := fun y z hy hz =>
  GR.appN rfl hy hz hnew hne hsz hlo ho fun s' g' lo' sp wr h1 h2 h3 h4 h5 => (h s' g' lo' sp wr h1 h2 h3 h4 h5).R
end
end Go.Ds
set_option maxRecDepth 100000
set_option maxHeartbeats 8000000
set_option linter.unusedSimpArgs false
set_option linter.unusedVariables false
namespace Go.Proofs.Yteeelcmnlomgmaa
open Go.Ds
/-! ## Snakes, counted -/
theorem first_of : ∀ {L : List Int} {x : Int}, x ∈ L → ∃ k, k < L.length ∧ L.getD k 0 = x ∧ ∀ j, j < k → L.getD j 0 ≠ x
  | a :: l, x, h => by
    by_cases c : a = x
    · exact ⟨0, by simp, by simpa using c, fun j hj => by omega⟩
    · obtain ⟨k, h1, h2, h3⟩ := first_of (List.mem_of_ne_of_mem (fun e => c e.symm) h)
      refine ⟨k + 1, by simpa using h1, by simpa using h2, fun j hj => ?_⟩
      cases j with
      | zero => simpa using c
      | succ j => simpa using h3 j (by omega)
theorem index_none {X : Caller} (hX : Xok X) (L : List Int) (hL : L.length ≤ 1000) (x : Int) (hx : x ∉ L) (s : Value) (g : GH) (hs : SlR g s (ints L)) :
    Rets Try.prog X 56 [s, .int .i64 x] g (fun v g' lo => g.next ≤ lo ∧ v = .int .i64 (-1)) := by
  refine Rets.run hX.pres p56 (hX.free 56 (by decide) _ _) rfl fun ho => ?_
  have hl := hs.len
  rw [ints_len] at hl
  simp +decide (disch := first | assumption | (apply GH.ok_push; assumption) | exact cellV_int _ _ | exact cellV_bool _ | omega) only [go_sem, ↓reduceIte, Nat.reduceEqDiff, Nat.reduceAdd, Int.reduceToNat, hl]
  refine Wk.loops (fun m e g' lo => g.next ≤ lo ∧ g' = g ∧ ∃ i : Nat, i + m = L.length ∧ (ev e (.s 0) = s ∧ ev e (.s 1) = .int .i64 x ∧ ev e (.s 7) = .int .i64 L.length ∧ ev e (.s 8) = .int .i64 i))
    (fun e g' lo => g.next ≤ lo) (n := L.length) ?_ ?_ ?_
  · exact ⟨Nat.le_refl _, rfl, 0, by omega, (by simp +decide (disch := first | assumption | (apply GH.ok_push; assumption) | exact cellV_int _ _ | exact cellV_bool _ | omega) only [go_sem, ↓reduceIte, Nat.reduceEqDiff, Nat.reduceAdd, Int.reduceToNat, hl]; first | done | exact rfl)⟩
  · rintro e g' lo hog - hlo
    simp +decide (disch := first | assumption | (apply GH.ok_push; assumption) | exact cellV_int _ _ | exact cellV_bool _ | omega) only [go_sem, ↓reduceIte, Nat.reduceEqDiff, Nat.reduceAdd, Int.reduceToNat]
    intro hx0
    exact ⟨hlo, rfl⟩
  · rintro m e g' lo ho' hl' ih out ⟨hlo, rfl, i, hi, he⟩
    by_cases c : i < L.length
    · obtain ⟨p, hp1, hp2⟩ := hs.at (ints_get (D := L) (i := i) c)
      have hp1 := hp1 (i : Int) rfl
      have hne2 : ¬ x = L.getD i 0 := fun h => hx (h ▸ mem_getD c)
      simp +decide (disch := first | assumption | (apply GH.ok_push; assumption) | exact cellV_int _ _ | exact cellV_bool _ | omega) only [go_sem, ↓reduceIte, Nat.reduceEqDiff, Nat.reduceAdd, Int.reduceToNat, he, hl, hp1, hp2, hne2]
      exact ih (m - 1) _ _ _ (by omega) ⟨hlo, rfl, i + 1, by omega, (by simp +decide (disch := first | assumption | (apply GH.ok_push; assumption) | exact cellV_int _ _ | exact cellV_bool _ | omega) only [go_sem, ↓reduceIte, Nat.reduceEqDiff, Nat.reduceAdd, Int.reduceToNat, he]; first | done | exact rfl)⟩
    · simp +decide (disch := first | assumption | (apply GH.ok_push; assumption) | exact cellV_int _ _ | exact cellV_bool _ | omega) only [go_sem, ↓reduceIte, Nat.reduceEqDiff, Nat.reduceAdd, Int.reduceToNat, he, hl]
      exact out _ _ _ hlo
theorem contains_rets {X : Caller} (hX : Xok X) (L : List Int) (hL : L.length ≤ 1000) (x : Int) (s : Value) (g : GH) (hs : SlR g s (ints L)) :
    Rets Try.prog X 75 [s, .int .i64 x] g (fun v g' lo => g.next ≤ lo ∧ v = .bool (decide (x ∈ L))) := by
  refine Rets.run hX.pres p75 (hX.free 75 (by decide) _ _) rfl fun ho => ?_
  by_cases c : x ∈ L
  · rw [decide_eq_true c]
    obtain ⟨k, h1, h2, h3⟩ := first_of c
    simp +decide (disch := first | assumption | (apply GH.ok_push; assumption) | exact cellV_int _ _ | exact cellV_bool _ | omega) only [go_sem, ↓reduceIte, Nat.reduceEqDiff, Nat.reduceAdd, Int.reduceToNat]
    refine CallD.calm (index_rets hX L hL k h1 x h2 h3 s _ hs) ?_
    rintro v G1 hx1 rfl
    have hn1 := hx1.next
    simp +decide (disch := first | assumption | (apply GH.ok_push; assumption) | exact cellV_int _ _ | exact cellV_bool _ | omega) only [go_sem, ↓reduceIte, Nat.reduceEqDiff, Nat.reduceAdd, Int.reduceToNat]
    intro hx0
    exact ⟨Nat.le_refl _, rfl⟩
  · rw [decide_eq_false c]
    simp +decide (disch := first | assumption | (apply GH.ok_push; assumption) | exact cellV_int _ _ | exact cellV_bool _ | omega) only [go_sem, ↓reduceIte, Nat.reduceEqDiff, Nat.reduceAdd, Int.reduceToNat]
    refine CallD.calm (index_none hX L hL x c s _ hs) ?_
    rintro v G1 hx1 rfl
    have hn1 := hx1.next
    simp +decide (disch := first | assumption | (apply GH.ok_push; assumption) | exact cellV_int _ _ | exact cellV_bool _ | omega) only [go_sem, ↓reduceIte, Nat.reduceEqDiff, Nat.reduceAdd, Int.reduceToNat]
    intro hx0
    exact ⟨Nat.le_refl _, rfl⟩
def sumTo (f : Nat → Nat) : Nat → Nat
  | 0 => 0
  | k + 1 => sumTo f k + f k
def valP (n : Nat) : Nat → List Int → Nat
  | 0, L => if snakeB L = true then 1 else 0
  | m + 1, L => if snakeB L = true then sumTo (fun k => if ((k : Int) + 1) ∈ L ∨ (-((k : Int) + 1)) ∈ L then 0 else valP n m (L ++ [(k : Int) + 1]) + valP n m (L ++ [-((k : Int) + 1)])) n else 0
def termP (n m : Nat) (L : List Int) (k : Nat) : Nat := if ((k : Int) + 1) ∈ L ∨ (-((k : Int) + 1)) ∈ L then 0 else valP n m (L ++ [(k : Int) + 1]) + valP n m (L ++ [-((k : Int) + 1)])
theorem valP_succ (n m : Nat) (L : List Int) : valP n (m + 1) L = if snakeB L = true then sumTo (termP n m L) n else 0 := rfl
theorem sumTo_le {f : Nat → Nat} {B : Nat} (h : ∀ k, f k ≤ B) : ∀ n, sumTo f n ≤ n * B
  | 0 => by simp [sumTo]
  | n + 1 => by
    have := sumTo_le h n
    have := h n
    rw [Nat.succ_mul]; simp only [sumTo]; omega
theorem valP_le (n : Nat) (hn : n ≤ 6) : ∀ m L, valP n m L ≤ 12 ^ m
  | 0, L => by unfold valP; split <;> simp
  | m + 1, L => by
    rw [valP_succ]
    split
    · have hk : ∀ k, termP n m L k ≤ 2 * 12 ^ m := by
        intro k
        unfold termP
        split
        · omega
        · have := valP_le n hn m (L ++ [(k : Int) + 1])
          have := valP_le n hn m (L ++ [-((k : Int) + 1)])
          omega
      have h1 := sumTo_le hk n
      have h2 : n * (2 * 12 ^ m) ≤ 6 * (2 * 12 ^ m) := Nat.mul_le_mul_right _ hn
      rw [Nat.pow_succ]
      omega
    · exact Nat.zero_le _
theorem pow12 {m : Nat} (h : m ≤ 6) : 12 ^ m ≤ 3000000 := Nat.le_trans (Nat.pow_le_pow_right (by omega) h) (by decide)
theorem KeptG.of {g g' : GH} {fam n : Nat} (h : Kept g g') (hf : fam < g.next) : KeptG g g' fam n := ⟨h.next, fun j hj _ => h.gets j hj, fun x hx => .inl (by rw [h.fams fam hf] at hx; exact hx)⟩
theorem snakesFam_rets {X : Caller} (hX : Xok X) (n : Nat) (hn : n ≤ 6) : ∀ (m : Nat) (L : List Int) (s : Value) (g : GH) (fam : Nat), L.length + m = n → FamS g s (ints L) 3 fam →
    Rets Try.prog X 64 [s, .int .i64 n] g (fun v g' lo => (fam ≤ lo ∧ KeptG g g' fam L.length) ∧ v = .int .i64 (valP n m L)) := by
  intro m
  induction m with
  | zero =>
    intro L s g fam hLm hs
    refine Rets.run hX.pres p64 (hX.free 64 (by decide) _ _) rfl fun ho => ?_
    have hl := hs.read.len
    rw [ints_len] at hl
    have hfl : fam < g.next := by obtain ⟨j, h1, h2, h3, h4, h5, h6, h7⟩ := hs; omega
    simp +decide (disch := first | assumption | (apply GH.ok_push; assumption) | exact cellV_int _ _ | exact cellV_bool _ | omega) only [go_sem, ↓reduceIte, Nat.reduceEqDiff, Nat.reduceAdd, Int.reduceToNat]
    refine CallD.calm (isSnake_rets hX L (by omega) s _ hs.read) ?_
    rintro v G hx rfl
    have hn1 := hx.next
    have hkG : KeptG g G fam L.length := KeptG.of hx.kept hfl
    unfold valP
    cases hb : snakeB L with
    | false =>
      simp +decide (disch := first | assumption | (apply GH.ok_push; assumption) | exact cellV_int _ _ | exact cellV_bool _ | omega) only [go_sem, ↓reduceIte, Nat.reduceEqDiff, Nat.reduceAdd, Int.reduceToNat]
      intro hx0
      exact ⟨⟨by omega, hkG⟩, rfl⟩
    | true =>
      have e1 : (L.length : Int) = n := by omega
      simp +decide (disch := first | assumption | (apply GH.ok_push; assumption) | exact cellV_int _ _ | exact cellV_bool _ | omega) only [go_sem, ↓reduceIte, Nat.reduceEqDiff, Nat.reduceAdd, Int.reduceToNat, hl, e1]
      intro hx0
      exact ⟨⟨by omega, hkG⟩, rfl⟩
  | succ m ihm =>
    intro L s g fam hLm hs
    refine Rets.run hX.pres p64 (hX.free 64 (by decide) _ _) rfl fun ho => ?_
    have hl := hs.read.len
    rw [ints_len] at hl
    have hfl : fam < g.next := by obtain ⟨j, h1, h2, h3, h4, h5, h6, h7⟩ := hs; omega
    simp +decide (disch := first | assumption | (apply GH.ok_push; assumption) | exact cellV_int _ _ | exact cellV_bool _ | omega) only [go_sem, ↓reduceIte, Nat.reduceEqDiff, Nat.reduceAdd, Int.reduceToNat]
    refine CallD.calm (isSnake_rets hX L (by omega) s _ hs.read) ?_
    rintro v G hx rfl
    have hn1 := hx.next
    have hkG : KeptG g G fam L.length := KeptG.of hx.kept hfl
    have hsG := hs.kept hkG (by rw [ints_len]; exact Nat.le_refl _)
    rw [valP_succ]
    cases hb : snakeB L with
    | false =>
      simp +decide (disch := first | assumption | (apply GH.ok_push; assumption) | exact cellV_int _ _ | exact cellV_bool _ | omega) only [go_sem, ↓reduceIte, Nat.reduceEqDiff, Nat.reduceAdd, Int.reduceToNat]
      intro hx0
      exact ⟨⟨by omega, hkG⟩, rfl⟩
    | true =>
      have e1 : ¬ (L.length : Int) = n := by omega
      rw [if_pos rfl]
      simp +decide (disch := first | assumption | (apply GH.ok_push; assumption) | exact cellV_int _ _ | exact cellV_bool _ | omega) only [go_sem, ↓reduceIte, Nat.reduceEqDiff, Nat.reduceAdd, Int.reduceToNat, hl, e1]
      refine Wk.loops (fun r e g' lo => fam ≤ lo ∧ KeptG g g' fam L.length ∧ FamS g' s (ints L) 3 fam ∧ ∃ k : Nat, k + r = n ∧ (ev e (.s 0) = s ∧ ev e (.s 1) = .int .i64 n ∧ ev e (.s 5) = .int .i64 (sumTo (termP n m L) k : Nat) ∧ ev e (.s 6) = .int .i64 (k + 1)))
        (fun e g' lo => fam ≤ lo ∧ KeptG g g' fam L.length ∧ ev e (.s 5) = .int .i64 (sumTo (termP n m L) n : Nat)) (n := n) ?_ ?_ ?_
      · exact ⟨by omega, hkG, hsG, 0, by omega, (by simp +decide (disch := first | assumption | (apply GH.ok_push; assumption) | exact cellV_int _ _ | exact cellV_bool _ | omega) only [go_sem, ↓reduceIte, Nat.reduceEqDiff, Nat.reduceAdd, Int.reduceToNat]; first | done | exact rfl)⟩
      · rintro e g' lo hog - ⟨hlo, hk, h5⟩
        simp +decide (disch := first | assumption | (apply GH.ok_push; assumption) | exact cellV_int _ _ | exact cellV_bool _ | omega) only [go_sem, ↓reduceIte, Nat.reduceEqDiff, Nat.reduceAdd, Int.reduceToNat, h5]
        intro hx0
        exact ⟨⟨hlo, hk⟩, rfl⟩
      · rintro r e g' lo ho' hl' ih out ⟨hlo, hk, hs', k, hkr, he⟩
        have hfl1 : fam < g'.next := by have := hk.next; omega
        have hstep : sumTo (termP n m L) (k + 1) = sumTo (termP n m L) k + termP n m L k := rfl
        by_cases ck : k < n
        · have hp12 := pow12 (m := m + 1) (by omega)
          rw [Nat.pow_succ] at hp12
          have htb : ∀ k, termP n m L k ≤ 2 * 12 ^ m := by
            intro k
            unfold termP
            split
            · omega
            · have := valP_le n hn m (L ++ [(k : Int) + 1])
              have := valP_le n hn m (L ++ [-((k : Int) + 1)])
              omega
          have hsb : sumTo (termP n m L) k ≤ 3000000 := by
            have h1 := sumTo_le htb k
            have h2 : k * (2 * 12 ^ m) ≤ 6 * (2 * 12 ^ m) := Nat.mul_le_mul_right _ (by omega)
            omega
          obtain ⟨S, hS⟩ : ∃ S, sumTo (termP n m L) k = S := ⟨_, rfl⟩
          rw [hS] at he hstep hsb
          have hneg : (0 : Int) - ((k : Int) + 1) = -((k : Int) + 1) := by omega
          simp +decide (disch := first | assumption | (apply GH.ok_push; assumption) | exact cellV_int _ _ | exact cellV_bool _ | omega) only [go_sem, ↓reduceIte, Nat.reduceEqDiff, Nat.reduceAdd, Int.reduceToNat, he]
          refine CallD.calm (contains_rets hX L (by omega) _ s _ hs'.read) ?_
          rintro v G1 hx1 rfl
          have hn2 := hx1.next
          have hk1 : KeptG g G1 fam L.length := hk.trans (KeptG.of hx1.kept hfl1) (Nat.le_refl _)
          have hs1 := hs'.kept (KeptG.of (n := L.length) hx1.kept hfl1) (by rw [ints_len]; exact Nat.le_refl _)
          by_cases c1 : ((k : Int) + 1) ∈ L
          · rw [decide_eq_true c1]
            have ht : termP n m L k = 0 := if_pos (.inl c1)
            simp +decide (disch := first | assumption | (apply GH.ok_push; assumption) | exact cellV_int _ _ | exact cellV_bool _ | omega) only [go_sem, ↓reduceIte, Nat.reduceEqDiff, Nat.reduceAdd, Int.reduceToNat, he]
            exact ih (r - 1) _ _ _ (by omega) ⟨hlo, hk1, hs1, k + 1, by omega, by rw [hstep, ht]; exact (by simp +decide (disch := first | assumption | (apply GH.ok_push; assumption) | exact cellV_int _ _ | exact cellV_bool _ | omega) only [go_sem, ↓reduceIte, Nat.reduceEqDiff, Nat.reduceAdd, Int.reduceToNat, he]; first | done | exact rfl)⟩
          · rw [decide_eq_false c1]
            simp +decide (disch := first | assumption | (apply GH.ok_push; assumption) | exact cellV_int _ _ | exact cellV_bool _ | omega) only [go_sem, ↓reduceIte, Nat.reduceEqDiff, Nat.reduceAdd, Int.reduceToNat, he, hneg]
            refine CallD.calm (contains_rets hX L (by omega) _ s _ hs1.read) ?_
            rintro v G2 hx2 rfl
            have hn3 := hx2.next
            have hfl2 : fam < G1.next := by omega
            have hk2 : KeptG g G2 fam L.length := hk1.trans (KeptG.of hx2.kept hfl2) (Nat.le_refl _)
            have hs2 := hs1.kept (KeptG.of (n := L.length) hx2.kept hfl2) (by rw [ints_len]; exact Nat.le_refl _)
            have hoG2 : G2.ok := hx2.ok (hx1.ok ho')
            by_cases c2 : (-((k : Int) + 1)) ∈ L
            · rw [decide_eq_true c2]
              have ht : termP n m L k = 0 := if_pos (.inr c2)
              simp +decide (disch := first | assumption | (apply GH.ok_push; assumption) | exact cellV_int _ _ | exact cellV_bool _ | omega) only [go_sem, ↓reduceIte, Nat.reduceEqDiff, Nat.reduceAdd, Int.reduceToNat, he]
              exact ih (r - 1) _ _ _ (by omega) ⟨hlo, hk2, hs2, k + 1, by omega, by rw [hstep, ht]; exact (by simp +decide (disch := first | assumption | (apply GH.ok_push; assumption) | exact cellV_int _ _ | exact cellV_bool _ | omega) only [go_sem, ↓reduceIte, Nat.reduceEqDiff, Nat.reduceAdd, Int.reduceToNat, he]; first | done | exact rfl)⟩
            · rw [decide_eq_false c2]
              have ht : termP n m L k = valP n m (L ++ [(k : Int) + 1]) + valP n m (L ++ [-((k : Int) + 1)]) := if_neg (fun h => h.elim c1 c2)
              have hva := valP_le n hn m (L ++ [(k : Int) + 1])
              have hvb := valP_le n hn m (L ++ [-((k : Int) + 1)])
              obtain ⟨va, hva2⟩ : ∃ va, valP n m (L ++ [(k : Int) + 1]) = va := ⟨_, rfl⟩
              obtain ⟨vb, hvb2⟩ : ∃ vb, valP n m (L ++ [-((k : Int) + 1)]) = vb := ⟨_, rfl⟩
              rw [hva2] at hva ht
              rw [hvb2] at hvb ht
              have hadd : (S : Int) + ((va : Int) + vb) = S + va + vb := by omega
              simp +decide (disch := first | assumption | (apply GH.ok_push; assumption) | exact cellV_int _ _ | exact cellV_bool _ | omega) only [go_sem, ↓reduceIte, Nat.reduceEqDiff, Nat.reduceAdd, Int.reduceToNat, he, hneg]
              have hfl3 : fam < G2.next := by omega
              have hpk := (Kept.refl G2).push hoG2 (cellsOb [.int .i64 ((k : Int) + 1), .int .i64 (-((k : Int) + 1))] 3)
              have hk3 := hk2.trans (KeptG.of hpk hfl3) (Nat.le_refl _)
              have hs3 := hs2.kept (KeptG.of (n := L.length) hpk hfl3) (by rw [ints_len]; exact Nat.le_refl _)
              have hJ0 : ∀ x ∈ (G2.push (cellsOb [.int .i64 ((k : Int) + 1), .int .i64 (-((k : Int) + 1))] 3)).fams fam, x.1 ≠ G2.next := by
                intro x hx
                obtain ⟨j, q1, q2, q3, q4, q5, q6, q7⟩ := hs2
                have := (q6 x hx).2
                omega
              refine Wk.loops (fun r2 e g' lo => fam ≤ lo ∧ KeptG g g' fam L.length ∧ FamS g' s (ints L) 3 fam ∧ G2.next < g'.next ∧ (∀ x ∈ g'.fams fam, x.1 ≠ G2.next) ∧ g'.get G2.next = cellsOb [.int .i64 ((k : Int) + 1), .int .i64 (-((k : Int) + 1))] 3 ∧ ∃ q : Nat, q + r2 = 2 ∧ (ev e (.s 0) = s ∧ ev e (.s 1) = .int .i64 n ∧ ev e (.s 5) = .int .i64 (S + (if q = 0 then 0 else if q = 1 then va else va + vb) : Nat) ∧ ev e (.s 6) = .int .i64 (k + 1) ∧ ev e (.s 33) = .slice (some ⟨G2.next, 0, none⟩) 2 2 ∧ ev e (.s 34) = .int .i64 2 ∧ ev e (.s 35) = .int .i64 q))
                (fun e g' lo => fam ≤ lo ∧ KeptG g g' fam L.length ∧ FamS g' s (ints L) 3 fam ∧ (ev e (.s 0) = s ∧ ev e (.s 1) = .int .i64 n ∧ ev e (.s 5) = .int .i64 (S + (va + vb) : Nat) ∧ ev e (.s 6) = .int .i64 (k + 1))) (n := 2) ?_ ?_ ?_
              · exact ⟨by omega, hk3, hs3, Nat.lt_succ_self _, hJ0, by rw [GH.get_push hoG2, if_pos rfl], 0, rfl, (by simp +decide (disch := first | assumption | (apply GH.ok_push; assumption) | exact cellV_int _ _ | exact cellV_bool _ | omega) only [go_sem, ↓reduceIte, Nat.reduceEqDiff, Nat.reduceAdd, Int.reduceToNat, he]; first | done | exact rfl)⟩
              · rintro e2 g3 lo3 hog3 - ⟨hlo3, hk4, hs4, he4⟩
                simp +decide (disch := first | assumption | (apply GH.ok_push; assumption) | exact cellV_int _ _ | exact cellV_bool _ | omega) only [go_sem, ↓reduceIte, Nat.reduceEqDiff, Nat.reduceAdd, Int.reduceToNat, he4]
                exact ih (r - 1) _ _ _ (by omega) ⟨hlo3, hk4, hs4, k + 1, by omega, by rw [hstep, ht]; exact (by simp +decide (disch := first | assumption | (apply GH.ok_push; assumption) | exact cellV_int _ _ | exact cellV_bool _ | omega) only [go_sem, ↓reduceIte, Nat.reduceEqDiff, Nat.reduceAdd, Int.reduceToNat, he4]; first | done | exact rfl)⟩
              · rintro r2 e2 g3 lo3 ho3 hl3 ih2 out2 ⟨hlo3, hk4, hs4, hJn, hJ, hget, q, hq, he4⟩
                have hcom : ∀ (x : Int) (w : Nat) (q' : Nat), valP n m (L ++ [x]) = w → w ≤ 3000000 → True := fun _ _ _ _ _ => trivial
                have hs4' := hs4
                obtain ⟨j0, p1, p2, p3, p4, p5, p6, p7⟩ := hs4'
                by_cases cq : q = 0
                · subst cq
                  have hia := iaddrS_at (j := G2.next) (n := 2) (c := 2) (m := 0) (x := (0 : Int)) rfl (by omega)
                  simp +decide (disch := first | assumption | (apply GH.ok_push; assumption) | exact cellV_int _ _ | exact cellV_bool _ | omega) only [go_sem, ↓reduceIte, Nat.reduceEqDiff, Nat.reduceAdd, Int.reduceToNat, he4, hia, hget]
                  have hpk4 := (Kept.refl g3).push ho3 (cellsOb [.int .i64 ((k : Int) + 1)] 3)
                  have hs5 := hs4.kept (KeptG.of (n := L.length) hpk4 (by omega)) (by rw [ints_len]; exact Nat.le_refl _)
                  refine AppD.famG (lw := fam) hs5 (SlR.one ho3 _ _) (by simp) rfl (by simp [ints_len]; omega) hlo3 (Nat.le_refl _) (GH.ok_push ho3) (fun s' g4 lo4 sp wr ho4 hn4 hk5 hs6 hlo4 => ?_)
                  rw [ints_len] at hk5
                  rw [show ints L ++ [Value.int .i64 ((k : Int) + 1)] = ints (L ++ [((k : Int) + 1)]) by rw [ints_app]; rfl] at hs6
                  have hnp : (g3.push (cellsOb [.int .i64 ((k : Int) + 1)] 3)).next = g3.next + 1 := rfl
                  simp +decide (disch := first | assumption | (apply GH.ok_push; assumption) | exact cellV_int _ _ | exact cellV_bool _ | omega) only [go_sem, ↓reduceIte, Nat.reduceEqDiff, Nat.reduceAdd, Int.reduceToNat, he4]
                  refine CallD.call (ihm (L ++ [((k : Int) + 1)]) s' g4 fam (by simp; omega) hs6) ?_
                  rintro v g5 lo5 hx5 ⟨⟨hlo5, hk6⟩, rfl⟩
                  rw [hva2]
                  rw [List.length_append] at hk6
                  have hk7 := (KeptG.of (n := L.length) hpk4 (show fam < g3.next by omega)).trans (hk5.trans hk6 (by simp)) (Nat.le_refl _)
                  have hn7 := hk7.next
                  simp +decide (disch := first | assumption | (apply GH.ok_push; assumption) | exact cellV_int _ _ | exact cellV_bool _ | omega) only [go_sem, ↓reduceIte, Nat.reduceEqDiff, Nat.reduceAdd, Int.reduceToNat, he4]
                  refine ih2 (r2 - 1) _ _ _ (by omega) ⟨by omega, hk4.trans hk7 (Nat.le_refl _), hs4.kept hk7 (by rw [ints_len]; exact Nat.le_refl _), by omega, fun x hx => ?_, ?_, 1, by omega, (by simp +decide (disch := first | assumption | (apply GH.ok_push; assumption) | exact cellV_int _ _ | exact cellV_bool _ | omega) only [go_sem, ↓reduceIte, Nat.reduceEqDiff, Nat.reduceAdd, Int.reduceToNat, he4]; first | done | exact rfl)⟩
                  · rcases hk7.mem x hx with h | h
                    · exact hJ x h
                    · omega
                  · rw [hk7.gets _ hJn (fun x hx hxj => absurd hxj (hJ x hx))]
                    exact hget
                · by_cases cq1 : q = 1
                  · subst cq1
                    have hia := iaddrS_at (j := G2.next) (n := 2) (c := 2) (m := 1) (x := (1 : Int)) rfl (by omega)
                    simp +decide (disch := first | assumption | (apply GH.ok_push; assumption) | exact cellV_int _ _ | exact cellV_bool _ | omega) only [go_sem, ↓reduceIte, Nat.reduceEqDiff, Nat.reduceAdd, Int.reduceToNat, he4, hia, hget]
                    have hpk4 := (Kept.refl g3).push ho3 (cellsOb [.int .i64 (-((k : Int) + 1))] 3)
                    have hs5 := hs4.kept (KeptG.of (n := L.length) hpk4 (by omega)) (by rw [ints_len]; exact Nat.le_refl _)
                    refine AppD.famG (lw := fam) hs5 (SlR.one ho3 _ _) (by simp) rfl (by simp [ints_len]; omega) hlo3 (Nat.le_refl _) (GH.ok_push ho3) (fun s' g4 lo4 sp wr ho4 hn4 hk5 hs6 hlo4 => ?_)
                    rw [ints_len] at hk5
                    rw [show ints L ++ [Value.int .i64 (-((k : Int) + 1))] = ints (L ++ [(-((k : Int) + 1))]) by rw [ints_app]; rfl] at hs6
                    have hnp : (g3.push (cellsOb [.int .i64 (-((k : Int) + 1))] 3)).next = g3.next + 1 := rfl
                    simp +decide (disch := first | assumption | (apply GH.ok_push; assumption) | exact cellV_int _ _ | exact cellV_bool _ | omega) only [go_sem, ↓reduceIte, Nat.reduceEqDiff, Nat.reduceAdd, Int.reduceToNat, he4]
                    refine CallD.call (ihm (L ++ [(-((k : Int) + 1))]) s' g4 fam (by simp; omega) hs6) ?_
                    rintro v g5 lo5 hx5 ⟨⟨hlo5, hk6⟩, rfl⟩
                    rw [hvb2]
                    rw [List.length_append] at hk6
                    have hk7 := (KeptG.of (n := L.length) hpk4 (show fam < g3.next by omega)).trans (hk5.trans hk6 (by simp)) (Nat.le_refl _)
                    have hn7 := hk7.next
                    simp +decide (disch := first | assumption | (apply GH.ok_push; assumption) | exact cellV_int _ _ | exact cellV_bool _ | omega) only [go_sem, ↓reduceIte, Nat.reduceEqDiff, Nat.reduceAdd, Int.reduceToNat, he4]
                    refine ih2 (r2 - 1) _ _ _ (by omega) ⟨by omega, hk4.trans hk7 (Nat.le_refl _), hs4.kept hk7 (by rw [ints_len]; exact Nat.le_refl _), by omega, fun x hx => ?_, ?_, 2, by omega, (by simp +decide (disch := first | assumption | (apply GH.ok_push; assumption) | exact cellV_int _ _ | exact cellV_bool _ | omega) only [go_sem, ↓reduceIte, Nat.reduceEqDiff, Nat.reduceAdd, Int.reduceToNat, he4, hadd]; first | done | exact rfl)⟩
                    · rcases hk7.mem x hx with h | h
                      · exact hJ x h
                      · omega
                    · rw [hk7.gets _ hJn (fun x hx hxj => absurd hxj (hJ x hx))]
                      exact hget
                  · have : q = 2 := by omega
                    subst this
                    simp +decide (disch := first | assumption | (apply GH.ok_push; assumption) | exact cellV_int _ _ | exact cellV_bool _ | omega) only [go_sem, ↓reduceIte, Nat.reduceEqDiff, Nat.reduceAdd, Int.reduceToNat, he4]
                    exact out2 _ _ _ ⟨hlo3, hk4, hs4, (by simp +decide (disch := first | assumption | (apply GH.ok_push; assumption) | exact cellV_int _ _ | exact cellV_bool _ | omega) only [go_sem, ↓reduceIte, Nat.reduceEqDiff, Nat.reduceAdd, Int.reduceToNat, he4]; first | done | exact rfl)⟩
        · have : k = n := by omega
          subst this
          simp +decide (disch := first | assumption | (apply GH.ok_push; assumption) | exact cellV_int _ _ | exact cellV_bool _ | omega) only [go_sem, ↓reduceIte, Nat.reduceEqDiff, Nat.reduceAdd, Int.reduceToNat, he]
          exact out _ _ _ ⟨hlo, hk, (by simp +decide (disch := first | assumption | (apply GH.ok_push; assumption) | exact cellV_int _ _ | exact cellV_bool _ | omega) only [go_sem, ↓reduceIte, Nat.reduceEqDiff, Nat.reduceAdd, Int.reduceToNat, he]; first | done | exact rfl)⟩
end Go.Proofs.Yteeelcmnlomgmaa
set_option maxRecDepth 100000
set_option maxHeartbeats 8000000
set_option linter.unusedSimpArgs false
set_option linter.unusedVariables false
namespace Go.Proofs.Yteeelcmnlomgmaa
open Go.Ds
theorem fam_keeps {g g' : GH} {s : Value} {vs : List Value} {t : TypeId} {fam n : Nat} (h : FamS g s vs t fam) (k : KeptG g g' fam n) {j : Nat} (hj : j < fam) : g'.get j = g.get j := by
  obtain ⟨j0, p1, p2, p3, p4, p5, p6, p7⟩ := h
  exact k.gets j (by omega) fun x hx hxj => by have := (p6 x hx).1; omega
theorem snakesNil_rets {X : Caller} (hX : Xok X) (n : Nat) (hn : n ≤ 6) (g : GH) : Rets Try.prog X 64 [.slice none 0 0, .int .i64 n] g (fun v g' lo => g.next ≤ lo ∧ v = .int .i64 (valP n n [])) := by
  have hs0 : ∀ g : GH, SlR g (.slice none 0 0) (ints []) := fun g => SlR.nil
  have hl : lenLF (.slice none 0 0) = some (.int .i64 0) := rfl
  have hsn : snakeB [] = true := by decide
  refine Rets.run hX.pres p64 (hX.free 64 (by decide) _ _) rfl fun ho => ?_
  simp +decide (disch := first | assumption | (apply GH.ok_push; assumption) | exact cellV_int _ _ | exact cellV_bool _ | omega) only [go_sem, ↓reduceIte, Nat.reduceEqDiff, Nat.reduceAdd, Int.reduceToNat]
  refine CallD.calm (isSnake_rets hX [] (by simp) _ _ (hs0 _)) ?_
  rintro v G hx rfl
  have hn1 := hx.next
  rw [hsn]
  by_cases c0 : n = 0
  · subst c0
    have hv : valP 0 0 [] = 1 := if_pos hsn
    rw [hv]
    simp +decide (disch := first | assumption | (apply GH.ok_push; assumption) | exact cellV_int _ _ | exact cellV_bool _ | omega) only [go_sem, ↓reduceIte, Nat.reduceEqDiff, Nat.reduceAdd, Int.reduceToNat, hl]
    intro hx0
    exact ⟨Nat.le_refl _, rfl⟩
  · obtain ⟨m, rfl⟩ : ∃ m, n = m + 1 := ⟨n - 1, by omega⟩
    obtain ⟨n, hnm⟩ : ∃ n, m + 1 = n := ⟨_, rfl⟩
    have hval : valP n n [] = sumTo (termP n m []) n := by
      conv => lhs; rw [show valP n n [] = valP n (m + 1) [] by rw [hnm]]
      rw [valP_succ, if_pos hsn]
    rw [hnm] at hn c0
    have hnm' : ((m : Int) + 1) = (n : Int) := by omega
    have hv2 : (valP (m + 1) (m + 1) [] : Nat) = sumTo (termP n m []) n := by rw [hnm]; exact hval
    rw [hv2]
    have e1 : ¬ (0 : Int) = n := by omega
    simp +decide (disch := first | assumption | (apply GH.ok_push; assumption) | exact cellV_int _ _ | exact cellV_bool _ | omega) only [go_sem, ↓reduceIte, Nat.reduceEqDiff, Nat.reduceAdd, Int.reduceToNat, hl, e1, hnm']
    refine Wk.loops (fun r e g' lo => g.next ≤ lo ∧ Keeps g g' ∧ ∃ k : Nat, k + r = n ∧ (ev e (.s 0) = .slice none 0 0 ∧ ev e (.s 1) = .int .i64 n ∧ ev e (.s 5) = .int .i64 (sumTo (termP n m []) k : Nat) ∧ ev e (.s 6) = .int .i64 (k + 1)))
      (fun e g' lo => g.next ≤ lo ∧ ev e (.s 5) = .int .i64 (sumTo (termP n m []) n : Nat)) (n := n) ?_ ?_ ?_
    · exact ⟨Nat.le_refl _, hx.kept.keeps, 0, by omega, (by simp +decide (disch := first | assumption | (apply GH.ok_push; assumption) | exact cellV_int _ _ | exact cellV_bool _ | omega) only [go_sem, ↓reduceIte, Nat.reduceEqDiff, Nat.reduceAdd, Int.reduceToNat, hnm']; first | done | exact rfl)⟩
    · rintro e g' lo hog - ⟨hlo, h5⟩
      simp +decide (disch := first | assumption | (apply GH.ok_push; assumption) | exact cellV_int _ _ | exact cellV_bool _ | omega) only [go_sem, ↓reduceIte, Nat.reduceEqDiff, Nat.reduceAdd, Int.reduceToNat, h5]
      intro hx0
      exact ⟨hlo, rfl⟩
    · rintro r e g' lo ho' hl' ih out ⟨hlo, hk, k, hkr, he⟩
      have hkn := hk.next
      have hstep : sumTo (termP n m []) (k + 1) = sumTo (termP n m []) k + termP n m [] k := rfl
      by_cases ck : k < n
      · have hp12 := pow12 (m := m + 1) (by omega)
        rw [Nat.pow_succ] at hp12
        have htb : ∀ k, termP n m [] k ≤ 2 * 12 ^ m := by
          intro k
          unfold termP
          split
          · omega
          · have := valP_le n hn m ([] ++ [(k : Int) + 1])
            have := valP_le n hn m ([] ++ [-((k : Int) + 1)])
            omega
        have hsb : sumTo (termP n m []) k ≤ 3000000 := by
          have h1 := sumTo_le htb k
          have h2 : k * (2 * 12 ^ m) ≤ 6 * (2 * 12 ^ m) := Nat.mul_le_mul_right _ (by omega)
          omega
        obtain ⟨S, hS⟩ : ∃ S, sumTo (termP n m []) k = S := ⟨_, rfl⟩
        rw [hS] at he hstep hsb
        have hneg : (0 : Int) - ((k : Int) + 1) = -((k : Int) + 1) := by omega
        simp +decide (disch := first | assumption | (apply GH.ok_push; assumption) | exact cellV_int _ _ | exact cellV_bool _ | omega) only [go_sem, ↓reduceIte, Nat.reduceEqDiff, Nat.reduceAdd, Int.reduceToNat, he]
        refine CallD.calm (contains_rets hX [] (by simp) _ _ _ (hs0 _)) ?_
        rintro v G1 hx1 rfl
        have hn2 := hx1.next
        have hk1 := hk.trans hx1.kept.keeps
        rw [show decide (((k : Int) + 1) ∈ ([] : List Int)) = false from decide_eq_false (by simp)]
        simp +decide (disch := first | assumption | (apply GH.ok_push; assumption) | exact cellV_int _ _ | exact cellV_bool _ | omega) only [go_sem, ↓reduceIte, Nat.reduceEqDiff, Nat.reduceAdd, Int.reduceToNat, he, hneg]
        refine CallD.calm (contains_rets hX [] (by simp) _ _ _ (hs0 _)) ?_
        rintro v G2 hx2 rfl
        have hn3 := hx2.next
        have hk2 := hk1.trans hx2.kept.keeps
        have hoG2 : G2.ok := hx2.ok (hx1.ok ho')
        rw [show decide ((-((k : Int) + 1)) ∈ ([] : List Int)) = false from decide_eq_false (by simp)]
        have ht : termP n m [] k = valP n m ([] ++ [(k : Int) + 1]) + valP n m ([] ++ [-((k : Int) + 1)]) := if_neg (fun h => by simp at h)
        have hva := valP_le n hn m ([] ++ [(k : Int) + 1])
        have hvb := valP_le n hn m ([] ++ [-((k : Int) + 1)])
        obtain ⟨va, hva2⟩ : ∃ va, valP n m ([] ++ [(k : Int) + 1]) = va := ⟨_, rfl⟩
        obtain ⟨vb, hvb2⟩ : ∃ vb, valP n m ([] ++ [-((k : Int) + 1)]) = vb := ⟨_, rfl⟩
        rw [hva2] at hva ht
        rw [hvb2] at hvb ht
        rw [List.nil_append] at hva2 hvb2
        have hadd : (S : Int) + ((va : Int) + vb) = S + va + vb := by omega
        simp +decide (disch := first | assumption | (apply GH.ok_push; assumption) | exact cellV_int _ _ | exact cellV_bool _ | omega) only [go_sem, ↓reduceIte, Nat.reduceEqDiff, Nat.reduceAdd, Int.reduceToNat, he, hneg]
        have hpk := (Kept.refl G2).push hoG2 (cellsOb [.int .i64 ((k : Int) + 1), .int .i64 (-((k : Int) + 1))] 3)
        have hk3 := hk2.trans hpk.keeps
        refine Wk.loops (fun r2 e g' lo => g.next ≤ lo ∧ Keeps g g' ∧ G2.next < g'.next ∧ g'.get G2.next = cellsOb [.int .i64 ((k : Int) + 1), .int .i64 (-((k : Int) + 1))] 3 ∧ ∃ q : Nat, q + r2 = 2 ∧ (ev e (.s 0) = .slice none 0 0 ∧ ev e (.s 1) = .int .i64 n ∧ ev e (.s 5) = .int .i64 (S + (if q = 0 then 0 else if q = 1 then va else va + vb) : Nat) ∧ ev e (.s 6) = .int .i64 (k + 1) ∧ ev e (.s 33) = .slice (some ⟨G2.next, 0, none⟩) 2 2 ∧ ev e (.s 34) = .int .i64 2 ∧ ev e (.s 35) = .int .i64 q))
          (fun e g' lo => g.next ≤ lo ∧ Keeps g g' ∧ (ev e (.s 0) = .slice none 0 0 ∧ ev e (.s 1) = .int .i64 n ∧ ev e (.s 5) = .int .i64 (S + (va + vb) : Nat) ∧ ev e (.s 6) = .int .i64 (k + 1))) (n := 2) ?_ ?_ ?_
        · exact ⟨hlo, hk3, Nat.lt_succ_self _, by rw [GH.get_push hoG2, if_pos rfl], 0, rfl, (by simp +decide (disch := first | assumption | (apply GH.ok_push; assumption) | exact cellV_int _ _ | exact cellV_bool _ | omega) only [go_sem, ↓reduceIte, Nat.reduceEqDiff, Nat.reduceAdd, Int.reduceToNat, he]; first | done | exact rfl)⟩
        · rintro e2 g3 lo3 hog3 - ⟨hlo3, hk4, he4⟩
          simp +decide (disch := first | assumption | (apply GH.ok_push; assumption) | exact cellV_int _ _ | exact cellV_bool _ | omega) only [go_sem, ↓reduceIte, Nat.reduceEqDiff, Nat.reduceAdd, Int.reduceToNat, he4]
          exact ih (r - 1) _ _ _ (by omega) ⟨hlo3, hk4, k + 1, by omega, by rw [hstep, ht]; exact (by simp +decide (disch := first | assumption | (apply GH.ok_push; assumption) | exact cellV_int _ _ | exact cellV_bool _ | omega) only [go_sem, ↓reduceIte, Nat.reduceEqDiff, Nat.reduceAdd, Int.reduceToNat, he4]; first | done | exact rfl)⟩
        · rintro r2 e2 g3 lo3 ho3 hl3 ih2 out2 ⟨hlo3, hk4, hJn, hget, q, hq, he4⟩
          have hk4n := hk4.next
          by_cases cq : q = 0
          · subst cq
            have hia := iaddrS_at (j := G2.next) (n := 2) (c := 2) (m := 0) (x := (0 : Int)) rfl (by omega)
            simp +decide (disch := first | assumption | (apply GH.ok_push; assumption) | exact cellV_int _ _ | exact cellV_bool _ | omega) only [go_sem, ↓reduceIte, Nat.reduceEqDiff, Nat.reduceAdd, Int.reduceToNat, he4, hia, hget]
            have hpk4 := (Kept.refl g3).push ho3 (cellsOb [.int .i64 ((k : Int) + 1)] 3)
            refine AppD.famN (lw := g.next) (SlR.one ho3 _ _) (by simp) (by simp) hlo3 (GH.ok_push ho3) (fun s' g4 lo4 sp wr ho4 hn4 hk5 hs6 hlo4 => ?_)
            have hnp : (g3.push (cellsOb [.int .i64 ((k : Int) + 1)] 3)).next = g3.next + 1 := rfl
            rw [hnp] at hs6 hn4
            simp +decide (disch := first | assumption | (apply GH.ok_push; assumption) | exact cellV_int _ _ | exact cellV_bool _ | omega) only [go_sem, ↓reduceIte, Nat.reduceEqDiff, Nat.reduceAdd, Int.reduceToNat, he4]
            refine CallD.call (snakesFam_rets hX n hn m [((k : Int) + 1)] s' g4 (g3.next + 1) (by simp; omega) hs6) ?_
            rintro v g5 lo5 hx5 ⟨⟨hlo5, hk6⟩, rfl⟩
            rw [hva2]
            have hk6n := hk6.next
            have hget5 : ∀ j, j < g3.next → g5.get j = g3.get j := fun j hj => by
              rw [fam_keeps hs6 hk6 (by omega), hk5.gets j (by rw [hnp]; omega), hpk4.gets j hj]
            simp +decide (disch := first | assumption | (apply GH.ok_push; assumption) | exact cellV_int _ _ | exact cellV_bool _ | omega) only [go_sem, ↓reduceIte, Nat.reduceEqDiff, Nat.reduceAdd, Int.reduceToNat, he4]
            refine ih2 (r2 - 1) _ _ _ (by omega) ⟨by omega, hk4.trans ⟨by omega, hget5⟩, by omega, by rw [hget5 _ hJn]; exact hget, 1, by omega, (by simp +decide (disch := first | assumption | (apply GH.ok_push; assumption) | exact cellV_int _ _ | exact cellV_bool _ | omega) only [go_sem, ↓reduceIte, Nat.reduceEqDiff, Nat.reduceAdd, Int.reduceToNat, he4]; first | done | exact rfl)⟩
          · by_cases cq1 : q = 1
            · subst cq1
              have hia := iaddrS_at (j := G2.next) (n := 2) (c := 2) (m := 1) (x := (1 : Int)) rfl (by omega)
              simp +decide (disch := first | assumption | (apply GH.ok_push; assumption) | exact cellV_int _ _ | exact cellV_bool _ | omega) only [go_sem, ↓reduceIte, Nat.reduceEqDiff, Nat.reduceAdd, Int.reduceToNat, he4, hia, hget]
              have hpk4 := (Kept.refl g3).push ho3 (cellsOb [.int .i64 (-((k : Int) + 1))] 3)
              refine AppD.famN (lw := g.next) (SlR.one ho3 _ _) (by simp) (by simp) hlo3 (GH.ok_push ho3) (fun s' g4 lo4 sp wr ho4 hn4 hk5 hs6 hlo4 => ?_)
              have hnp : (g3.push (cellsOb [.int .i64 (-((k : Int) + 1))] 3)).next = g3.next + 1 := rfl
              rw [hnp] at hs6 hn4
              simp +decide (disch := first | assumption | (apply GH.ok_push; assumption) | exact cellV_int _ _ | exact cellV_bool _ | omega) only [go_sem, ↓reduceIte, Nat.reduceEqDiff, Nat.reduceAdd, Int.reduceToNat, he4]
              refine CallD.call (snakesFam_rets hX n hn m [(-((k : Int) + 1))] s' g4 (g3.next + 1) (by simp; omega) hs6) ?_
              rintro v g5 lo5 hx5 ⟨⟨hlo5, hk6⟩, rfl⟩
              rw [hvb2]
              have hk6n := hk6.next
              have hget5 : ∀ j, j < g3.next → g5.get j = g3.get j := fun j hj => by
                rw [fam_keeps hs6 hk6 (by omega), hk5.gets j (by rw [hnp]; omega), hpk4.gets j hj]
              simp +decide (disch := first | assumption | (apply GH.ok_push; assumption) | exact cellV_int _ _ | exact cellV_bool _ | omega) only [go_sem, ↓reduceIte, Nat.reduceEqDiff, Nat.reduceAdd, Int.reduceToNat, he4]
              refine ih2 (r2 - 1) _ _ _ (by omega) ⟨by omega, hk4.trans ⟨by omega, hget5⟩, by omega, by rw [hget5 _ hJn]; exact hget, 2, by omega, (by simp +decide (disch := first | assumption | (apply GH.ok_push; assumption) | exact cellV_int _ _ | exact cellV_bool _ | omega) only [go_sem, ↓reduceIte, Nat.reduceEqDiff, Nat.reduceAdd, Int.reduceToNat, he4, hadd]; first | done | exact rfl)⟩
            · have : q = 2 := by omega
              subst this
              simp +decide (disch := first | assumption | (apply GH.ok_push; assumption) | exact cellV_int _ _ | exact cellV_bool _ | omega) only [go_sem, ↓reduceIte, Nat.reduceEqDiff, Nat.reduceAdd, Int.reduceToNat, he4]
              exact out2 _ _ _ ⟨hlo3, hk4, (by simp +decide (disch := first | assumption | (apply GH.ok_push; assumption) | exact cellV_int _ _ | exact cellV_bool _ | omega) only [go_sem, ↓reduceIte, Nat.reduceEqDiff, Nat.reduceAdd, Int.reduceToNat, he4]; first | done | exact rfl)⟩
      · have : k = n := by omega
        subst this
        simp +decide (disch := first | assumption | (apply GH.ok_push; assumption) | exact cellV_int _ _ | exact cellV_bool _ | omega) only [go_sem, ↓reduceIte, Nat.reduceEqDiff, Nat.reduceAdd, Int.reduceToNat, he]
        exact out _ _ _ ⟨hlo, (by simp +decide (disch := first | assumption | (apply GH.ok_push; assumption) | exact cellV_int _ _ | exact cellV_bool _ | omega) only [go_sem, ↓reduceIte, Nat.reduceEqDiff, Nat.reduceAdd, Int.reduceToNat, he]; first | done | exact rfl)⟩
theorem Snakes_rets {X : Caller} (hX : Xok X) (n : Int) (g : GH) : Rets Try.prog X 38 [.int .i64 n] g (fun v g' lo => g.next ≤ lo ∧ v = if n < 0 ∨ 6 < n then .tuple #[.int .i64 0, .int .i64 2] else .tuple #[.int .i64 (valP n.toNat n.toNat []), .int .i64 0]) := by
  refine Rets.run hX.pres p38 (hX.free 38 (by decide) _ _) rfl fun ho => ?_
  by_cases c : n < 0
  · rw [if_pos (.inl c)]
    simp +decide (disch := first | assumption | (apply GH.ok_push; assumption) | exact cellV_int _ _ | exact cellV_bool _ | omega) only [go_sem, ↓reduceIte, Nat.reduceEqDiff, Nat.reduceAdd, Int.reduceToNat]
    intro hx0
    exact ⟨Nat.le_refl _, rfl⟩
  · by_cases c2 : 6 < n
    · rw [if_pos (.inr c2)]
      simp +decide (disch := first | assumption | (apply GH.ok_push; assumption) | exact cellV_int _ _ | exact cellV_bool _ | omega) only [go_sem, ↓reduceIte, Nat.reduceEqDiff, Nat.reduceAdd, Int.reduceToNat]
      intro hx0
      exact ⟨Nat.le_refl _, rfl⟩
    · rw [if_neg (by omega)]
      obtain ⟨k, rfl⟩ : ∃ k : Nat, n = k := ⟨n.toNat, by omega⟩
      rw [Int.toNat_natCast]
      simp +decide (disch := first | assumption | (apply GH.ok_push; assumption) | exact cellV_int _ _ | exact cellV_bool _ | omega) only [go_sem, ↓reduceIte, Nat.reduceEqDiff, Nat.reduceAdd, Int.reduceToNat]
      refine CallD.calm (snakesNil_rets hX k (by omega) _) ?_
      rintro v G1 hx1 rfl
      simp +decide (disch := first | assumption | (apply GH.ok_push; assumption) | exact cellV_int _ _ | exact cellV_bool _ | omega) only [go_sem, ↓reduceIte, Nat.reduceEqDiff, Nat.reduceAdd, Int.reduceToNat]
      intro hx0
      exact ⟨Nat.le_refl _, rfl⟩
end Go.Proofs.Yteeelcmnlomgmaa
set_option maxRecDepth 100000
set_option maxHeartbeats 8000000
set_option linter.unusedSimpArgs false
set_option linter.unusedVariables false
namespace Go.Proofs.Yteeelcmnlomgmaa
open Go.Ds
/-! ## Snakes of the specification -/
def refTurnL : Bool → List Int → Bool
  | up, a :: b :: l => (if up = true then decide (a < b) else decide (b < a)) && refTurnL (!up) (b :: l)
  | _, _ => true
theorem refTurnL_step (up : Bool) (L : List Int) (j : Nat) (h : j + 1 < L.length) : refTurnL up (L.drop j) = ((if up = true then decide (L.getD j 0 < L.getD (j + 1) 0) else decide (L.getD (j + 1) 0 < L.getD j 0)) && refTurnL (!up) (L.drop (j + 1))) := by
  rw [drop_cons L j (by omega), drop_cons L (j + 1) h, refTurnL]
theorem refTurnL_end (up : Bool) (L : List Int) (j : Nat) (h : L.length ≤ j + 1) : refTurnL up (L.drop j) = true := by
  by_cases c : j < L.length
  · rw [drop_cons L j c, List.drop_of_length_le (by omega)]; rfl
  · rw [List.drop_of_length_le (by omega)]; rfl
def refSnakeB (L : List Int) : Bool := !(decide (0 < L.length) && decide (L.getD 0 0 < 0)) && refTurnL false L
theorem refSnakeG_rets {X : Caller} (hX : Xok X) (L : List Int) (hL : L.length ≤ 1000) (s : Value) (g : GH) (hs : SlR g s (ints L)) :
    Rets Try.prog X 63 [s] g (fun v g' lo => g.next ≤ lo ∧ v = .bool (refSnakeB L)) := by
  refine Rets.run hX.pres p63 (hX.free 63 (by decide) _ _) rfl fun ho => ?_
  have hl := hs.len
  rw [ints_len] at hl
  have body : ∀ (e0 : Env) (g0 : GH) (lo0 : Nat) (ks : List Fr), g0 = g → g.next ≤ lo0 → (ev e0 (.s 0) = s ∧ ev e0 (.s 3) = .int .i64 1) →
      (∀ e lo, g.next ≤ lo → refTurnL false L = true → Wk Try.prog X (Qr r63 g (fun v g' lo => g.next ≤ lo ∧ v = .bool (refSnakeB L))) (.O .normal ks e g lo)) →
      (∀ e lo, g.next ≤ lo → refTurnL false L = false → ev e (.s 2) = .bool false → Wk Try.prog X (Qr r63 g (fun v g' lo => g.next ≤ lo ∧ v = .bool (refSnakeB L))) (.C .ret [] e g lo)) →
      Wk Try.prog X (Qr r63 g (fun v g' lo => g.next ≤ lo ∧ v = .bool (refSnakeB L))) (.C (.loop b63_0) (.blk 0 :: ks) e0 g0 lo0) := by
    intro e0 g0 lo0 ks hg0 hlo0 he0 hend hfail
    subst hg0
    refine Wk.loops (fun m e g' lo => g0.next ≤ lo ∧ g' = g0 ∧ ∃ j : Nat, j + m = L.length ∧ (ev e (.s 0) = s ∧ ev e (.s 3) = .int .i64 (j + 1)) ∧ refTurnL (decide (j % 2 = 1)) (L.drop j) = refTurnL false L)
      (fun e g' lo => g0.next ≤ lo ∧ g' = g0 ∧ refTurnL false L = true) (n := L.length) ?_ ?_ ?_
    · exact ⟨hlo0, rfl, 0, by omega, he0, rfl⟩
    · rintro e g' lo hog - ⟨hlo, rfl, hr⟩
      exact hend e lo hlo hr
    · rintro m e g' lo ho' hl' ih out ⟨hlo, rfl, j, hj, he, hr⟩
      by_cases c : j + 1 < L.length
      · obtain ⟨b1, o1, hb1, hp1, hp2⟩ := hs.ptr (ints_get (D := L) (i := j) (by omega))
        obtain ⟨b2, o2, hb2, hq1, hq2⟩ := hs.ptr (ints_get (D := L) (i := j + 1) c)
        have hp1 := hp1 (j : Int) rfl
        have hq1 := hq1 ((j : Int) + 1) (by omega)
        have hst := refTurnL_step (decide (j % 2 = 1)) L j c
        have hj1 : (j : Int) + 1 - 1 = j := by omega
        have ht : ((j : Int) + 1).tmod 2 = (((j + 1) % 2 : Nat) : Int) := rfl
        by_cases c2 : j % 2 = 0
        · have ht2 : (j + 1) % 2 = 1 := by omega
          have hs2 : decide ((j + 1) % 2 = 1) = true := decide_eq_true (by omega)
          have hs3 : decide (j % 2 = 1) = false := decide_eq_false (by omega)
          rw [ht2] at ht
          rw [hs3] at hst hr
          simp only [Bool.false_eq_true, ↓reduceIte] at hst
          by_cases d : ¬ L.getD (j + 1) 0 < L.getD j 0
          · rw [decide_eq_false d] at hst
            have d2 : L.getD j 0 ≤ L.getD (j + 1) 0 := by omega
            simp +decide (disch := first | assumption | (apply GH.ok_push; assumption) | exact cellV_int _ _ | exact cellV_bool _ | omega) only [go_sem, ↓reduceIte, Nat.reduceEqDiff, Nat.reduceAdd, Int.reduceToNat, he, hl, hj1, hp1, hp2, hq1, hq2, d2, ht]
            intro hx0
            refine ⟨hlo, ?_⟩
            unfold refSnakeB
            rw [← hr, hst]; simp
          · have d := Decidable.not_not.1 d
            rw [decide_eq_true d] at hst
            have d2 : ¬ L.getD j 0 ≤ L.getD (j + 1) 0 := by omega
            simp +decide (disch := first | assumption | (apply GH.ok_push; assumption) | exact cellV_int _ _ | exact cellV_bool _ | omega) only [go_sem, ↓reduceIte, Nat.reduceEqDiff, Nat.reduceAdd, Int.reduceToNat, he, hl, hj1, hp1, hp2, hq1, hq2, d2, ht]
            exact ih (m - 1) _ _ _ (by omega) ⟨hlo, rfl, j + 1, by omega, (by simp +decide (disch := first | assumption | (apply GH.ok_push; assumption) | exact cellV_int _ _ | exact cellV_bool _ | omega) only [go_sem, ↓reduceIte, Nat.reduceEqDiff, Nat.reduceAdd, Int.reduceToNat, he]; first | done | exact rfl), by rw [hs2, ← hr, hst]; rfl⟩
        · have ht2 : (j + 1) % 2 = 0 := by omega
          have hs2 : decide ((j + 1) % 2 = 1) = false := decide_eq_false (by omega)
          have hs3 : decide (j % 2 = 1) = true := decide_eq_true (by omega)
          rw [ht2] at ht
          rw [hs3] at hst hr
          simp only [↓reduceIte] at hst
          by_cases d : L.getD j 0 < L.getD (j + 1) 0
          · rw [decide_eq_true d] at hst
            have d2 : ¬ L.getD (j + 1) 0 ≤ L.getD j 0 := by omega
            simp +decide (disch := first | assumption | (apply GH.ok_push; assumption) | exact cellV_int _ _ | exact cellV_bool _ | omega) only [go_sem, ↓reduceIte, Nat.reduceEqDiff, Nat.reduceAdd, Int.reduceToNat, he, hl, hj1, hp1, hp2, hq1, hq2, d2, ht]
            exact ih (m - 1) _ _ _ (by omega) ⟨hlo, rfl, j + 1, by omega, (by simp +decide (disch := first | assumption | (apply GH.ok_push; assumption) | exact cellV_int _ _ | exact cellV_bool _ | omega) only [go_sem, ↓reduceIte, Nat.reduceEqDiff, Nat.reduceAdd, Int.reduceToNat, he]; first | done | exact rfl), by rw [hs2, ← hr, hst]; rfl⟩
          · rw [decide_eq_false d] at hst
            have d2 : L.getD (j + 1) 0 ≤ L.getD j 0 := by omega
            simp +decide (disch := first | assumption | (apply GH.ok_push; assumption) | exact cellV_int _ _ | exact cellV_bool _ | omega) only [go_sem, ↓reduceIte, Nat.reduceEqDiff, Nat.reduceAdd, Int.reduceToNat, he, hl, hj1, hp1, hp2, hq1, hq2, d2, ht]
            intro hx0
            refine ⟨hlo, ?_⟩
            unfold refSnakeB
            rw [← hr, hst]; simp
      · simp +decide (disch := first | assumption | (apply GH.ok_push; assumption) | exact cellV_int _ _ | exact cellV_bool _ | omega) only [go_sem, ↓reduceIte, Nat.reduceEqDiff, Nat.reduceAdd, Int.reduceToNat, he, hl]
        refine out _ _ _ ⟨hlo, rfl, ?_⟩
        rw [← hr, refTurnL_end _ L j (by omega)]
  have endT : ∀ e lo, g.next ≤ lo → refTurnL false L = true → (decide (0 < L.length) && decide (L.getD 0 0 < 0)) = false → Wk Try.prog X (Qr r63 g (fun v g' lo => g.next ≤ lo ∧ v = .bool (refSnakeB L))) (.O .normal [.seq (.seq (.reg [⟨none, some 2, some (.move (.c (.bool true))), none, []⟩]) .ret)] e g lo) := by
    intro e lo hlo h1 h2
    unfold refSnakeB
    rw [h1, h2]
    simp +decide (disch := first | assumption | (apply GH.ok_push; assumption) | exact cellV_int _ _ | exact cellV_bool _ | omega) only [go_sem, ↓reduceIte, Nat.reduceEqDiff, Nat.reduceAdd, Int.reduceToNat]
    intro hx0
    exact ⟨hlo, rfl⟩
  by_cases c : L.length = 0
  · have c' : ¬ 0 < (L.length : Int) := by omega
    simp +decide (disch := first | assumption | (apply GH.ok_push; assumption) | exact cellV_int _ _ | exact cellV_bool _ | omega) only [go_sem, ↓reduceIte, Nat.reduceEqDiff, Nat.reduceAdd, Int.reduceToNat, hl, c']
    refine body _ _ _ _ rfl (Nat.le_refl _) (by simp +decide (disch := first | assumption | (apply GH.ok_push; assumption) | exact cellV_int _ _ | exact cellV_bool _ | omega) only [go_sem, ↓reduceIte, Nat.reduceEqDiff, Nat.reduceAdd, Int.reduceToNat]; first | done | exact rfl) (fun e lo h1 h2 => endT e lo h1 h2 (by simp [c])) ?_
    intro e lo h1 h2 h3
    simp +decide (disch := first | assumption | (apply GH.ok_push; assumption) | exact cellV_int _ _ | exact cellV_bool _ | omega) only [go_sem, ↓reduceIte, Nat.reduceEqDiff, Nat.reduceAdd, Int.reduceToNat, h3]
    intro hx0
    refine ⟨h1, ?_⟩
    unfold refSnakeB
    rw [h2]; simp
  · have c' : 0 < (L.length : Int) := by omega
    obtain ⟨p, hp1, hp2⟩ := hs.at (ints_get (D := L) (i := 0) (by omega))
    have hp1 := hp1 (0 : Int) rfl
    by_cases d : L.getD 0 0 < 0
    · simp +decide (disch := first | assumption | (apply GH.ok_push; assumption) | exact cellV_int _ _ | exact cellV_bool _ | omega) only [go_sem, ↓reduceIte, Nat.reduceEqDiff, Nat.reduceAdd, Int.reduceToNat, hl, c', hp1, hp2]
      intro hx0
      refine ⟨Nat.le_refl _, ?_⟩
      unfold refSnakeB
      rw [decide_eq_true (by omega), decide_eq_true d]; rfl
    · simp +decide (disch := first | assumption | (apply GH.ok_push; assumption) | exact cellV_int _ _ | exact cellV_bool _ | omega) only [go_sem, ↓reduceIte, Nat.reduceEqDiff, Nat.reduceAdd, Int.reduceToNat, hl, c', hp1, hp2]
      refine body _ _ _ _ rfl (Nat.le_refl _) (by simp +decide (disch := first | assumption | (apply GH.ok_push; assumption) | exact cellV_int _ _ | exact cellV_bool _ | omega) only [go_sem, ↓reduceIte, Nat.reduceEqDiff, Nat.reduceAdd, Int.reduceToNat]; first | done | exact rfl) (fun e lo h1 h2 => endT e lo h1 h2 (by rw [decide_eq_false d]; simp)) ?_
      intro e lo h1 h2 h3
      simp +decide (disch := first | assumption | (apply GH.ok_push; assumption) | exact cellV_int _ _ | exact cellV_bool _ | omega) only [go_sem, ↓reduceIte, Nat.reduceEqDiff, Nat.reduceAdd, Int.reduceToNat, h3]
      intro hx0
      refine ⟨h1, ?_⟩
      unfold refSnakeB
      rw [h2]; simp
def valR (n : Nat) : Nat → Nat → List Int → Nat
  | 0, _, _ => 1
  | m + 1, u, L => sumTo (fun i => if ((i : Int) - n) ≠ 0 ∧ u / 2 ^ ((i : Int) - n).natAbs % 2 = 0 ∧ refSnakeB (L ++ [(i : Int) - n]) = true then valR n m (u ||| 2 ^ ((i : Int) - n).natAbs) (L ++ [(i : Int) - n]) else 0) (2 * n + 1)
def termR (n m u : Nat) (L : List Int) (i : Nat) : Nat := if ((i : Int) - n) ≠ 0 ∧ u / 2 ^ ((i : Int) - n).natAbs % 2 = 0 ∧ refSnakeB (L ++ [(i : Int) - n]) = true then valR n m (u ||| 2 ^ ((i : Int) - n).natAbs) (L ++ [(i : Int) - n]) else 0
theorem valR_succ (n m u : Nat) (L : List Int) : valR n (m + 1) u L = sumTo (termR n m u L) (2 * n + 1) := rfl
theorem valR_le (n : Nat) (hn : n ≤ 6) : ∀ m u L, valR n m u L ≤ 13 ^ m
  | 0, u, L => by simp [valR]
  | m + 1, u, L => by
    rw [valR_succ]
    have hk : ∀ k, termR n m u L k ≤ 13 ^ m := by
      intro k
      unfold termR
      split
      · exact valR_le n hn m _ _
      · exact Nat.zero_le _
    have h1 := sumTo_le hk (2 * n + 1)
    have h2 : (2 * n + 1) * 13 ^ m ≤ 13 * 13 ^ m := Nat.mul_le_mul_right _ (by omega)
    rw [Nat.pow_succ]
    omega
theorem pow13 {m : Nat} (h : m ≤ 6) : 13 ^ m ≤ 5000000 := Nat.le_trans (Nat.pow_le_pow_right (by omega) h) (by decide)
theorem or_small : ∀ u : Nat, u < 128 → ∀ k : Nat, k ≤ 6 → u ||| 2 ^ k < 128 ∧ IntKind.wrap .i64 ((BitVec.ofInt (IntKind.bits .i64) (u : Int)) ||| (BitVec.ofInt (IntKind.bits .i64) ((2 ^ k : Nat) : Int))).toNat = ((u ||| 2 ^ k : Nat) : Int) := by decide +kernel
theorem snakes_rets {X : Caller} (hX : Xok X) (n : Nat) (hn : n ≤ 6) : ∀ (m : Nat) (L : List Int) (u : Nat) (s : Value) (g : GH) (b : Nat), L.length + m = n → u < 128 → Own g s (ints L) 3 b →
    Rets Try.prog X 65 [.int .i64 n, s, .int .i64 u] g (fun v g' lo => g.next ≤ lo ∧ v = .int .i64 (valR n m u L)) := by
  intro m
  induction m with
  | zero =>
    intro L u s g b hLm hu hs
    refine Rets.run hX.pres p65 (hX.free 65 (by decide) _ _) rfl fun ho => ?_
    have hl := hs.read.len
    rw [ints_len] at hl
    have e1 : (L.length : Int) = n := by omega
    simp +decide (disch := first | assumption | (apply GH.ok_push; assumption) | exact cellV_int _ _ | exact cellV_bool _ | omega) only [go_sem, ↓reduceIte, Nat.reduceEqDiff, Nat.reduceAdd, Int.reduceToNat, hl, e1]
    intro hx0
    exact ⟨Nat.le_refl _, rfl⟩
  | succ m ihm =>
    intro L u s g b hLm hu hs
    refine Rets.run hX.pres p65 (hX.free 65 (by decide) _ _) rfl fun ho => ?_
    have hl := hs.read.len
    rw [ints_len] at hl
    have e1 : ¬ (L.length : Int) = n := by omega
    rw [valR_succ]
    simp +decide (disch := first | assumption | (apply GH.ok_push; assumption) | exact cellV_int _ _ | exact cellV_bool _ | omega) only [go_sem, ↓reduceIte, Nat.reduceEqDiff, Nat.reduceAdd, Int.reduceToNat, hl, e1]
    refine Wk.loops (fun r e g' lo => g.next ≤ lo ∧ Kept g g' ∧ ∃ k : Nat, k + r = 2 * n + 1 ∧ (ev e (.s 0) = .int .i64 n ∧ ev e (.s 1) = s ∧ ev e (.s 2) = .int .i64 u ∧ ev e (.s 7) = .int .i64 (sumTo (termR n m u L) k : Nat) ∧ ev e (.s 8) = .int .i64 ((k : Int) - n)))
      (fun e g' lo => g.next ≤ lo ∧ ev e (.s 7) = .int .i64 (sumTo (termR n m u L) (2 * n + 1) : Nat)) (n := 2 * n + 1) ?_ ?_ ?_
    · exact ⟨Nat.le_refl _, Kept.refl _, 0, by omega, (by simp +decide (disch := first | assumption | (apply GH.ok_push; assumption) | exact cellV_int _ _ | exact cellV_bool _ | omega) only [go_sem, ↓reduceIte, Nat.reduceEqDiff, Nat.reduceAdd, Int.reduceToNat]; first | done | exact rfl)⟩
    · rintro e g' lo hog - ⟨hlo, h7⟩
      simp +decide (disch := first | assumption | (apply GH.ok_push; assumption) | exact cellV_int _ _ | exact cellV_bool _ | omega) only [go_sem, ↓reduceIte, Nat.reduceEqDiff, Nat.reduceAdd, Int.reduceToNat, h7]
      intro hx0
      exact ⟨hlo, rfl⟩
    · rintro r e g' lo ho' hl' ih out ⟨hlo, hk, k, hkr, he⟩
      have hkn := hk.next
      have hstep : sumTo (termR n m u L) (k + 1) = sumTo (termR n m u L) k + termR n m u L k := rfl
      by_cases ck : k < 2 * n + 1
      · have hp13 := pow13 (m := m + 1) (by omega)
        rw [Nat.pow_succ] at hp13
        have htb : ∀ k, termR n m u L k ≤ 13 ^ m := by
          intro k
          unfold termR
          split
          · exact valR_le n hn m _ _
          · exact Nat.zero_le _
        have hsb : sumTo (termR n m u L) k ≤ 5000000 := by
          have h1 := sumTo_le htb k
          have h2 : k * 13 ^ m ≤ 13 * 13 ^ m := Nat.mul_le_mul_right _ (by omega)
          omega
        obtain ⟨S, hS⟩ : ∃ S, sumTo (termR n m u L) k = S := ⟨_, rfl⟩
        rw [hS] at he hstep hsb
        obtain ⟨x, hx⟩ : ∃ x, (k : Int) - n = x := ⟨_, rfl⟩
        have hterm : termR n m u L k = if x ≠ 0 ∧ u / 2 ^ x.natAbs % 2 = 0 ∧ refSnakeB (L ++ [x]) = true then valR n m (u ||| 2 ^ x.natAbs) (L ++ [x]) else 0 := by unfold termR; rw [hx]
        rw [hx] at he
        have hnext : (((k + 1 : Nat) : Int) - n) = x + 1 := by omega
        have hown1 := hs.kept hk
        have hlv := hown1.read.len
        have hcl := clip_own hown1 (by rw [ints_len]; omega)
        rw [ints_len] at hlv hcl
        simp +decide (disch := first | assumption | (apply GH.ok_push; assumption) | exact cellV_int _ _ | exact cellV_bool _ | omega) only [go_sem, ↓reduceIte, Nat.reduceEqDiff, Nat.reduceAdd, Int.reduceToNat, he, hlv, hcl]
        refine AppD.clip (lw := g.next) (base := g'.next + 1) (hown1.kept ((Kept.refl g').push ho' _)) (SlR.one ho' _ _) (by simp) rfl (by simp [ints_len]; omega) (by simp [GH.push]) hlo (by omega) (GH.ok_push ho') (fun s' g2 lo2 sp wr hgr hlo2 => ?_)
        have hk2 : Kept g' g2 := ((Kept.refl g').push ho' _).grew2 hgr (by omega)
        have hkk := hk.trans hk2
        have hkk2 := hkk.next
        have hgo : Own g2 s' (ints (L ++ [x])) 3 (g'.next + 1) := by
          have := hgr.own
          rw [ints_app]; exact this
        by_cases c0 : x = 0
        · have ht : termR n m u L k = 0 := by rw [hterm, if_neg (fun h => h.1 c0)]
          simp +decide (disch := first | assumption | (apply GH.ok_push; assumption) | exact cellV_int _ _ | exact cellV_bool _ | omega) only [go_sem, ↓reduceIte, Nat.reduceEqDiff, Nat.reduceAdd, Int.reduceToNat, he, c0]
          exact ih (r - 1) _ _ _ (by omega) ⟨hlo2, hkk, k + 1, by omega, by rw [hstep, ht, hnext]; exact (by simp +decide (disch := first | assumption | (apply GH.ok_push; assumption) | exact cellV_int _ _ | exact cellV_bool _ | omega) only [go_sem, ↓reduceIte, Nat.reduceEqDiff, Nat.reduceAdd, Int.reduceToNat, he, c0]; first | done | exact rfl)⟩
        · obtain ⟨a, ha⟩ : ∃ a, x.natAbs = a := ⟨_, rfl⟩
          rw [ha] at hterm
          have hab : mxF (.int .i64 x) (.int .i64 (0 - x)) = some (.int .i64 (a : Int)) := by
            rw [mx_ints]
            by_cases q : x < 0 - x
            · rw [if_pos q]; congr 2; omega
            · rw [if_neg q]; congr 2; omega
          have ha6 : a ≤ 6 := by omega
          have hsr : ((u : Int).fdiv (Int.ofNat (Nat.pow 2 (min (a : Int).toNat 64)))).tmod 2 = ((u / 2 ^ a % 2 : Nat) : Int) := by rw [shr_fact u a (by omega)]; rfl
          by_cases c1 : u / 2 ^ a % 2 = 0
          · rw [c1] at hsr
            simp +decide (disch := first | assumption | (apply GH.ok_push; assumption) | exact cellV_int _ _ | exact cellV_bool _ | omega) only [go_sem, ↓reduceIte, Nat.reduceEqDiff, Nat.reduceAdd, Int.reduceToNat, he, c0, hab, hsr]
            refine CallD.calm (refSnakeG_rets hX (L ++ [x]) (by simp; omega) s' _ hgo.read) ?_
            rintro v g3 hx3 rfl
            have hn3 := hx3.next
            have hk3 := hkk.ext hx3
            cases hb : refSnakeB (L ++ [x]) with
            | false =>
              have ht : termR n m u L k = 0 := by rw [hterm, if_neg (fun h => by rw [hb] at h; exact absurd h.2.2 (by decide))]
              simp +decide (disch := first | assumption | (apply GH.ok_push; assumption) | exact cellV_int _ _ | exact cellV_bool _ | omega) only [go_sem, ↓reduceIte, Nat.reduceEqDiff, Nat.reduceAdd, Int.reduceToNat, he]
              exact ih (r - 1) _ _ _ (by omega) ⟨hlo2, hk3, k + 1, by omega, by rw [hstep, ht, hnext]; exact (by simp +decide (disch := first | assumption | (apply GH.ok_push; assumption) | exact cellV_int _ _ | exact cellV_bool _ | omega) only [go_sem, ↓reduceIte, Nat.reduceEqDiff, Nat.reduceAdd, Int.reduceToNat, he]; first | done | exact rfl)⟩
            | true =>
              have hor := or_small u hu a ha6
              have ht : termR n m u L k = valR n m (u ||| 2 ^ a) (L ++ [x]) := by rw [hterm, if_pos ⟨c0, c1, hb⟩]
              have hvl := valR_le n hn m (u ||| 2 ^ a) (L ++ [x])
              have hsl := shl_fact a (by omega)
              have hpw : 2 ^ a ≤ 64 := by have := Nat.pow_le_pow_right (n := 2) (by omega) ha6; exact this
              have hcall := ihm (L ++ [x]) (u ||| 2 ^ a) s' g3 (g'.next + 1) (by simp; omega) hor.1 (hgo.ext hx3)
              obtain ⟨w, hw⟩ : ∃ w, 2 ^ a = w := ⟨_, rfl⟩
              obtain ⟨uw, huw⟩ : ∃ uw, u ||| w = uw := ⟨_, rfl⟩
              rw [hw] at hor hsl hpw hcall ht hvl
              rw [huw] at hor hcall ht hvl
              have horr := hor.2
              simp +decide (disch := first | assumption | (apply GH.ok_push; assumption) | exact cellV_int _ _ | exact cellV_bool _ | omega) only [go_sem, ↓reduceIte, Nat.reduceEqDiff, Nat.reduceAdd, Int.reduceToNat, he, hab, hsl]
              rw [← horr] at hcall
              refine CallD.calm hcall ?_
              rintro v g4 hx4 rfl
              have hn4 := hx4.next
              have hk4 := hk3.ext hx4
              simp +decide (disch := first | assumption | (apply GH.ok_push; assumption) | exact cellV_int _ _ | exact cellV_bool _ | omega) only [go_sem, ↓reduceIte, Nat.reduceEqDiff, Nat.reduceAdd, Int.reduceToNat, he]
              exact ih (r - 1) _ _ _ (by omega) ⟨hlo2, hk4, k + 1, by omega, by rw [hstep, ht, hnext]; exact (by simp +decide (disch := first | assumption | (apply GH.ok_push; assumption) | exact cellV_int _ _ | exact cellV_bool _ | omega) only [go_sem, ↓reduceIte, Nat.reduceEqDiff, Nat.reduceAdd, Int.reduceToNat, he]; first | done | exact rfl)⟩
          · have c1' : u / 2 ^ a % 2 = 1 := by omega
            have ht : termR n m u L k = 0 := by rw [hterm, if_neg (fun h => c1 h.2.1)]
            rw [c1'] at hsr
            simp +decide (disch := first | assumption | (apply GH.ok_push; assumption) | exact cellV_int _ _ | exact cellV_bool _ | omega) only [go_sem, ↓reduceIte, Nat.reduceEqDiff, Nat.reduceAdd, Int.reduceToNat, he, c0, hab, hsr]
            exact ih (r - 1) _ _ _ (by omega) ⟨hlo2, hkk, k + 1, by omega, by rw [hstep, ht, hnext]; exact (by simp +decide (disch := first | assumption | (apply GH.ok_push; assumption) | exact cellV_int _ _ | exact cellV_bool _ | omega) only [go_sem, ↓reduceIte, Nat.reduceEqDiff, Nat.reduceAdd, Int.reduceToNat, he]; first | done | exact rfl)⟩
      · simp +decide (disch := first | assumption | (apply GH.ok_push; assumption) | exact cellV_int _ _ | exact cellV_bool _ | omega) only [go_sem, ↓reduceIte, Nat.reduceEqDiff, Nat.reduceAdd, Int.reduceToNat, he]
        have : k = 2 * n + 1 := by omega
        subst this
        exact out _ _ _ ⟨hlo, (by simp +decide (disch := first | assumption | (apply GH.ok_push; assumption) | exact cellV_int _ _ | exact cellV_bool _ | omega) only [go_sem, ↓reduceIte, Nat.reduceEqDiff, Nat.reduceAdd, Int.reduceToNat, he]; first | done | exact rfl)⟩
theorem refSnakes_rets {X : Caller} (hX : Xok X) (n : Int) (g : GH) : Rets Try.prog X 39 [.int .i64 n] g (fun v g' lo => g.next ≤ lo ∧ v = if n < 0 ∨ 6 < n then .tuple #[.int .i64 0, .int .i64 2] else .tuple #[.int .i64 (valR n.toNat n.toNat 0 []), .int .i64 0]) := by
  refine Rets.run hX.pres p39 (hX.free 39 (by decide) _ _) rfl fun ho => ?_
  by_cases c : n < 0
  · rw [if_pos (.inl c)]
    simp +decide (disch := first | assumption | (apply GH.ok_push; assumption) | exact cellV_int _ _ | exact cellV_bool _ | omega) only [go_sem, ↓reduceIte, Nat.reduceEqDiff, Nat.reduceAdd, Int.reduceToNat]
    intro hx0
    exact ⟨Nat.le_refl _, rfl⟩
  · by_cases c2 : 6 < n
    · rw [if_pos (.inr c2)]
      simp +decide (disch := first | assumption | (apply GH.ok_push; assumption) | exact cellV_int _ _ | exact cellV_bool _ | omega) only [go_sem, ↓reduceIte, Nat.reduceEqDiff, Nat.reduceAdd, Int.reduceToNat]
      intro hx0
      exact ⟨Nat.le_refl _, rfl⟩
    · rw [if_neg (by omega)]
      obtain ⟨k, rfl⟩ : ∃ k : Nat, n = k := ⟨n.toNat, by omega⟩
      rw [Int.toNat_natCast]
      simp +decide (disch := first | assumption | (apply GH.ok_push; assumption) | exact cellV_int _ _ | exact cellV_bool _ | omega) only [go_sem, ↓reduceIte, Nat.reduceEqDiff, Nat.reduceAdd, Int.reduceToNat]
      refine CallD.calm (snakes_rets hX k (by omega) k [] 0 _ _ 0 (by simp) (by omega) Own.nil) ?_
      rintro v G1 hx1 rfl
      simp +decide (disch := first | assumption | (apply GH.ok_push; assumption) | exact cellV_int _ _ | exact cellV_bool _ | omega) only [go_sem, ↓reduceIte, Nat.reduceEqDiff, Nat.reduceAdd, Int.reduceToNat]
      intro hx0
      exact ⟨Nat.le_refl _, rfl⟩
end Go.Proofs.Yteeelcmnlomgmaa
set_option maxRecDepth 100000
set_option maxHeartbeats 8000000
set_option linter.unusedSimpArgs false
set_option linter.unusedVariables false
namespace Go.Proofs.Yteeelcmnlomgmaa
open Go.Ds
/-- The numbers of snakes. -/
def snk (n : Nat) : Nat := [1, 1, 3, 11, 57, 361, 2763].getD n 0
theorem valP_all : ∀ n, n ≤ 6 → valP n n [] = snk n := by decide +kernel
theorem valR_all : ∀ n, n ≤ 6 → valR n n 0 [] = snk n := by decide +kernel
end Go.Proofs.Yteeelcmnlomgmaa
set_option maxRecDepth 100000
set_option maxHeartbeats 8000000
set_option linter.unusedSimpArgs false
set_option linter.unusedVariables false
namespace Go.Proofs.Yteeelcmnlomgmaa
open Go.Ds
theorem wf_inR {x : Int} (h : (Lit.int .i64 x).wf = true) : InR x := by
  unfold InR
  simp only [Lit.wf, Bool.and_eq_true, decide_eq_true_eq] at h
  have h1 : IntKind.i64.min = -9223372036854775808 := rfl
  have h2 : IntKind.i64.max = 9223372036854775807 := rfl
  rw [h1, h2] at h
  exact h
theorem snakesLaw_rets {X : Caller} (hX : Xok X) (L : List Int) (n : Int) (s : Value) (g : GH) (hs : SlR g s (ints L)) (hw : ∀ x ∈ L, (Lit.int .i64 x).wf = true) :
    Rets Try.prog X 7 [s, .int .i64 n] g (fun v g' lo => g.next ≤ lo ∧ v = .bool true) := by
  have e0 : ∀ a b : Value, extF (.tuple #[a, b]) 0 = some a := fun _ _ => rfl
  have e1 : ∀ a b : Value, extF (.tuple #[a, b]) 1 = some b := fun _ _ => rfl
  have hr : ∀ x ∈ L, InR x := fun x hx => wf_inR (hw x hx)
  refine Rets.run hX.pres p7 (hX.free 7 (by decide) _ _) rfl fun ho => ?_
  have hl := hs.len
  rw [ints_len] at hl
  by_cases c60 : (60 : Int) < L.length
  · simp +decide (disch := first | assumption | (apply GH.ok_push; assumption) | exact cellV_int _ _ | exact cellV_bool _ | omega) only [go_sem, ↓reduceIte, Nat.reduceEqDiff, Nat.reduceAdd, Int.reduceToNat, hl]
    refine CallD.calm (hX.alive _) ?_
    rintro v G1 hx rfl
    simp +decide (disch := first | assumption | (apply GH.ok_push; assumption) | exact cellV_int _ _ | exact cellV_bool _ | omega) only [go_sem, ↓reduceIte, Nat.reduceEqDiff, Nat.reduceAdd, Int.reduceToNat]
    intro hx0
    exact ⟨Nat.le_refl _, rfl⟩
  · have hL : L.length ≤ 1000 := by omega
    simp +decide (disch := first | assumption | (apply GH.ok_push; assumption) | exact cellV_int _ _ | exact cellV_bool _ | omega) only [go_sem, ↓reduceIte, Nat.reduceEqDiff, Nat.reduceAdd, Int.reduceToNat, hl]
    refine AppD.copyC (vs := []) (new := ints L) (j := g.next) (cells := []) (t' := 3) (by rw [GH.get_push ho, if_pos rfl]) rfl (Nat.le_refl _) (Nat.lt_succ_self _) (by unfold OPEN; simp) (hs.push ho _) (by rw [ints_len]; simp; omega) (GH.ok_push ho) ?_
    intro own G1 sp wr hk1 hok1 hown hcown
    rw [List.nil_append] at hown
    have hk1 := ((Kept.refl g).push ho _).trans hk1
    have hn1 := hk1.next
    have hs1 := hs.kept hk1
    simp +decide (disch := first | assumption | (apply GH.ok_push; assumption) | exact cellV_int _ _ | exact cellV_bool _ | omega) only [go_sem, ↓reduceIte, Nat.reduceEqDiff, Nat.reduceAdd, Int.reduceToNat]
    refine CallD.calm (IsSnake_rets hX L hL hr own _ hown) ?_
    rintro v G2 hx2 rfl
    have hn2 := hx2.next
    have hs2 := hs1.ext hx2
    have ho2 := hown.ext hx2
    simp +decide (disch := first | assumption | (apply GH.ok_push; assumption) | exact cellV_int _ _ | exact cellV_bool _ | omega) only [go_sem, ↓reduceIte, Nat.reduceEqDiff, Nat.reduceAdd, Int.reduceToNat, e0, e1]
    refine CallD.calm (refIsSnake_rets hX L hL hr s _ hs2) ?_
    rintro v G3 hx3 rfl
    have hn3 := hx3.next
    have hs3 := hs2.ext hx3
    have ho3 := ho2.ext hx3
    have hA := fun G : GH => Snakes_rets hX n G
    have hB := fun G : GH => refSnakes_rets hX n G
    have hval : ∃ c d : Int, (if n < 0 ∨ 6 < n then Value.tuple #[.int .i64 0, .int .i64 2] else .tuple #[.int .i64 (valP n.toNat n.toNat []), .int .i64 0]) = .tuple #[.int .i64 c, .int .i64 d] ∧ (if n < 0 ∨ 6 < n then Value.tuple #[.int .i64 0, .int .i64 2] else .tuple #[.int .i64 (valR n.toNat n.toNat 0 []), .int .i64 0]) = .tuple #[.int .i64 c, .int .i64 d] := by
      by_cases c : n < 0 ∨ 6 < n
      · exact ⟨0, 2, by rw [if_pos c], by rw [if_pos c]⟩
      · exact ⟨snk n.toNat, 0, by rw [if_neg c, valP_all n.toNat (by omega)], by rw [if_neg c, valR_all n.toNat (by omega)]⟩
    obtain ⟨cc, dd, v1, v2⟩ := hval
    rw [v1] at hA
    rw [v2] at hB
    simp +decide (disch := first | assumption | (apply GH.ok_push; assumption) | exact cellV_int _ _ | exact cellV_bool _ | omega) only [go_sem, ↓reduceIte, Nat.reduceEqDiff, Nat.reduceAdd, Int.reduceToNat, e0, e1]
    refine CallD.calm (hA _) ?_
    rintro v G4 hx4 rfl
    have hn4 := hx4.next
    have hs4 := hs3.ext hx4
    have ho4 := ho3.ext hx4
    simp +decide (disch := first | assumption | (apply GH.ok_push; assumption) | exact cellV_int _ _ | exact cellV_bool _ | omega) only [go_sem, ↓reduceIte, Nat.reduceEqDiff, Nat.reduceAdd, Int.reduceToNat, e0, e1]
    refine CallD.calm (hB _) ?_
    rintro v G5 hx5 rfl
    have hn5 := hx5.next
    have hs5 := hs4.ext hx5
    have ho5 := ho4.ext hx5
    simp +decide (disch := first | assumption | (apply GH.ok_push; assumption) | exact cellV_int _ _ | exact cellV_bool _ | omega) only [go_sem, ↓reduceIte, Nat.reduceEqDiff, Nat.reduceAdd, Int.reduceToNat, e0, e1]
    refine CallD.calm (same_rets hX L L (by omega) (by omega) own s _ ho5 hs5) ?_
    rintro v G6 hx6 rfl
    have hn6 := hx6.next
    have hself : decide (L = L) = true := decide_eq_true rfl
    rw [hself]
    simp +decide (disch := first | assumption | (apply GH.ok_push; assumption) | exact cellV_int _ _ | exact cellV_bool _ | omega) only [go_sem, ↓reduceIte, Nat.reduceEqDiff, Nat.reduceAdd, Int.reduceToNat, e0, e1]
    refine CallD.calm (hX.alive _) ?_
    rintro v G7 hx7 rfl
    simp +decide (disch := first | assumption | (apply GH.ok_push; assumption) | exact cellV_int _ _ | exact cellV_bool _ | omega) only [go_sem, ↓reduceIte, Nat.reduceEqDiff, Nat.reduceAdd, Int.reduceToNat]
    intro hx0
    exact ⟨by omega, rfl⟩
theorem turn_snake {L : List Int} (h : rowE L = 0) (h6 : L.length ≤ 6) : snkE L = 0 ∧ snkB L = inTurnL true (turnL L) := by
  obtain ⟨f1, f2, f3, f4⟩ := row_facts h
  have ha : absL L = L := by
    unfold absL
    conv => rhs; rw [← List.map_id L]
    apply List.map_congr_left
    intro x hx
    have := f4 x hx
    unfold absv
    rw [show negv x = -x by unfold negv; rw [if_neg (by omega)], if_neg (by omega)]; rfl
  have hE : snkE L = 0 := by
    unfold snkE
    unfold rowE at h
    rw [if_neg (by omega), ha]
    rw [if_neg (by omega)] at h
    exact h
  refine ⟨hE, ?_⟩
  unfold snkB snakeB
  rw [decide_eq_true hE, Bool.true_and]
  have h0 : (decide (L.length = 0) || decide (0 < L.getD 0 0)) = true := by
    by_cases c : L.length = 0
    · rw [decide_eq_true c]; rfl
    · have := f4 _ (mem_getD (L := L) (i := 0) (by omega))
      rw [decide_eq_true (show 0 < L.getD 0 0 by omega)]; simp
  rw [h0, Bool.true_and, Bool.eq_iff_iff, inTurnL_iff, inTurnL_iff, turnL_len]
  constructor
  · intro k j hj
    rw [sgn_turn f3 hj, k j hj]
    by_cases c : j % 2 = 0 <;> simp [c]
  · intro k j hj
    have := k j hj
    rw [sgn_turn f3 hj] at this
    by_cases c : j % 2 = 0
    · rw [if_pos c] at this ⊢; simpa using this
    · rw [if_neg c] at this ⊢; simpa using this
theorem springerLaw_rets {X : Caller} (hX : Xok X) (L : List Int) (z : Int) (h0 : 0 ≤ z) (h1 : z < 256) (s : Value) (g : GH) (hs : SlR g s (ints L)) :
    Rets Try.prog X 13 [s, .int .u8 z] g (fun v g' lo => g.next ≤ lo ∧ v = .bool true) := by
  have e0 : ∀ a b : Value, extF (.tuple #[a, b]) 0 = some a := fun _ _ => rfl
  have e1 : ∀ a b : Value, extF (.tuple #[a, b]) 1 = some b := fun _ _ => rfl
  refine Rets.run hX.pres p13 (hX.free 13 (by decide) _ _) rfl fun ho => ?_
  have hl := hs.len
  rw [ints_len] at hl
  obtain ⟨n, hn, hn6⟩ : ∃ n : Nat, z.tmod 7 = n ∧ n ≤ 6 := by
    rw [Int.tmod_eq_emod_of_nonneg h0]
    exact ⟨(z % 7).toNat, by omega, by omega⟩
  have hcv : convF .i64 (.int .u8 (n : Int)) = some (.int .i64 (n : Int)) := by
    obtain rfl | rfl | rfl | rfl | rfl | rfl | rfl : n = 0 ∨ n = 1 ∨ n = 2 ∨ n = 3 ∨ n = 4 ∨ n = 5 ∨ n = 6 := by omega
    all_goals rfl
  have hA := fun G : GH => Snakes_rets hX n G
  have hv : (if (n : Int) < 0 ∨ 6 < (n : Int) then Value.tuple #[.int .i64 0, .int .i64 2] else .tuple #[.int .i64 (valP (n : Int).toNat (n : Int).toNat []), .int .i64 0]) = .tuple #[.int .i64 (snk n), .int .i64 0] := by
    rw [if_neg (by omega), Int.toNat_natCast, valP_all n hn6]
  rw [hv] at hA
  simp +decide (disch := first | assumption | (apply GH.ok_push; assumption) | exact cellV_int _ _ | exact cellV_bool _ | omega) only [go_sem, ↓reduceIte, Nat.reduceEqDiff, Nat.reduceAdd, Int.reduceToNat, hn, hcv]
  refine CallD.calm (hA _) ?_
  rintro v G1 hx1 rfl
  have hn1 := hx1.next
  have hs1 := hs.ext hx1
  have hoG1 := hx1.ok ho
  have hb7 : bsl 1 #[Value.int .i64 0, .int .i64 0, .int .i64 0, .int .i64 0, .int .i64 0, .int .i64 0, .int .i64 0] [(0, .int .i64 1), (1, .int .i64 1), (2, .int .i64 3), (3, .int .i64 11), (4, .int .i64 57), (5, .int .i64 361), (6, .int .i64 2763)] = some #[.int .i64 1, .int .i64 1, .int .i64 3, .int .i64 11, .int .i64 57, .int .i64 361, .int .i64 2763] := by
    repeat rw [bsl_cell rfl (by simp)]
    rw [bsl0]; rfl
  have hia := iaddrS_at (j := G1.next) (n := 7) (c := 7) (m := n) (x := (n : Int)) rfl (by omega)
  have hg7 : [Value.int .i64 1, .int .i64 1, .int .i64 3, .int .i64 11, .int .i64 57, .int .i64 361, .int .i64 2763][n]? = some (.int .i64 (snk n)) := by
    have hh : ∀ k : Nat, k ≤ 6 → [(1 : Nat), 1, 3, 11, 57, 361, 2763][k]? = some (snk k) := by decide
    have := hh n hn6
    have e : [Value.int .i64 1, .int .i64 1, .int .i64 3, .int .i64 11, .int .i64 57, .int .i64 361, .int .i64 2763] = [(1 : Nat), 1, 3, 11, 57, 361, 2763].map (fun (k : Nat) => Value.int .i64 (k : Int)) := rfl
    rw [e, List.getElem?_map, this]; rfl
  have hpk := (Kept.refl G1).push hoG1 (cellsOb [Value.int .i64 1, .int .i64 1, .int .i64 3, .int .i64 11, .int .i64 57, .int .i64 361, .int .i64 2763] 3)
  have hs2 := hs1.kept hpk
  have hpn := hpk.next
  by_cases c6 : (6 : Int) < L.length
  · simp +decide (disch := first | assumption | (apply GH.ok_push; assumption) | exact cellV_int _ _ | exact cellV_bool _ | omega) only [go_sem, ↓reduceIte, Nat.reduceEqDiff, Nat.reduceAdd, Int.reduceToNat, e0, e1, hb7, hia, hg7, hl]
    refine CallD.calm (hX.alive _) ?_
    rintro v G2 hx2 rfl
    simp +decide (disch := first | assumption | (apply GH.ok_push; assumption) | exact cellV_int _ _ | exact cellV_bool _ | omega) only [go_sem, ↓reduceIte, Nat.reduceEqDiff, Nat.reduceAdd, Int.reduceToNat]
    intro hx0
    exact ⟨Nat.le_refl _, rfl⟩
  · simp +decide (disch := first | assumption | (apply GH.ok_push; assumption) | exact cellV_int _ _ | exact cellV_bool _ | omega) only [go_sem, ↓reduceIte, Nat.reduceEqDiff, Nat.reduceAdd, Int.reduceToNat, e0, e1, hb7, hia, hg7, hl]
    refine CallD.calm (refRow_rets hX L (by omega) s _ hs2) ?_
    rintro v G2 hx2 rfl
    have hn2 := hx2.next
    have hs3 := hs2.ext hx2
    by_cases c : rowE L = 0
    · obtain ⟨q1, q2⟩ := turn_snake c (by omega)
      have hf := row_facts c
      simp +decide (disch := first | assumption | (apply GH.ok_push; assumption) | exact cellV_int _ _ | exact cellV_bool _ | omega) only [go_sem, ↓reduceIte, Nat.reduceEqDiff, Nat.reduceAdd, Int.reduceToNat, c, hl]
      refine CallD.calm (Turned_rets hX L (by omega) s _ hs3) ?_
      rintro v G3 hx3 ⟨u, rfl, hu3⟩
      have hn3 := hx3.next
      have hs4 := hs3.ext hx3
      rw [turnedV_row c] at hu3
      rw [c]
      have cT := turnL_row c
      simp +decide (disch := first | assumption | (apply GH.ok_push; assumption) | exact cellV_int _ _ | exact cellV_bool _ | omega) only [go_sem, ↓reduceIte, Nat.reduceEqDiff, Nat.reduceAdd, Int.reduceToNat, e0, e1]
      refine CallD.calm (IsWave_rets hX (turnL L) (by rw [turnL_len]; omega) u _ hu3) ?_
      rintro v G4 hx4 rfl
      have hn4 := hx4.next
      have hs5 := hs4.ext hx4
      rw [cT, waveB_row cT]
      simp +decide (disch := first | assumption | (apply GH.ok_push; assumption) | exact cellV_int _ _ | exact cellV_bool _ | omega) only [go_sem, ↓reduceIte, Nat.reduceEqDiff, Nat.reduceAdd, Int.reduceToNat, e0, e1]
      refine CallD.calm (IsSnake_rets hX L (by omega) (fun x hx => by have := hf.2.2.2 x hx; unfold InR; omega) s _ hs5) ?_
      rintro v G5 hx5 rfl
      have hn5 := hx5.next
      rw [q1, q2]
      simp +decide (disch := first | assumption | (apply GH.ok_push; assumption) | exact cellV_int _ _ | exact cellV_bool _ | omega) only [go_sem, ↓reduceIte, Nat.reduceEqDiff, Nat.reduceAdd, Int.reduceToNat, e0, e1]
      refine CallD.calm (hX.alive _) ?_
      rintro v G6 hx6 rfl
      simp +decide (disch := first | assumption | (apply GH.ok_push; assumption) | exact cellV_int _ _ | exact cellV_bool _ | omega) only [go_sem, ↓reduceIte, Nat.reduceEqDiff, Nat.reduceAdd, Int.reduceToNat]
      intro hx0
      exact ⟨by omega, rfl⟩
    · simp +decide (disch := first | assumption | (apply GH.ok_push; assumption) | exact cellV_int _ _ | exact cellV_bool _ | omega) only [go_sem, ↓reduceIte, Nat.reduceEqDiff, Nat.reduceAdd, Int.reduceToNat, c]
      refine CallD.calm (hX.alive _) ?_
      rintro v G3 hx3 rfl
      simp +decide (disch := first | assumption | (apply GH.ok_push; assumption) | exact cellV_int _ _ | exact cellV_bool _ | omega) only [go_sem, ↓reduceIte, Nat.reduceEqDiff, Nat.reduceAdd, Int.reduceToNat]
      intro hx0
      exact ⟨by omega, rfl⟩
end Go.Proofs.Yteeelcmnlomgmaa
