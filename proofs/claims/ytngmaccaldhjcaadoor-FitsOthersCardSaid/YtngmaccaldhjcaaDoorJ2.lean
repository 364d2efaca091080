import Derived.Test.YtngmaccaldhjcaaDoorJ1
set_option linter.all false
set_option linter.unusedSimpArgs false
set_option linter.unnecessarySimpa false
set_option linter.unusedVariables false
set_option linter.unusedSectionVars false
set_option maxRecDepth 100000
set_option maxHeartbeats 4000000
set_option linter.unusedSimpArgs false
set_option linter.unusedVariables false
namespace Go.Proofs.YtngmaccaldhjcaaDoor
open Go.Ds
theorem refIsMix_rets {X : Caller} (hX : Xok X) (n : Int) (L : List Int) (d : Int) (s : Value) (g : GH) (hs : SlR g s (ints L)) :
    Rets Tryd.prog X 19 [.int .i64 n, paV s d] g (fun v g' lo => g.next ≤ lo ∧ v = .bool (mixB n L d)) := by
  have hc := hs.cell
  have hl := hs.len
  rw [ints_len] at hl
  unfold paV
  refine Rets.run hX.pres p19 (hX.free 19 (by decide) _ _) rfl fun ho => ?_
  have hk0 := (Kept.refl g).push ho (cellsOb [s, .int .i64 d] 25)
  by_cases c1 : n < 1
  · simp +decide (disch := first | assumption | exact cellV_int _ _ | exact cellV_bool _ | omega | (simp only [GH.pn, GH.sn] <;> omega) | (with_reducible ((repeat (first | apply GH.ok_push | apply GH.ok_set)); assumption)) | ((try simp only [GH.push_hid, GH.set_hid]); first | assumption | (refine GH.vis ?_ ?_ <;> first | assumption | ((try simp only [GH.pn, GH.sn]) <;> omega)))) only [go_sem, ↓reduceIte, Nat.reduceEqDiff, Nat.reduceAdd, Int.reduceToNat, Int.reduceAdd, Int.reduceNeg, Int.reduceSub, Int.reduceMul, Int.reduceLT, Int.reduceLE, Int.reduceEq, ↓GH.gp_eq, ↓GH.gp_ne, ↓GH.gs_eq, ↓GH.gs_ne, GH.push_next, GH.set_next, c1, hc]
    intro hx0
    exact ⟨Nat.le_refl _, by rw [mix_head (by unfold headB; rw [decide_eq_false (show ¬ 1 ≤ n by omega)]; rfl)]⟩
  by_cases c2 : 3 < n
  · simp +decide (disch := first | assumption | exact cellV_int _ _ | exact cellV_bool _ | omega | (simp only [GH.pn, GH.sn] <;> omega) | (with_reducible ((repeat (first | apply GH.ok_push | apply GH.ok_set)); assumption)) | ((try simp only [GH.push_hid, GH.set_hid]); first | assumption | (refine GH.vis ?_ ?_ <;> first | assumption | ((try simp only [GH.pn, GH.sn]) <;> omega)))) only [go_sem, ↓reduceIte, Nat.reduceEqDiff, Nat.reduceAdd, Int.reduceToNat, Int.reduceAdd, Int.reduceNeg, Int.reduceSub, Int.reduceMul, Int.reduceLT, Int.reduceLE, Int.reduceEq, ↓GH.gp_eq, ↓GH.gp_ne, ↓GH.gs_eq, ↓GH.gs_ne, GH.push_next, GH.set_next, c1, c2, hc]
    intro hx0
    exact ⟨Nat.le_refl _, by rw [mix_head (by unfold headB; rw [decide_eq_false (show ¬ n ≤ 3 by omega)]; simp)]⟩
  by_cases c3 : (L.length : Int) = n
  case neg =>
    simp +decide (disch := first | assumption | exact cellV_int _ _ | exact cellV_bool _ | omega | (simp only [GH.pn, GH.sn] <;> omega) | (with_reducible ((repeat (first | apply GH.ok_push | apply GH.ok_set)); assumption)) | ((try simp only [GH.push_hid, GH.set_hid]); first | assumption | (refine GH.vis ?_ ?_ <;> first | assumption | ((try simp only [GH.pn, GH.sn]) <;> omega)))) only [go_sem, ↓reduceIte, Nat.reduceEqDiff, Nat.reduceAdd, Int.reduceToNat, Int.reduceAdd, Int.reduceNeg, Int.reduceSub, Int.reduceMul, Int.reduceLT, Int.reduceLE, Int.reduceEq, ↓GH.gp_eq, ↓GH.gp_ne, ↓GH.gs_eq, ↓GH.gs_ne, GH.push_next, GH.set_next, c1, c2, c3, hc, hl]
    intro hx0
    exact ⟨Nat.le_refl _, by rw [mix_head (by unfold headB; rw [decide_eq_false c3]; simp)]⟩
  by_cases c4 : d < 1
  · simp +decide (disch := first | assumption | exact cellV_int _ _ | exact cellV_bool _ | omega | (simp only [GH.pn, GH.sn] <;> omega) | (with_reducible ((repeat (first | apply GH.ok_push | apply GH.ok_set)); assumption)) | ((try simp only [GH.push_hid, GH.set_hid]); first | assumption | (refine GH.vis ?_ ?_ <;> first | assumption | ((try simp only [GH.pn, GH.sn]) <;> omega)))) only [go_sem, ↓reduceIte, Nat.reduceEqDiff, Nat.reduceAdd, Int.reduceToNat, Int.reduceAdd, Int.reduceNeg, Int.reduceSub, Int.reduceMul, Int.reduceLT, Int.reduceLE, Int.reduceEq, ↓GH.gp_eq, ↓GH.gp_ne, ↓GH.gs_eq, ↓GH.gs_ne, GH.push_next, GH.set_next, c1, c2, c3, c4, hc, hl]
    intro hx0
    exact ⟨Nat.le_refl _, by rw [mix_head (by unfold headB; rw [decide_eq_false (show ¬ 1 ≤ d by omega)]; simp)]⟩
  by_cases c5 : 10000 < d
  · simp +decide (disch := first | assumption | exact cellV_int _ _ | exact cellV_bool _ | omega | (simp only [GH.pn, GH.sn] <;> omega) | (with_reducible ((repeat (first | apply GH.ok_push | apply GH.ok_set)); assumption)) | ((try simp only [GH.push_hid, GH.set_hid]); first | assumption | (refine GH.vis ?_ ?_ <;> first | assumption | ((try simp only [GH.pn, GH.sn]) <;> omega)))) only [go_sem, ↓reduceIte, Nat.reduceEqDiff, Nat.reduceAdd, Int.reduceToNat, Int.reduceAdd, Int.reduceNeg, Int.reduceSub, Int.reduceMul, Int.reduceLT, Int.reduceLE, Int.reduceEq, ↓GH.gp_eq, ↓GH.gp_ne, ↓GH.gs_eq, ↓GH.gs_ne, GH.push_next, GH.set_next, c1, c2, c3, c4, c5, hc, hl]
    intro hx0
    exact ⟨Nat.le_refl _, by rw [mix_head (by unfold headB; rw [decide_eq_false (show ¬ d ≤ 10000 by omega)]; simp)]⟩
  have hh := head_true (show 1 ≤ n by omega) (by omega) c3 (by omega) (show d ≤ 10000 by omega)
  simp +decide (disch := first | assumption | exact cellV_int _ _ | exact cellV_bool _ | omega | (simp only [GH.pn, GH.sn] <;> omega) | (with_reducible ((repeat (first | apply GH.ok_push | apply GH.ok_set)); assumption)) | ((try simp only [GH.push_hid, GH.set_hid]); first | assumption | (refine GH.vis ?_ ?_ <;> first | assumption | ((try simp only [GH.pn, GH.sn]) <;> omega)))) only [go_sem, ↓reduceIte, Nat.reduceEqDiff, Nat.reduceAdd, Int.reduceToNat, Int.reduceAdd, Int.reduceNeg, Int.reduceSub, Int.reduceMul, Int.reduceLT, Int.reduceLE, Int.reduceEq, ↓GH.gp_eq, ↓GH.gp_ne, ↓GH.gs_eq, ↓GH.gs_ne, GH.push_next, GH.set_next, c1, c2, c3, c4, c5, hc, hl]
  refine Wk.loops (fun m e g' lo => g.next ≤ lo ∧ Kept (g.push (cellsOb [s, .int .i64 d] 25)) g' ∧ ∃ i : Nat, i + m = L.length ∧ (ev e (.s 3) = ptrTo g.next ∧ ev e (.s 0) = .int .i64 n ∧ ev e (.s 7) = .int .i64 i ∧ ev e (.s 5) = .int .i64 (sumL (L.take i)) ∧ ev e (.s 6) = .int .i64 (gcdL d.natAbs (L.take i) : Nat)) ∧ (L.take i).all (inD d) = true)
    (fun e g' lo => g.next ≤ lo ∧ Kept (g.push (cellsOb [s, .int .i64 d] 25)) g' ∧ (ev e (.s 3) = ptrTo g.next ∧ ev e (.s 5) = .int .i64 (sumL L) ∧ ev e (.s 6) = .int .i64 (gcdL d.natAbs L : Nat)) ∧ L.all (inD d) = true) (n := L.length) ?_ ?_ ?_
  · refine ⟨Nat.le_refl _, Kept.refl _, 0, by omega, ?_, rfl⟩
    have e1 : (Value.int .i64 (gcdL d.natAbs (L.take 0) : Nat)) = .int .i64 d := by
      show Value.int .i64 ((d.natAbs : Nat) : Int) = _
      rw [show ((d.natAbs : Nat) : Int) = d by omega]
    rw [e1]
    exact (by simp +decide (disch := first | assumption | (apply GH.ok_push; assumption) | exact cellV_int _ _ | exact cellV_bool _ | omega) only [go_sem, ↓reduceIte, Nat.reduceEqDiff, Nat.reduceAdd, Int.reduceToNat, hc]; first | done | exact rfl)
  · rintro e g' lo - - ⟨hlo, hk, he, h⟩
    have hgt : g'.get g.next = cellsOb [s, .int .i64 d] 25 := (hk.gets _ (Nat.lt_succ_self _)).trans (by rw [GH.gp_eq ho rfl])
    have hM : mixB n L d = (decide (sumL L = d) && decide (gcdL d.natAbs L = 1)) := by unfold mixB; rw [hh, h]; simp
    by_cases q1 : sumL L = d
    · by_cases q2 : gcdL d.natAbs L = 1
      · have q2' : ((gcdL d.natAbs L : Nat) : Int) = 1 := by omega
        simp +decide (disch := first | assumption | (apply GH.ok_push; assumption) | exact cellV_int _ _ | exact cellV_bool _ | omega) only [go_sem, ↓reduceIte, Nat.reduceEqDiff, Nat.reduceAdd, Int.reduceToNat, he, hgt, q1, q2']
        intro hx
        exact ⟨hlo, by rw [hM, decide_eq_true q1, decide_eq_true q2]; rfl⟩
      · have q2' : ¬ ((gcdL d.natAbs L : Nat) : Int) = 1 := by omega
        simp +decide (disch := first | assumption | (apply GH.ok_push; assumption) | exact cellV_int _ _ | exact cellV_bool _ | omega) only [go_sem, ↓reduceIte, Nat.reduceEqDiff, Nat.reduceAdd, Int.reduceToNat, he, hgt, q1, q2']
        intro hx
        exact ⟨hlo, by rw [hM, decide_eq_true q1, decide_eq_false q2]; rfl⟩
    · simp +decide (disch := first | assumption | (apply GH.ok_push; assumption) | exact cellV_int _ _ | exact cellV_bool _ | omega) only [go_sem, ↓reduceIte, Nat.reduceEqDiff, Nat.reduceAdd, Int.reduceToNat, he, hgt, q1]
      intro hx
      exact ⟨hlo, by rw [hM, decide_eq_false q1]; rfl⟩
  · rintro m e g' lo ho' hl' ih out ⟨hlo, hk, i, hi, he, hp⟩
    have hgt : g'.get g.next = cellsOb [s, .int .i64 d] 25 := (hk.gets _ (Nat.lt_succ_self _)).trans (by rw [GH.gp_eq ho rfl])
    have hgn : g.next + 1 ≤ g'.next := hk.next
    by_cases ci : i < L.length
    · obtain ⟨j1, o1, hj1, hp1, hp2⟩ := ((hs.kept hk0).kept hk).ptr (ints_get (D := L) (i := i) ci)
      have hp1 := hp1 (i : Int) rfl
      have hLi := getD_get (0 : Int) ci
      obtain ⟨x, hx'⟩ : ∃ x, L.getD i 0 = x := ⟨_, rfl⟩
      rw [hx'] at hp2 hLi
      have bad : inD d x = false → mixB n L d = false := fun hb => by
        unfold mixB
        rw [all_bad hLi hb, Bool.and_false]; rfl
      by_cases d1 : x < 0
      · simp +decide (disch := first | assumption | (apply GH.ok_push; assumption) | exact cellV_int _ _ | exact cellV_bool _ | omega) only [go_sem, ↓reduceIte, Nat.reduceEqDiff, Nat.reduceAdd, Int.reduceToNat, he, hp1, hp2, hgt, d1]
        intro hx
        refine ⟨hlo, ?_⟩
        rw [bad (by unfold inD; rw [decide_eq_false (by omega)]; rfl)]
      · by_cases d2 : d < x
        · simp +decide (disch := first | assumption | (apply GH.ok_push; assumption) | exact cellV_int _ _ | exact cellV_bool _ | omega) only [go_sem, ↓reduceIte, Nat.reduceEqDiff, Nat.reduceAdd, Int.reduceToNat, he, hp1, hp2, hgt, d1, d2]
          intro hx
          refine ⟨hlo, ?_⟩
          rw [bad (by unfold inD; rw [decide_eq_false (show ¬ x ≤ d by omega), Bool.and_false])]
        · have hsb := sumL_bound d _ hp (by omega)
          have hlt : ((L.take i).length : Int) ≤ 3 := by rw [List.length_take]; omega
          have hmul := Int.mul_le_mul_of_nonneg_left hlt (show 0 ≤ d by omega)
          have hgl := gcdL_le d.natAbs (by omega) (L.take i)
          have hgc := fun g' => gcdR_rets hX ((gcdL d.natAbs (L.take i) : Nat) : Int) x (by unfold Sm; omega) (by unfold Sm; omega) g'
          rw [Int.natAbs_natCast] at hgc
          simp +decide (disch := first | assumption | (apply GH.ok_push; assumption) | exact cellV_int _ _ | exact cellV_bool _ | omega) only [go_sem, ↓reduceIte, Nat.reduceEqDiff, Nat.reduceAdd, Int.reduceToNat, he, hp1, hp2, hgt, d1, d2]
          refine CallD.calm (hgc _) ?_
          rintro v g2 hx2 rfl
          have hn2 := hx2.next
          simp +decide (disch := first | assumption | (apply GH.ok_push; assumption) | exact cellV_int _ _ | exact cellV_bool _ | omega) only [go_sem, ↓reduceIte, Nat.reduceEqDiff, Nat.reduceAdd, Int.reduceToNat, he]
          refine ih (m - 1) _ _ _ (by omega) ⟨hlo, hk.ext hx2, i + 1, by omega, ?_, ?_⟩
          · rw [sumL_snoc L i _ hLi, gcdL_snoc _ L i _ hLi]
            exact (by simp +decide (disch := first | assumption | (apply GH.ok_push; assumption) | exact cellV_int _ _ | exact cellV_bool _ | omega) only [go_sem, ↓reduceIte, Nat.reduceEqDiff, Nat.reduceAdd, Int.reduceToNat, he]; first | done | exact rfl)
          · rw [all_snoc _ L i _ hLi, hp]
            unfold inD
            rw [decide_eq_true (by omega), decide_eq_true (by omega)]; rfl
    · have ci' : ¬ (i : Int) < n := by omega
      simp +decide (disch := first | assumption | (apply GH.ok_push; assumption) | exact cellV_int _ _ | exact cellV_bool _ | omega) only [go_sem, ↓reduceIte, Nat.reduceEqDiff, Nat.reduceAdd, Int.reduceToNat, he, ci']
      rw [List.take_of_length_le (by omega)] at hp he
      exact out _ _ _ ⟨hlo, hk, (by simp +decide (disch := first | assumption | (apply GH.ok_push; assumption) | exact cellV_int _ _ | exact cellV_bool _ | omega) only [go_sem, ↓reduceIte, Nat.reduceEqDiff, Nat.reduceAdd, Int.reduceToNat, he]; first | done | exact rfl), hp⟩
/-! ## The errors of a table and mixtures -/
def err1 (T : List (List Int)) (L : List Int) (d : Int) : Int := if tabB T = true ∧ mixB T.length L d = true then 0 else 2
def err2 (T : List (List Int)) (L : List Int) (d : Int) (M : List Int) (f : Int) : Int := if tabB T = true ∧ mixB T.length L d = true ∧ mixB T.length M f = true then 0 else 2
def Few (T : List (List Int)) : Prop := T.length < 1000000 ∧ ∀ R ∈ T, R.length < 1000000
theorem check1_rets {X : Caller} (hX : Xok X) (T : List (List Int)) (hF : Few T) (L : List Int) (d : Int) (t s : Value) (j : Nat) (ty : TypeId) (g : GH) (ht : Sl2 g t T) (hs : SlR g s (ints L)) (hj : j < g.next) (hg : g.get j = cellsOb [s, .int .i64 d] ty) :
    Rets Tryd.prog X 49 [t, .slice (some ⟨j, 0, none⟩) 1 1] g (fun v g' lo => g.next ≤ lo ∧ v = .int .i64 (err1 T L d)) := by
  have hl := ht.len
  have hc := hs.cell
  have hia : iaddrSF 2 (.slice (some ⟨j, 0, none⟩) 1 1) (.int .i64 0) = some (.pointer (some ⟨j, 0, none⟩)) := rfl
  refine Rets.run hX.pres p49 (hX.free 49 (by decide) _ _) rfl fun ho => ?_
  simp +decide (disch := first | assumption | exact cellV_int _ _ | exact cellV_bool _ | omega | (simp only [GH.pn, GH.sn] <;> omega) | (with_reducible ((repeat (first | apply GH.ok_push | apply GH.ok_set)); assumption)) | ((try simp only [GH.push_hid, GH.set_hid]); first | assumption | (refine GH.vis ?_ ?_ <;> first | assumption | ((try simp only [GH.pn, GH.sn]) <;> omega)))) only [go_sem, ↓reduceIte, Nat.reduceEqDiff, Nat.reduceAdd, Int.reduceToNat, Int.reduceAdd, Int.reduceNeg, Int.reduceSub, Int.reduceMul, Int.reduceLT, Int.reduceLE, Int.reduceEq, ↓GH.gp_eq, ↓GH.gp_ne, ↓GH.gs_eq, ↓GH.gs_ne, GH.push_next, GH.set_next]
  refine CallD.calm (isTable_rets hX T hF.2 t _ ht hF.1) ?_
  rintro v g1 hx1 rfl
  have hn1 := hx1.next
  have hok1 := hx1.ok ho
  have hg1 : g1.get j = cellsOb [s, .int .i64 d] ty := (hx1.gets _ hj).trans hg
  unfold err1
  cases hb : tabB T with
  | false =>
    simp +decide (disch := first | assumption | exact cellV_int _ _ | exact cellV_bool _ | omega | (simp only [GH.pn, GH.sn] <;> omega) | (with_reducible ((repeat (first | apply GH.ok_push | apply GH.ok_set)); assumption)) | ((try simp only [GH.push_hid, GH.set_hid]); first | assumption | (refine GH.vis ?_ ?_ <;> first | assumption | ((try simp only [GH.pn, GH.sn]) <;> omega)))) only [go_sem, ↓reduceIte, Nat.reduceEqDiff, Nat.reduceAdd, Int.reduceToNat, Int.reduceAdd, Int.reduceNeg, Int.reduceSub, Int.reduceMul, Int.reduceLT, Int.reduceLE, Int.reduceEq, ↓GH.gp_eq, ↓GH.gp_ne, ↓GH.gs_eq, ↓GH.gs_ne, GH.push_next, GH.set_next]
    intro hx
    exact ⟨Nat.le_refl _, by first | rfl | (rw [if_neg]; simp)⟩
  | true =>
    simp +decide (disch := first | assumption | exact cellV_int _ _ | exact cellV_bool _ | omega | (simp only [GH.pn, GH.sn] <;> omega) | (with_reducible ((repeat (first | apply GH.ok_push | apply GH.ok_set)); assumption)) | ((try simp only [GH.push_hid, GH.set_hid]); first | assumption | (refine GH.vis ?_ ?_ <;> first | assumption | ((try simp only [GH.pn, GH.sn]) <;> omega)))) only [go_sem, ↓reduceIte, Nat.reduceEqDiff, Nat.reduceAdd, Int.reduceToNat, Int.reduceAdd, Int.reduceNeg, Int.reduceSub, Int.reduceMul, Int.reduceLT, Int.reduceLE, Int.reduceEq, ↓GH.gp_eq, ↓GH.gp_ne, ↓GH.gs_eq, ↓GH.gs_ne, GH.push_next, GH.set_next]
    refine Wk.once ?_
    simp +decide (disch := first | assumption | exact cellV_int _ _ | exact cellV_bool _ | omega | (simp only [GH.pn, GH.sn] <;> omega) | (with_reducible ((repeat (first | apply GH.ok_push | apply GH.ok_set)); assumption)) | ((try simp only [GH.push_hid, GH.set_hid]); first | assumption | (refine GH.vis ?_ ?_ <;> first | assumption | ((try simp only [GH.pn, GH.sn]) <;> omega)))) only [go_sem, ↓reduceIte, Nat.reduceEqDiff, Nat.reduceAdd, Int.reduceToNat, Int.reduceAdd, Int.reduceNeg, Int.reduceSub, Int.reduceMul, Int.reduceLT, Int.reduceLE, Int.reduceEq, ↓GH.gp_eq, ↓GH.gp_ne, ↓GH.gs_eq, ↓GH.gs_ne, GH.push_next, GH.set_next, hia, hg1, hc, hl]
    have hm := fun g' h => isMix_rets hX T.length L d s g' h
    unfold paV at hm
    refine CallD.calm (hm _ (((hs.ext hx1).push hok1 _).set (GH.gp_eq hok1 rfl) Nat.one_ne_zero (fun a l c e => ?_))) ?_
    · rcases hs with ⟨h, _⟩ | ⟨j2, off, cap, ob, h, h2, _⟩
      · rw [h] at e; cases e
      · rw [h] at e; cases e; show j2 ≠ g1.next; omega
    rintro v g2 hx2 rfl
    have hn2 : g1.next + 1 ≤ g2.next := hx2.next
    cases hm : mixB T.length L d with
    | false =>
      simp +decide (disch := first | assumption | exact cellV_int _ _ | exact cellV_bool _ | omega | (simp only [GH.pn, GH.sn] <;> omega) | (with_reducible ((repeat (first | apply GH.ok_push | apply GH.ok_set)); assumption)) | ((try simp only [GH.push_hid, GH.set_hid]); first | assumption | (refine GH.vis ?_ ?_ <;> first | assumption | ((try simp only [GH.pn, GH.sn]) <;> omega)))) only [go_sem, ↓reduceIte, Nat.reduceEqDiff, Nat.reduceAdd, Int.reduceToNat, Int.reduceAdd, Int.reduceNeg, Int.reduceSub, Int.reduceMul, Int.reduceLT, Int.reduceLE, Int.reduceEq, ↓GH.gp_eq, ↓GH.gp_ne, ↓GH.gs_eq, ↓GH.gs_ne, GH.push_next, GH.set_next]
      intro hx
      exact ⟨by omega, by first | rfl | (rw [if_neg]; simp)⟩
    | true =>
      simp +decide (disch := first | assumption | exact cellV_int _ _ | exact cellV_bool _ | omega | (simp only [GH.pn, GH.sn] <;> omega) | (with_reducible ((repeat (first | apply GH.ok_push | apply GH.ok_set)); assumption)) | ((try simp only [GH.push_hid, GH.set_hid]); first | assumption | (refine GH.vis ?_ ?_ <;> first | assumption | ((try simp only [GH.pn, GH.sn]) <;> omega)))) only [go_sem, ↓reduceIte, Nat.reduceEqDiff, Nat.reduceAdd, Int.reduceToNat, Int.reduceAdd, Int.reduceNeg, Int.reduceSub, Int.reduceMul, Int.reduceLT, Int.reduceLE, Int.reduceEq, ↓GH.gp_eq, ↓GH.gp_ne, ↓GH.gs_eq, ↓GH.gs_ne, GH.push_next, GH.set_next]
      repeat ((first | refine Wk.once ?_ | refine Wk.more (Wk.once ?_) | refine Wk.leave ?_); simp +decide (disch := first | assumption | exact cellV_int _ _ | exact cellV_bool _ | omega | (simp only [GH.pn, GH.sn] <;> omega) | (with_reducible ((repeat (first | apply GH.ok_push | apply GH.ok_set)); assumption)) | ((try simp only [GH.push_hid, GH.set_hid]); first | assumption | (refine GH.vis ?_ ?_ <;> first | assumption | ((try simp only [GH.pn, GH.sn]) <;> omega)))) only [go_sem, ↓reduceIte, Nat.reduceEqDiff, Nat.reduceAdd, Int.reduceToNat, Int.reduceAdd, Int.reduceNeg, Int.reduceSub, Int.reduceMul, Int.reduceLT, Int.reduceLE, Int.reduceEq, ↓GH.gp_eq, ↓GH.gp_ne, ↓GH.gs_eq, ↓GH.gs_ne, GH.push_next, GH.set_next])
      intro hx
      exact ⟨by omega, by first | rfl | rw [if_pos ⟨rfl, rfl⟩]⟩
theorem check2_rets {X : Caller} (hX : Xok X) (T : List (List Int)) (hF : Few T) (L : List Int) (d : Int) (M : List Int) (f : Int) (t s r : Value) (j : Nat) (ty : TypeId) (g : GH) (ht : Sl2 g t T) (hs : SlR g s (ints L)) (hr : SlR g r (ints M)) (hj : j < g.next) (hg : g.get j = cellsOb [s, .int .i64 d, r, .int .i64 f] ty) :
    Rets Tryd.prog X 49 [t, .slice (some ⟨j, 0, none⟩) 2 2] g (fun v g' lo => g.next ≤ lo ∧ v = .int .i64 (err2 T L d M f)) := by
  have hl := ht.len
  have hc := hs.cell
  have hcr := hr.cell
  have hia : iaddrSF 2 (.slice (some ⟨j, 0, none⟩) 2 2) (.int .i64 0) = some (.pointer (some ⟨j, 0, none⟩)) := rfl
  have hib : iaddrSF 2 (.slice (some ⟨j, 0, none⟩) 2 2) (.int .i64 1) = some (.pointer (some ⟨j, 2, none⟩)) := by
    show some (Value.pointer (some ((⟨j, 0, none⟩ : Addr).add 2))) = _
    unfold Addr.add; rfl
  refine Rets.run hX.pres p49 (hX.free 49 (by decide) _ _) rfl fun ho => ?_
  simp +decide (disch := first | assumption | exact cellV_int _ _ | exact cellV_bool _ | omega | (simp only [GH.pn, GH.sn] <;> omega) | (with_reducible ((repeat (first | apply GH.ok_push | apply GH.ok_set)); assumption)) | ((try simp only [GH.push_hid, GH.set_hid]); first | assumption | (refine GH.vis ?_ ?_ <;> first | assumption | ((try simp only [GH.pn, GH.sn]) <;> omega)))) only [go_sem, ↓reduceIte, Nat.reduceEqDiff, Nat.reduceAdd, Int.reduceToNat, Int.reduceAdd, Int.reduceNeg, Int.reduceSub, Int.reduceMul, Int.reduceLT, Int.reduceLE, Int.reduceEq, ↓GH.gp_eq, ↓GH.gp_ne, ↓GH.gs_eq, ↓GH.gs_ne, GH.push_next, GH.set_next]
  refine CallD.calm (isTable_rets hX T hF.2 t _ ht hF.1) ?_
  rintro v g1 hx1 rfl
  have hn1 := hx1.next
  have hok1 := hx1.ok ho
  have hg1 : g1.get j = cellsOb [s, .int .i64 d, r, .int .i64 f] ty := (hx1.gets _ hj).trans hg
  unfold err2
  cases hb : tabB T with
  | false =>
    simp +decide (disch := first | assumption | exact cellV_int _ _ | exact cellV_bool _ | omega | (simp only [GH.pn, GH.sn] <;> omega) | (with_reducible ((repeat (first | apply GH.ok_push | apply GH.ok_set)); assumption)) | ((try simp only [GH.push_hid, GH.set_hid]); first | assumption | (refine GH.vis ?_ ?_ <;> first | assumption | ((try simp only [GH.pn, GH.sn]) <;> omega)))) only [go_sem, ↓reduceIte, Nat.reduceEqDiff, Nat.reduceAdd, Int.reduceToNat, Int.reduceAdd, Int.reduceNeg, Int.reduceSub, Int.reduceMul, Int.reduceLT, Int.reduceLE, Int.reduceEq, ↓GH.gp_eq, ↓GH.gp_ne, ↓GH.gs_eq, ↓GH.gs_ne, GH.push_next, GH.set_next]
    intro hx
    exact ⟨Nat.le_refl _, by first | rfl | (rw [if_neg]; simp)⟩
  | true =>
    simp +decide (disch := first | assumption | exact cellV_int _ _ | exact cellV_bool _ | omega | (simp only [GH.pn, GH.sn] <;> omega) | (with_reducible ((repeat (first | apply GH.ok_push | apply GH.ok_set)); assumption)) | ((try simp only [GH.push_hid, GH.set_hid]); first | assumption | (refine GH.vis ?_ ?_ <;> first | assumption | ((try simp only [GH.pn, GH.sn]) <;> omega)))) only [go_sem, ↓reduceIte, Nat.reduceEqDiff, Nat.reduceAdd, Int.reduceToNat, Int.reduceAdd, Int.reduceNeg, Int.reduceSub, Int.reduceMul, Int.reduceLT, Int.reduceLE, Int.reduceEq, ↓GH.gp_eq, ↓GH.gp_ne, ↓GH.gs_eq, ↓GH.gs_ne, GH.push_next, GH.set_next]
    refine Wk.once ?_
    simp +decide (disch := first | assumption | exact cellV_int _ _ | exact cellV_bool _ | omega | (simp only [GH.pn, GH.sn] <;> omega) | (with_reducible ((repeat (first | apply GH.ok_push | apply GH.ok_set)); assumption)) | ((try simp only [GH.push_hid, GH.set_hid]); first | assumption | (refine GH.vis ?_ ?_ <;> first | assumption | ((try simp only [GH.pn, GH.sn]) <;> omega)))) only [go_sem, ↓reduceIte, Nat.reduceEqDiff, Nat.reduceAdd, Int.reduceToNat, Int.reduceAdd, Int.reduceNeg, Int.reduceSub, Int.reduceMul, Int.reduceLT, Int.reduceLE, Int.reduceEq, ↓GH.gp_eq, ↓GH.gp_ne, ↓GH.gs_eq, ↓GH.gs_ne, GH.push_next, GH.set_next, hia, hg1, hc, hl]
    have hm := fun g' h => isMix_rets hX T.length L d s g' h
    unfold paV at hm
    have hbl : ∀ {u : Value} {N : List Int}, SlR g u (ints N) → ∀ (a : Addr) (l c : Nat), u = .slice (some a) l c → a.block ≠ g1.next := by
      intro u N hu a l c e
      rcases hu with ⟨h, _⟩ | ⟨j2, off, cap, ob, h, h2, _⟩
      · rw [h] at e; cases e
      · rw [h] at e; cases e; show j2 ≠ g1.next; omega
    refine CallD.calm (hm _ (((hs.ext hx1).push hok1 _).set (GH.gp_eq hok1 rfl) Nat.one_ne_zero (hbl hs))) ?_
    rintro v g2 hx2 rfl
    have hn2 : g1.next + 1 ≤ g2.next := hx2.next
    have hr2 := (((hr.ext hx1).push hok1 _).set (o := cellsOb (splice 0 [.slice none 0 0, .int .i64 0] [s, .int .i64 d]) 25) (GH.gp_eq (o := cellsOb [.slice none 0 0, .int .i64 0] 25) hok1 rfl) Nat.one_ne_zero (hbl hr)).ext hx2
    have hok2 := hx2.ok (GH.ok_set (GH.ok_push hok1))
    have hg2 : g2.get j = cellsOb [s, .int .i64 d, r, .int .i64 f] ty := (hx2.gets _ (by show j < g1.next + 1; omega)).trans ((GH.gs_ne (g := g1.push _) (GH.vis hok1 (Nat.le_refl _)) (by omega)).trans ((GH.gp_ne hok1 (by omega)).trans hg1))
    cases hm : mixB T.length L d with
    | false =>
      simp +decide (disch := first | assumption | exact cellV_int _ _ | exact cellV_bool _ | omega | (simp only [GH.pn, GH.sn] <;> omega) | (with_reducible ((repeat (first | apply GH.ok_push | apply GH.ok_set)); assumption)) | ((try simp only [GH.push_hid, GH.set_hid]); first | assumption | (refine GH.vis ?_ ?_ <;> first | assumption | ((try simp only [GH.pn, GH.sn]) <;> omega)))) only [go_sem, ↓reduceIte, Nat.reduceEqDiff, Nat.reduceAdd, Int.reduceToNat, Int.reduceAdd, Int.reduceNeg, Int.reduceSub, Int.reduceMul, Int.reduceLT, Int.reduceLE, Int.reduceEq, ↓GH.gp_eq, ↓GH.gp_ne, ↓GH.gs_eq, ↓GH.gs_ne, GH.push_next, GH.set_next]
      intro hx
      exact ⟨by omega, by first | rfl | (rw [if_neg]; simp)⟩
    | true =>
      simp +decide (disch := first | assumption | exact cellV_int _ _ | exact cellV_bool _ | omega | (simp only [GH.pn, GH.sn] <;> omega) | (with_reducible ((repeat (first | apply GH.ok_push | apply GH.ok_set)); assumption)) | ((try simp only [GH.push_hid, GH.set_hid]); first | assumption | (refine GH.vis ?_ ?_ <;> first | assumption | ((try simp only [GH.pn, GH.sn]) <;> omega)))) only [go_sem, ↓reduceIte, Nat.reduceEqDiff, Nat.reduceAdd, Int.reduceToNat, Int.reduceAdd, Int.reduceNeg, Int.reduceSub, Int.reduceMul, Int.reduceLT, Int.reduceLE, Int.reduceEq, ↓GH.gp_eq, ↓GH.gp_ne, ↓GH.gs_eq, ↓GH.gs_ne, GH.push_next, GH.set_next]
      refine Wk.more (Wk.once ?_)
      simp +decide (disch := first | assumption | exact cellV_int _ _ | exact cellV_bool _ | omega | (simp only [GH.pn, GH.sn] <;> omega) | (with_reducible ((repeat (first | apply GH.ok_push | apply GH.ok_set)); assumption)) | ((try simp only [GH.push_hid, GH.set_hid]); first | assumption | (refine GH.vis ?_ ?_ <;> first | assumption | ((try simp only [GH.pn, GH.sn]) <;> omega)))) only [go_sem, ↓reduceIte, Nat.reduceEqDiff, Nat.reduceAdd, Int.reduceToNat, Int.reduceAdd, Int.reduceNeg, Int.reduceSub, Int.reduceMul, Int.reduceLT, Int.reduceLE, Int.reduceEq, ↓GH.gp_eq, ↓GH.gp_ne, ↓GH.gs_eq, ↓GH.gs_ne, GH.push_next, GH.set_next, hib, hg2, hcr, hl]
      have hm := fun g' h => isMix_rets hX T.length M f r g' h
      unfold paV at hm
      refine CallD.calm (hm _ ((hr2.push hok2 _).set (GH.gp_eq hok2 rfl) Nat.one_ne_zero (fun a l c e => ?_))) ?_
      · rcases hr with ⟨h, _⟩ | ⟨j2, off, cap, ob, h, h2, _⟩
        · rw [h] at e; cases e
        · rw [h] at e; cases e; show j2 ≠ g2.next; omega
      rintro v g3 hx3 rfl
      have hn3 : g2.next + 1 ≤ g3.next := hx3.next
      cases hm : mixB T.length M f with
      | false =>
        simp +decide (disch := first | assumption | exact cellV_int _ _ | exact cellV_bool _ | omega | (simp only [GH.pn, GH.sn] <;> omega) | (with_reducible ((repeat (first | apply GH.ok_push | apply GH.ok_set)); assumption)) | ((try simp only [GH.push_hid, GH.set_hid]); first | assumption | (refine GH.vis ?_ ?_ <;> first | assumption | ((try simp only [GH.pn, GH.sn]) <;> omega)))) only [go_sem, ↓reduceIte, Nat.reduceEqDiff, Nat.reduceAdd, Int.reduceToNat, Int.reduceAdd, Int.reduceNeg, Int.reduceSub, Int.reduceMul, Int.reduceLT, Int.reduceLE, Int.reduceEq, ↓GH.gp_eq, ↓GH.gp_ne, ↓GH.gs_eq, ↓GH.gs_ne, GH.push_next, GH.set_next]
        intro hx
        exact ⟨by omega, by first | rfl | (rw [if_neg]; simp)⟩
      | true =>
        simp +decide (disch := first | assumption | exact cellV_int _ _ | exact cellV_bool _ | omega | (simp only [GH.pn, GH.sn] <;> omega) | (with_reducible ((repeat (first | apply GH.ok_push | apply GH.ok_set)); assumption)) | ((try simp only [GH.push_hid, GH.set_hid]); first | assumption | (refine GH.vis ?_ ?_ <;> first | assumption | ((try simp only [GH.pn, GH.sn]) <;> omega)))) only [go_sem, ↓reduceIte, Nat.reduceEqDiff, Nat.reduceAdd, Int.reduceToNat, Int.reduceAdd, Int.reduceNeg, Int.reduceSub, Int.reduceMul, Int.reduceLT, Int.reduceLE, Int.reduceEq, ↓GH.gp_eq, ↓GH.gp_ne, ↓GH.gs_eq, ↓GH.gs_ne, GH.push_next, GH.set_next]
        repeat ((first | refine Wk.once ?_ | refine Wk.more (Wk.once ?_) | refine Wk.leave ?_); simp +decide (disch := first | assumption | exact cellV_int _ _ | exact cellV_bool _ | omega | (simp only [GH.pn, GH.sn] <;> omega) | (with_reducible ((repeat (first | apply GH.ok_push | apply GH.ok_set)); assumption)) | ((try simp only [GH.push_hid, GH.set_hid]); first | assumption | (refine GH.vis ?_ ?_ <;> first | assumption | ((try simp only [GH.pn, GH.sn]) <;> omega)))) only [go_sem, ↓reduceIte, Nat.reduceEqDiff, Nat.reduceAdd, Int.reduceToNat, Int.reduceAdd, Int.reduceNeg, Int.reduceSub, Int.reduceMul, Int.reduceLT, Int.reduceLE, Int.reduceEq, ↓GH.gp_eq, ↓GH.gp_ne, ↓GH.gs_eq, ↓GH.gs_ne, GH.push_next, GH.set_next])
        intro hx
        exact ⟨by omega, by first | rfl | rw [if_pos ⟨rfl, rfl, rfl⟩]⟩
end Go.Proofs.YtngmaccaldhjcaaDoor
set_option maxRecDepth 100000
set_option maxHeartbeats 4000000
set_option linter.unusedSimpArgs false
set_option linter.unusedVariables false
namespace Go.Proofs.YtngmaccaldhjcaaDoor
open Go.Ds
def mxV (x0 x1 x2 d : Int) : Value := .agg #[.int .i64 x0, .int .i64 x1, .int .i64 x2, .int .i64 d]
theorem slcA_all (j o : Nat) : slcAF 3 1 (.pointer (some ⟨j, o, none⟩)) none none = some (.slice (some ⟨j, o, none⟩) 3 3) := by
  rfl
theorem bldM (d : Int) : buildF [(0, 3), (3, 1)] none #[.int .i64 0, .int .i64 0, .int .i64 0, .int .i64 0] [(1, .int .i64 d)] = some (.agg #[.int .i64 0, .int .i64 0, .int .i64 0, .int .i64 d]) := rfl
attribute [go_sem] slcA_all bldM
theorem mixtureOf_rets {X : Caller} (hX : Xok X) (L : List Int) (hL1 : 1 ≤ L.length) (hL : L.length ≤ 3) (d : Int) (s : Value) (g : GH) (hs : SlR g s (ints L)) :
    Rets Tryd.prog X 50 [paV s d] g (fun v g' lo => g.next ≤ lo ∧ v = mxV (L.getD 0 0) (L.getD 1 0) (L.getD 2 0) d) := by
  have hc := hs.cell
  unfold paV
  refine Rets.run hX.pres p50 (hX.free 50 (by decide) _ _) rfl fun ho => ?_
  simp +decide (disch := first | assumption | exact cellV_int _ _ | exact cellV_bool _ | omega | (simp only [GH.pn, GH.sn] <;> omega) | (with_reducible ((repeat (first | apply GH.ok_push | apply GH.ok_set)); assumption)) | ((try simp only [GH.push_hid, GH.set_hid]); first | assumption | (refine GH.vis ?_ ?_ <;> first | assumption | ((try simp only [GH.pn, GH.sn]) <;> omega)))) only [go_sem, ↓reduceIte, Nat.reduceEqDiff, Nat.reduceAdd, Int.reduceToNat, Int.reduceAdd, Int.reduceNeg, Int.reduceSub, Int.reduceMul, Int.reduceLT, Int.reduceLE, Int.reduceEq, ↓GH.gp_eq, ↓GH.gp_ne, ↓GH.gs_eq, ↓GH.gs_ne, GH.push_next, GH.set_next, hc]
  refine Wk.cpyO (j := g.next + 1 + 1) (off := 0) (n := 3) (c := 3) (sv := s) (new := ints L) (cells := [.int .i64 0, .int .i64 0, .int .i64 0, .int .i64 d]) (t := 69) (by simp +decide (disch := first | assumption | (apply GH.ok_push; assumption) | exact cellV_int _ _ | exact cellV_bool _ | omega) only [go_sem, ↓reduceIte, Nat.reduceEqDiff, Nat.reduceAdd, Int.reduceToNat]; first | done | exact rfl) (by simp +decide (disch := first | assumption | (apply GH.ok_push; assumption) | exact cellV_int _ _ | exact cellV_bool _ | omega) only [go_sem, ↓reduceIte, Nat.reduceEqDiff, Nat.reduceAdd, Int.reduceToNat]; first | done | exact rfl) (hs.kept (by (repeat' first | exact Kept.refl _ | assumption | refine Kept.push ?_ ?_ _ | refine Kept.setV ?_ ?_ ?_ _) <;> (first | assumption | exact cellV_int _ _ | exact cellV_bool _ | omega | (simp only [GH.pn, GH.sn] <;> omega) | (with_reducible ((repeat (first | apply GH.ok_push | apply GH.ok_set)); assumption)) | ((try simp only [GH.push_hid, GH.set_hid]); first | assumption | (refine GH.vis ?_ ?_ <;> first | assumption | ((try simp only [GH.pn, GH.sn]) <;> omega)))))) (by simp (disch := first | assumption | exact cellV_int _ _ | exact cellV_bool _ | omega | (simp only [GH.pn, GH.sn] <;> omega) | (with_reducible ((repeat (first | apply GH.ok_push | apply GH.ok_set)); assumption)) | ((try simp only [GH.push_hid, GH.set_hid]); first | assumption | (refine GH.vis ?_ ?_ <;> first | assumption | ((try simp only [GH.pn, GH.sn]) <;> omega)))) only [↓GH.gp_eq, ↓GH.gp_ne, ↓GH.gs_eq, ↓GH.gs_ne, GH.push_next, GH.set_next]; first | done | exact rfl) (Nat.le_succ 3) (by simp only [GH.push_next, GH.set_next]; omega) (ints_cell _) (by rw [ints_len]; exact hL) (GH.ok_set (GH.ok_push (GH.ok_push (GH.ok_push ho)))) (fun h => by rw [← ints_len, h] at hL1; simp at hL1) ?_
  intro g1 lo1 sp wr hw hlo1
  have hn1 : g1.next = g.next + 1 + 1 + 1 := hw.next
  have hok1 := hw.ok
  have hA : g1.get (g.next + 1 + 1) = cellsOb [.int .i64 (L.getD 0 0), .int .i64 (L.getD 1 0), .int .i64 (L.getD 2 0), .int .i64 d] 69 := by
    rw [hw.get]
    congr 1
    match L, hL, hL1 with
    | [a], _, _ => rfl
    | [a, b], _, _ => rfl
    | [a, b, c], _, _ => rfl
  have hB : g1.get (g.next + 1) = cellsOb [.int .i64 0, .int .i64 0, .int .i64 0, .int .i64 0] 69 := (hw.others _ (by omega)).trans (by simp (disch := first | assumption | exact cellV_int _ _ | exact cellV_bool _ | omega | (simp only [GH.pn, GH.sn] <;> omega) | (with_reducible ((repeat (first | apply GH.ok_push | apply GH.ok_set)); assumption)) | ((try simp only [GH.push_hid, GH.set_hid]); first | assumption | (refine GH.vis ?_ ?_ <;> first | assumption | ((try simp only [GH.pn, GH.sn]) <;> omega)))) only [↓GH.gp_eq, ↓GH.gp_ne, ↓GH.gs_eq, ↓GH.gs_ne, GH.push_next, GH.set_next]; first | done | exact rfl)
  have hvB := GH.seen hB Nat.one_ne_zero
  simp +decide (disch := first | assumption | exact cellV_int _ _ | exact cellV_bool _ | omega | (simp only [GH.pn, GH.sn] <;> omega) | (with_reducible ((repeat (first | apply GH.ok_push | apply GH.ok_set)); assumption)) | ((try simp only [GH.push_hid, GH.set_hid]); first | assumption | (refine GH.vis ?_ ?_ <;> first | assumption | ((try simp only [GH.pn, GH.sn]) <;> omega)))) only [go_sem, ↓reduceIte, Nat.reduceEqDiff, Nat.reduceAdd, Int.reduceToNat, Int.reduceAdd, Int.reduceNeg, Int.reduceSub, Int.reduceMul, Int.reduceLT, Int.reduceLE, Int.reduceEq, ↓GH.gp_eq, ↓GH.gp_ne, ↓GH.gs_eq, ↓GH.gs_ne, GH.push_next, GH.set_next, hA, hB]
  intro hx0
  exact ⟨by omega, rfl⟩
end Go.Proofs.YtngmaccaldhjcaaDoor
set_option maxRecDepth 100000
set_option maxHeartbeats 4000000
set_option linter.unusedSimpArgs false
set_option linter.unusedVariables false
namespace Go.Proofs.YtngmaccaldhjcaaDoor
open Go.Ds
/-- A row of a table: where it lies, and what it is. -/
theorem Sl2.row {g : GH} {s : Value} {T : List (List Int)} (h : Sl2 g s T) (i : Nat) (R : List Int) (hR : T[i]? = some R) : ∃ v j o, j < g.next ∧ (∀ n : Int, n = i → iaddrSF 1 s (.int .i64 n) = some (.pointer (some ⟨j, o, none⟩))) ∧ obLoad none (g.get j) o = some v ∧ SlR g v (ints R) := by
  have hi : i < T.length := (List.getElem?_eq_some_iff.1 hR).1
  obtain ⟨v, j, o, h1, h2, h3, h4⟩ := h.ptr hi
  refine ⟨v, j, o, h1, h2, by rw [← load_eq none g j o 0]; exact h3 0, ?_⟩
  rw [List.getD_eq_getElem?_getD, hR] at h4
  exact h4
theorem bldK (n : Int) : buildF [(0, 1), (1, 9)] none #[.int .i64 0, .int .i64 0, .int .i64 0, .int .i64 0, .int .i64 0, .int .i64 0, .int .i64 0, .int .i64 0, .int .i64 0, .int .i64 0] [(0, .int .i64 n)] = some (.agg #[.int .i64 n, .int .i64 0, .int .i64 0, .int .i64 0, .int .i64 0, .int .i64 0, .int .i64 0, .int .i64 0, .int .i64 0, .int .i64 0]) := rfl
theorem spl_10 (a0 a1 a2 a3 a4 a5 a6 a7 a8 a9 b0 b1 b2 b3 b4 b5 b6 b7 b8 b9 : Value) : splice 0 [a0, a1, a2, a3, a4, a5, a6, a7, a8, a9] [b0, b1, b2, b3, b4, b5, b6, b7, b8, b9] = [b0, b1, b2, b3, b4, b5, b6, b7, b8, b9] := rfl
attribute [go_sem] bldK spl_10
theorem market1_rets {X : Caller} (hX : Xok X) (a : Int) (t : Value) (g : GH) (ht : Sl2 g t [[a]]) :
    Rets Tryd.prog X 51 [t] g (fun v g' lo => g.next ≤ lo ∧ v = mkV 1 a 0 0 0 0 0 0 0 0) := by
  have hl := ht.len
  obtain ⟨v0, j0, o0, b0, p0, l0, r0⟩ := ht.row 0 [a] rfl
  have p0 := p0 0 rfl
  unfold mkV
  refine Rets.run hX.pres p51 (hX.free 51 (by decide) _ _) rfl fun ho => ?_
  simp +decide (disch := first | assumption | exact cellV_int _ _ | exact cellV_bool _ | omega | (simp only [GH.pn, GH.sn] <;> omega) | (with_reducible ((repeat (first | apply GH.ok_push | apply GH.ok_set)); assumption)) | ((try simp only [GH.push_hid, GH.set_hid]); first | assumption | (refine GH.vis ?_ ?_ <;> first | assumption | ((try simp only [GH.pn, GH.sn]) <;> omega)))) only [go_sem, ↓reduceIte, Nat.reduceEqDiff, Nat.reduceAdd, Int.reduceToNat, Int.reduceAdd, Int.reduceNeg, Int.reduceSub, Int.reduceMul, Int.reduceLT, Int.reduceLE, Int.reduceEq, ↓GH.gp_eq, ↓GH.gp_ne, ↓GH.gs_eq, ↓GH.gs_ne, GH.push_next, GH.set_next, hl]
  refine Wk.once ?_
  simp +decide (disch := first | assumption | exact cellV_int _ _ | exact cellV_bool _ | omega | (simp only [GH.pn, GH.sn] <;> omega) | (with_reducible ((repeat (first | apply GH.ok_push | apply GH.ok_set)); assumption)) | ((try simp only [GH.push_hid, GH.set_hid]); first | assumption | (refine GH.vis ?_ ?_ <;> first | assumption | ((try simp only [GH.pn, GH.sn]) <;> omega)))) only [go_sem, ↓reduceIte, Nat.reduceEqDiff, Nat.reduceAdd, Int.reduceToNat, Int.reduceAdd, Int.reduceNeg, Int.reduceSub, Int.reduceMul, Int.reduceLT, Int.reduceLE, Int.reduceEq, ↓GH.gp_eq, ↓GH.gp_ne, ↓GH.gs_eq, ↓GH.gs_ne, GH.push_next, GH.set_next, p0, l0]
  refine Wk.cpyO (j := g.next + 1) (off := 1) (n := 3) (c := 3) (sv := v0) (new := ints [a]) (cells := [.int .i64 1, .int .i64 0, .int .i64 0, .int .i64 0, .int .i64 0, .int .i64 0, .int .i64 0, .int .i64 0, .int .i64 0, .int .i64 0]) (t := 73) (by simp +decide (disch := first | assumption | (apply GH.ok_push; assumption) | exact cellV_int _ _ | exact cellV_bool _ | omega) only [go_sem, ↓reduceIte, Nat.reduceEqDiff, Nat.reduceAdd, Int.reduceToNat]; first | done | exact rfl) (by simp +decide (disch := first | assumption | (apply GH.ok_push; assumption) | exact cellV_int _ _ | exact cellV_bool _ | omega) only [go_sem, ↓reduceIte, Nat.reduceEqDiff, Nat.reduceAdd, Int.reduceToNat]; first | done | exact rfl) (r0.kept (by (repeat' first | exact Kept.refl _ | assumption | refine Kept.push ?_ ?_ _ | refine Kept.setV ?_ ?_ ?_ _) <;> (first | assumption | exact cellV_int _ _ | exact cellV_bool _ | omega | (simp only [GH.pn, GH.sn] <;> omega) | (with_reducible ((repeat (first | apply GH.ok_push | apply GH.ok_set)); assumption)) | ((try simp only [GH.push_hid, GH.set_hid]); first | assumption | (refine GH.vis ?_ ?_ <;> first | assumption | ((try simp only [GH.pn, GH.sn]) <;> omega)))))) (by simp (disch := first | assumption | exact cellV_int _ _ | exact cellV_bool _ | omega | (simp only [GH.pn, GH.sn] <;> omega) | (with_reducible ((repeat (first | apply GH.ok_push | apply GH.ok_set)); assumption)) | ((try simp only [GH.push_hid, GH.set_hid]); first | assumption | (refine GH.vis ?_ ?_ <;> first | assumption | ((try simp only [GH.pn, GH.sn]) <;> omega)))) only [↓GH.gp_eq, ↓GH.gp_ne, ↓GH.gs_eq, ↓GH.gs_ne, GH.push_next, GH.set_next]; first | done | exact rfl) (by decide) (by simp only [GH.push_next, GH.set_next]; omega) (ints_cell _) (by simp [ints_len]) (GH.ok_set (GH.ok_push (GH.ok_push ho))) (fun h => by cases h) ?_
  intro g1 lo1 sp wr hw hlo1
  have hn1 : g1.next = g.next + 1 + 1 := hw.next
  have hok1 := hw.ok
  have hA : g1.get (g.next + 1) = cellsOb [.int .i64 1, .int .i64 a, .int .i64 0, .int .i64 0, .int .i64 0, .int .i64 0, .int .i64 0, .int .i64 0, .int .i64 0, .int .i64 0] 73 := hw.get
  have hB : g1.get g.next = cellsOb [.int .i64 0, .int .i64 0, .int .i64 0, .int .i64 0, .int .i64 0, .int .i64 0, .int .i64 0, .int .i64 0, .int .i64 0, .int .i64 0] 73 := (hw.others _ (by omega)).trans (by simp (disch := first | assumption | exact cellV_int _ _ | exact cellV_bool _ | omega | (simp only [GH.pn, GH.sn] <;> omega) | (with_reducible ((repeat (first | apply GH.ok_push | apply GH.ok_set)); assumption)) | ((try simp only [GH.push_hid, GH.set_hid]); first | assumption | (refine GH.vis ?_ ?_ <;> first | assumption | ((try simp only [GH.pn, GH.sn]) <;> omega)))) only [↓GH.gp_eq, ↓GH.gp_ne, ↓GH.gs_eq, ↓GH.gs_ne, GH.push_next, GH.set_next]; first | done | exact rfl)
  have hvB := GH.seen hB Nat.one_ne_zero
  simp +decide (disch := first | assumption | exact cellV_int _ _ | exact cellV_bool _ | omega | (simp only [GH.pn, GH.sn] <;> omega) | (with_reducible ((repeat (first | apply GH.ok_push | apply GH.ok_set)); assumption)) | ((try simp only [GH.push_hid, GH.set_hid]); first | assumption | (refine GH.vis ?_ ?_ <;> first | assumption | ((try simp only [GH.pn, GH.sn]) <;> omega)))) only [go_sem, ↓reduceIte, Nat.reduceEqDiff, Nat.reduceAdd, Int.reduceToNat, Int.reduceAdd, Int.reduceNeg, Int.reduceSub, Int.reduceMul, Int.reduceLT, Int.reduceLE, Int.reduceEq, ↓GH.gp_eq, ↓GH.gp_ne, ↓GH.gs_eq, ↓GH.gs_ne, GH.push_next, GH.set_next]
  repeat ((first | refine Wk.once ?_ | refine Wk.more (Wk.once ?_) | refine Wk.leave ?_); simp +decide (disch := first | assumption | exact cellV_int _ _ | exact cellV_bool _ | omega | (simp only [GH.pn, GH.sn] <;> omega) | (with_reducible ((repeat (first | apply GH.ok_push | apply GH.ok_set)); assumption)) | ((try simp only [GH.push_hid, GH.set_hid]); first | assumption | (refine GH.vis ?_ ?_ <;> first | assumption | ((try simp only [GH.pn, GH.sn]) <;> omega)))) only [go_sem, ↓reduceIte, Nat.reduceEqDiff, Nat.reduceAdd, Int.reduceToNat, Int.reduceAdd, Int.reduceNeg, Int.reduceSub, Int.reduceMul, Int.reduceLT, Int.reduceLE, Int.reduceEq, ↓GH.gp_eq, ↓GH.gp_ne, ↓GH.gs_eq, ↓GH.gs_ne, GH.push_next, GH.set_next, hA, hB])
  intro hx0
  exact ⟨by omega, rfl⟩
theorem market2_rets {X : Caller} (hX : Xok X) (a b c d : Int) (t : Value) (g : GH) (ht : Sl2 g t [[a, b], [c, d]]) :
    Rets Tryd.prog X 51 [t] g (fun v g' lo => g.next ≤ lo ∧ v = mkV 2 a b 0 c d 0 0 0 0) := by
  have hl := ht.len
  obtain ⟨v0, j0, o0, b0, p0, l0, r0⟩ := ht.row 0 [a, b] rfl
  have p0 := p0 0 rfl
  obtain ⟨v1, j1, o1, b1, p1, l1, r1⟩ := ht.row 1 [c, d] rfl
  have p1 := p1 1 rfl
  unfold mkV
  refine Rets.run hX.pres p51 (hX.free 51 (by decide) _ _) rfl fun ho => ?_
  simp +decide (disch := first | assumption | exact cellV_int _ _ | exact cellV_bool _ | omega | (simp only [GH.pn, GH.sn] <;> omega) | (with_reducible ((repeat (first | apply GH.ok_push | apply GH.ok_set)); assumption)) | ((try simp only [GH.push_hid, GH.set_hid]); first | assumption | (refine GH.vis ?_ ?_ <;> first | assumption | ((try simp only [GH.pn, GH.sn]) <;> omega)))) only [go_sem, ↓reduceIte, Nat.reduceEqDiff, Nat.reduceAdd, Int.reduceToNat, Int.reduceAdd, Int.reduceNeg, Int.reduceSub, Int.reduceMul, Int.reduceLT, Int.reduceLE, Int.reduceEq, ↓GH.gp_eq, ↓GH.gp_ne, ↓GH.gs_eq, ↓GH.gs_ne, GH.push_next, GH.set_next, hl]
  refine Wk.once ?_
  simp +decide (disch := first | assumption | exact cellV_int _ _ | exact cellV_bool _ | omega | (simp only [GH.pn, GH.sn] <;> omega) | (with_reducible ((repeat (first | apply GH.ok_push | apply GH.ok_set)); assumption)) | ((try simp only [GH.push_hid, GH.set_hid]); first | assumption | (refine GH.vis ?_ ?_ <;> first | assumption | ((try simp only [GH.pn, GH.sn]) <;> omega)))) only [go_sem, ↓reduceIte, Nat.reduceEqDiff, Nat.reduceAdd, Int.reduceToNat, Int.reduceAdd, Int.reduceNeg, Int.reduceSub, Int.reduceMul, Int.reduceLT, Int.reduceLE, Int.reduceEq, ↓GH.gp_eq, ↓GH.gp_ne, ↓GH.gs_eq, ↓GH.gs_ne, GH.push_next, GH.set_next, p0, l0]
  refine Wk.cpyO (j := g.next + 1) (off := 1) (n := 3) (c := 3) (sv := v0) (new := ints [a, b]) (cells := [.int .i64 2, .int .i64 0, .int .i64 0, .int .i64 0, .int .i64 0, .int .i64 0, .int .i64 0, .int .i64 0, .int .i64 0, .int .i64 0]) (t := 73) (by simp +decide (disch := first | assumption | (apply GH.ok_push; assumption) | exact cellV_int _ _ | exact cellV_bool _ | omega) only [go_sem, ↓reduceIte, Nat.reduceEqDiff, Nat.reduceAdd, Int.reduceToNat]; first | done | exact rfl) (by simp +decide (disch := first | assumption | (apply GH.ok_push; assumption) | exact cellV_int _ _ | exact cellV_bool _ | omega) only [go_sem, ↓reduceIte, Nat.reduceEqDiff, Nat.reduceAdd, Int.reduceToNat]; first | done | exact rfl) (r0.kept (by (repeat' first | exact Kept.refl _ | assumption | refine Kept.push ?_ ?_ _ | refine Kept.setV ?_ ?_ ?_ _) <;> (first | assumption | exact cellV_int _ _ | exact cellV_bool _ | omega | (simp only [GH.pn, GH.sn] <;> omega) | (with_reducible ((repeat (first | apply GH.ok_push | apply GH.ok_set)); assumption)) | ((try simp only [GH.push_hid, GH.set_hid]); first | assumption | (refine GH.vis ?_ ?_ <;> first | assumption | ((try simp only [GH.pn, GH.sn]) <;> omega)))))) (by simp (disch := first | assumption | exact cellV_int _ _ | exact cellV_bool _ | omega | (simp only [GH.pn, GH.sn] <;> omega) | (with_reducible ((repeat (first | apply GH.ok_push | apply GH.ok_set)); assumption)) | ((try simp only [GH.push_hid, GH.set_hid]); first | assumption | (refine GH.vis ?_ ?_ <;> first | assumption | ((try simp only [GH.pn, GH.sn]) <;> omega)))) only [↓GH.gp_eq, ↓GH.gp_ne, ↓GH.gs_eq, ↓GH.gs_ne, GH.push_next, GH.set_next]; first | done | exact rfl) (by decide) (by simp only [GH.push_next, GH.set_next]; omega) (ints_cell _) (by simp [ints_len]) (GH.ok_set (GH.ok_push (GH.ok_push ho))) (fun h => by cases h) ?_
  intro g1 lo1 sp wr hw hlo1
  have hn1 : g1.next = g.next + 1 + 1 := hw.next
  have hok1 := hw.ok
  have hA : g1.get (g.next + 1) = cellsOb [.int .i64 2, .int .i64 a, .int .i64 b, .int .i64 0, .int .i64 0, .int .i64 0, .int .i64 0, .int .i64 0, .int .i64 0, .int .i64 0] 73 := hw.get
  have hB : g1.get g.next = cellsOb [.int .i64 0, .int .i64 0, .int .i64 0, .int .i64 0, .int .i64 0, .int .i64 0, .int .i64 0, .int .i64 0, .int .i64 0, .int .i64 0] 73 := (hw.others _ (by omega)).trans (by simp (disch := first | assumption | exact cellV_int _ _ | exact cellV_bool _ | omega | (simp only [GH.pn, GH.sn] <;> omega) | (with_reducible ((repeat (first | apply GH.ok_push | apply GH.ok_set)); assumption)) | ((try simp only [GH.push_hid, GH.set_hid]); first | assumption | (refine GH.vis ?_ ?_ <;> first | assumption | ((try simp only [GH.pn, GH.sn]) <;> omega)))) only [↓GH.gp_eq, ↓GH.gp_ne, ↓GH.gs_eq, ↓GH.gs_ne, GH.push_next, GH.set_next]; first | done | exact rfl)
  have hk1 : Kept g g1 := hw.kept (by (repeat' first | exact Kept.refl _ | assumption | refine Kept.push ?_ ?_ _ | refine Kept.setV ?_ ?_ ?_ _) <;> (first | assumption | exact cellV_int _ _ | exact cellV_bool _ | omega | (simp only [GH.pn, GH.sn] <;> omega) | (with_reducible ((repeat (first | apply GH.ok_push | apply GH.ok_set)); assumption)) | ((try simp only [GH.push_hid, GH.set_hid]); first | assumption | (refine GH.vis ?_ ?_ <;> first | assumption | ((try simp only [GH.pn, GH.sn]) <;> omega))))) (by omega)
  have l1' : obLoad none (g1.get j1) o1 = some v1 := by rw [hk1.gets _ b1]; exact l1
  simp +decide (disch := first | assumption | exact cellV_int _ _ | exact cellV_bool _ | omega | (simp only [GH.pn, GH.sn] <;> omega) | (with_reducible ((repeat (first | apply GH.ok_push | apply GH.ok_set)); assumption)) | ((try simp only [GH.push_hid, GH.set_hid]); first | assumption | (refine GH.vis ?_ ?_ <;> first | assumption | ((try simp only [GH.pn, GH.sn]) <;> omega)))) only [go_sem, ↓reduceIte, Nat.reduceEqDiff, Nat.reduceAdd, Int.reduceToNat, Int.reduceAdd, Int.reduceNeg, Int.reduceSub, Int.reduceMul, Int.reduceLT, Int.reduceLE, Int.reduceEq, ↓GH.gp_eq, ↓GH.gp_ne, ↓GH.gs_eq, ↓GH.gs_ne, GH.push_next, GH.set_next]
  refine Wk.more (Wk.once ?_)
  simp +decide (disch := first | assumption | exact cellV_int _ _ | exact cellV_bool _ | omega | (simp only [GH.pn, GH.sn] <;> omega) | (with_reducible ((repeat (first | apply GH.ok_push | apply GH.ok_set)); assumption)) | ((try simp only [GH.push_hid, GH.set_hid]); first | assumption | (refine GH.vis ?_ ?_ <;> first | assumption | ((try simp only [GH.pn, GH.sn]) <;> omega)))) only [go_sem, ↓reduceIte, Nat.reduceEqDiff, Nat.reduceAdd, Int.reduceToNat, Int.reduceAdd, Int.reduceNeg, Int.reduceSub, Int.reduceMul, Int.reduceLT, Int.reduceLE, Int.reduceEq, ↓GH.gp_eq, ↓GH.gp_ne, ↓GH.gs_eq, ↓GH.gs_ne, GH.push_next, GH.set_next, p1, l1']
  refine Wk.cpyO (j := g.next + 1) (off := 4) (n := 3) (c := 3) (sv := v1) (new := ints [c, d]) (cells := [.int .i64 2, .int .i64 a, .int .i64 b, .int .i64 0, .int .i64 0, .int .i64 0, .int .i64 0, .int .i64 0, .int .i64 0, .int .i64 0]) (t := 73) (by simp +decide (disch := first | assumption | (apply GH.ok_push; assumption) | exact cellV_int _ _ | exact cellV_bool _ | omega) only [go_sem, ↓reduceIte, Nat.reduceEqDiff, Nat.reduceAdd, Int.reduceToNat]; first | done | exact rfl) (by simp +decide (disch := first | assumption | (apply GH.ok_push; assumption) | exact cellV_int _ _ | exact cellV_bool _ | omega) only [go_sem, ↓reduceIte, Nat.reduceEqDiff, Nat.reduceAdd, Int.reduceToNat]; first | done | exact rfl) (r1.kept hk1) hA (by simp) (by omega) (ints_cell _) (by simp [ints_len]) hok1 (fun h => by cases h) ?_
  intro g2 lo2 sp wr hw2 hlo2
  have hn2 : g2.next = g1.next := hw2.next
  have hok2 := hw2.ok
  have hA2 : g2.get (g.next + 1) = cellsOb [.int .i64 2, .int .i64 a, .int .i64 b, .int .i64 0, .int .i64 c, .int .i64 d, .int .i64 0, .int .i64 0, .int .i64 0, .int .i64 0] 73 := hw2.get
  have hB2 := (hw2.others g.next (by omega)).trans hB
  have hvB := GH.seen hB2 Nat.one_ne_zero
  simp +decide (disch := first | assumption | exact cellV_int _ _ | exact cellV_bool _ | omega | (simp only [GH.pn, GH.sn] <;> omega) | (with_reducible ((repeat (first | apply GH.ok_push | apply GH.ok_set)); assumption)) | ((try simp only [GH.push_hid, GH.set_hid]); first | assumption | (refine GH.vis ?_ ?_ <;> first | assumption | ((try simp only [GH.pn, GH.sn]) <;> omega)))) only [go_sem, ↓reduceIte, Nat.reduceEqDiff, Nat.reduceAdd, Int.reduceToNat, Int.reduceAdd, Int.reduceNeg, Int.reduceSub, Int.reduceMul, Int.reduceLT, Int.reduceLE, Int.reduceEq, ↓GH.gp_eq, ↓GH.gp_ne, ↓GH.gs_eq, ↓GH.gs_ne, GH.push_next, GH.set_next]
  repeat ((first | refine Wk.once ?_ | refine Wk.more (Wk.once ?_) | refine Wk.leave ?_); simp +decide (disch := first | assumption | exact cellV_int _ _ | exact cellV_bool _ | omega | (simp only [GH.pn, GH.sn] <;> omega) | (with_reducible ((repeat (first | apply GH.ok_push | apply GH.ok_set)); assumption)) | ((try simp only [GH.push_hid, GH.set_hid]); first | assumption | (refine GH.vis ?_ ?_ <;> first | assumption | ((try simp only [GH.pn, GH.sn]) <;> omega)))) only [go_sem, ↓reduceIte, Nat.reduceEqDiff, Nat.reduceAdd, Int.reduceToNat, Int.reduceAdd, Int.reduceNeg, Int.reduceSub, Int.reduceMul, Int.reduceLT, Int.reduceLE, Int.reduceEq, ↓GH.gp_eq, ↓GH.gp_ne, ↓GH.gs_eq, ↓GH.gs_ne, GH.push_next, GH.set_next, hA2, hB2])
  intro hx0
  exact ⟨by omega, rfl⟩
theorem market3_rets {X : Caller} (hX : Xok X) (a b c d e f p q r : Int) (t : Value) (g : GH) (ht : Sl2 g t [[a, b, c], [d, e, f], [p, q, r]]) :
    Rets Tryd.prog X 51 [t] g (fun v g' lo => g.next ≤ lo ∧ v = mkV 3 a b c d e f p q r) := by
  have hl := ht.len
  obtain ⟨v0, j0, o0, b0, p0, l0, r0⟩ := ht.row 0 [a, b, c] rfl
  have p0 := p0 0 rfl
  obtain ⟨v1, j1, o1, b1, p1, l1, r1⟩ := ht.row 1 [d, e, f] rfl
  have p1 := p1 1 rfl
  obtain ⟨v2, j2, o2, b2, p2, l2, r2⟩ := ht.row 2 [p, q, r] rfl
  have p2 := p2 2 rfl
  unfold mkV
  refine Rets.run hX.pres p51 (hX.free 51 (by decide) _ _) rfl fun ho => ?_
  simp +decide (disch := first | assumption | exact cellV_int _ _ | exact cellV_bool _ | omega | (simp only [GH.pn, GH.sn] <;> omega) | (with_reducible ((repeat (first | apply GH.ok_push | apply GH.ok_set)); assumption)) | ((try simp only [GH.push_hid, GH.set_hid]); first | assumption | (refine GH.vis ?_ ?_ <;> first | assumption | ((try simp only [GH.pn, GH.sn]) <;> omega)))) only [go_sem, ↓reduceIte, Nat.reduceEqDiff, Nat.reduceAdd, Int.reduceToNat, Int.reduceAdd, Int.reduceNeg, Int.reduceSub, Int.reduceMul, Int.reduceLT, Int.reduceLE, Int.reduceEq, ↓GH.gp_eq, ↓GH.gp_ne, ↓GH.gs_eq, ↓GH.gs_ne, GH.push_next, GH.set_next, hl]
  refine Wk.once ?_
  simp +decide (disch := first | assumption | exact cellV_int _ _ | exact cellV_bool _ | omega | (simp only [GH.pn, GH.sn] <;> omega) | (with_reducible ((repeat (first | apply GH.ok_push | apply GH.ok_set)); assumption)) | ((try simp only [GH.push_hid, GH.set_hid]); first | assumption | (refine GH.vis ?_ ?_ <;> first | assumption | ((try simp only [GH.pn, GH.sn]) <;> omega)))) only [go_sem, ↓reduceIte, Nat.reduceEqDiff, Nat.reduceAdd, Int.reduceToNat, Int.reduceAdd, Int.reduceNeg, Int.reduceSub, Int.reduceMul, Int.reduceLT, Int.reduceLE, Int.reduceEq, ↓GH.gp_eq, ↓GH.gp_ne, ↓GH.gs_eq, ↓GH.gs_ne, GH.push_next, GH.set_next, p0, l0]
  refine Wk.cpyO (j := g.next + 1) (off := 1) (n := 3) (c := 3) (sv := v0) (new := ints [a, b, c]) (cells := [.int .i64 3, .int .i64 0, .int .i64 0, .int .i64 0, .int .i64 0, .int .i64 0, .int .i64 0, .int .i64 0, .int .i64 0, .int .i64 0]) (t := 73) (by simp +decide (disch := first | assumption | (apply GH.ok_push; assumption) | exact cellV_int _ _ | exact cellV_bool _ | omega) only [go_sem, ↓reduceIte, Nat.reduceEqDiff, Nat.reduceAdd, Int.reduceToNat]; first | done | exact rfl) (by simp +decide (disch := first | assumption | (apply GH.ok_push; assumption) | exact cellV_int _ _ | exact cellV_bool _ | omega) only [go_sem, ↓reduceIte, Nat.reduceEqDiff, Nat.reduceAdd, Int.reduceToNat]; first | done | exact rfl) (r0.kept (by (repeat' first | exact Kept.refl _ | assumption | refine Kept.push ?_ ?_ _ | refine Kept.setV ?_ ?_ ?_ _) <;> (first | assumption | exact cellV_int _ _ | exact cellV_bool _ | omega | (simp only [GH.pn, GH.sn] <;> omega) | (with_reducible ((repeat (first | apply GH.ok_push | apply GH.ok_set)); assumption)) | ((try simp only [GH.push_hid, GH.set_hid]); first | assumption | (refine GH.vis ?_ ?_ <;> first | assumption | ((try simp only [GH.pn, GH.sn]) <;> omega)))))) (by simp (disch := first | assumption | exact cellV_int _ _ | exact cellV_bool _ | omega | (simp only [GH.pn, GH.sn] <;> omega) | (with_reducible ((repeat (first | apply GH.ok_push | apply GH.ok_set)); assumption)) | ((try simp only [GH.push_hid, GH.set_hid]); first | assumption | (refine GH.vis ?_ ?_ <;> first | assumption | ((try simp only [GH.pn, GH.sn]) <;> omega)))) only [↓GH.gp_eq, ↓GH.gp_ne, ↓GH.gs_eq, ↓GH.gs_ne, GH.push_next, GH.set_next]; first | done | exact rfl) (by decide) (by simp only [GH.push_next, GH.set_next]; omega) (ints_cell _) (by simp [ints_len]) (GH.ok_set (GH.ok_push (GH.ok_push ho))) (fun h => by cases h) ?_
  intro g1 lo1 sp wr hw hlo1
  have hn1 : g1.next = g.next + 1 + 1 := hw.next
  have hok1 := hw.ok
  have hA : g1.get (g.next + 1) = cellsOb [.int .i64 3, .int .i64 a, .int .i64 b, .int .i64 c, .int .i64 0, .int .i64 0, .int .i64 0, .int .i64 0, .int .i64 0, .int .i64 0] 73 := hw.get
  have hB : g1.get g.next = cellsOb [.int .i64 0, .int .i64 0, .int .i64 0, .int .i64 0, .int .i64 0, .int .i64 0, .int .i64 0, .int .i64 0, .int .i64 0, .int .i64 0] 73 := (hw.others _ (by omega)).trans (by simp (disch := first | assumption | exact cellV_int _ _ | exact cellV_bool _ | omega | (simp only [GH.pn, GH.sn] <;> omega) | (with_reducible ((repeat (first | apply GH.ok_push | apply GH.ok_set)); assumption)) | ((try simp only [GH.push_hid, GH.set_hid]); first | assumption | (refine GH.vis ?_ ?_ <;> first | assumption | ((try simp only [GH.pn, GH.sn]) <;> omega)))) only [↓GH.gp_eq, ↓GH.gp_ne, ↓GH.gs_eq, ↓GH.gs_ne, GH.push_next, GH.set_next]; first | done | exact rfl)
  have hk1 : Kept g g1 := hw.kept (by (repeat' first | exact Kept.refl _ | assumption | refine Kept.push ?_ ?_ _ | refine Kept.setV ?_ ?_ ?_ _) <;> (first | assumption | exact cellV_int _ _ | exact cellV_bool _ | omega | (simp only [GH.pn, GH.sn] <;> omega) | (with_reducible ((repeat (first | apply GH.ok_push | apply GH.ok_set)); assumption)) | ((try simp only [GH.push_hid, GH.set_hid]); first | assumption | (refine GH.vis ?_ ?_ <;> first | assumption | ((try simp only [GH.pn, GH.sn]) <;> omega))))) (by omega)
  have l1' : obLoad none (g1.get j1) o1 = some v1 := by rw [hk1.gets _ b1]; exact l1
  simp +decide (disch := first | assumption | exact cellV_int _ _ | exact cellV_bool _ | omega | (simp only [GH.pn, GH.sn] <;> omega) | (with_reducible ((repeat (first | apply GH.ok_push | apply GH.ok_set)); assumption)) | ((try simp only [GH.push_hid, GH.set_hid]); first | assumption | (refine GH.vis ?_ ?_ <;> first | assumption | ((try simp only [GH.pn, GH.sn]) <;> omega)))) only [go_sem, ↓reduceIte, Nat.reduceEqDiff, Nat.reduceAdd, Int.reduceToNat, Int.reduceAdd, Int.reduceNeg, Int.reduceSub, Int.reduceMul, Int.reduceLT, Int.reduceLE, Int.reduceEq, ↓GH.gp_eq, ↓GH.gp_ne, ↓GH.gs_eq, ↓GH.gs_ne, GH.push_next, GH.set_next]
  refine Wk.more (Wk.once ?_)
  simp +decide (disch := first | assumption | exact cellV_int _ _ | exact cellV_bool _ | omega | (simp only [GH.pn, GH.sn] <;> omega) | (with_reducible ((repeat (first | apply GH.ok_push | apply GH.ok_set)); assumption)) | ((try simp only [GH.push_hid, GH.set_hid]); first | assumption | (refine GH.vis ?_ ?_ <;> first | assumption | ((try simp only [GH.pn, GH.sn]) <;> omega)))) only [go_sem, ↓reduceIte, Nat.reduceEqDiff, Nat.reduceAdd, Int.reduceToNat, Int.reduceAdd, Int.reduceNeg, Int.reduceSub, Int.reduceMul, Int.reduceLT, Int.reduceLE, Int.reduceEq, ↓GH.gp_eq, ↓GH.gp_ne, ↓GH.gs_eq, ↓GH.gs_ne, GH.push_next, GH.set_next, p1, l1']
  refine Wk.cpyO (j := g.next + 1) (off := 4) (n := 3) (c := 3) (sv := v1) (new := ints [d, e, f]) (cells := [.int .i64 3, .int .i64 a, .int .i64 b, .int .i64 c, .int .i64 0, .int .i64 0, .int .i64 0, .int .i64 0, .int .i64 0, .int .i64 0]) (t := 73) (by simp +decide (disch := first | assumption | (apply GH.ok_push; assumption) | exact cellV_int _ _ | exact cellV_bool _ | omega) only [go_sem, ↓reduceIte, Nat.reduceEqDiff, Nat.reduceAdd, Int.reduceToNat]; first | done | exact rfl) (by simp +decide (disch := first | assumption | (apply GH.ok_push; assumption) | exact cellV_int _ _ | exact cellV_bool _ | omega) only [go_sem, ↓reduceIte, Nat.reduceEqDiff, Nat.reduceAdd, Int.reduceToNat]; first | done | exact rfl) (r1.kept hk1) hA (by simp) (by omega) (ints_cell _) (by simp [ints_len]) hok1 (fun h => by cases h) ?_
  intro g2 lo2 sp wr hw2 hlo2
  have hn2 : g2.next = g1.next := hw2.next
  have hok2 := hw2.ok
  have hA2 : g2.get (g.next + 1) = cellsOb [.int .i64 3, .int .i64 a, .int .i64 b, .int .i64 c, .int .i64 d, .int .i64 e, .int .i64 f, .int .i64 0, .int .i64 0, .int .i64 0] 73 := hw2.get
  have hB2 := (hw2.others g.next (by omega)).trans hB
  have hk2 : Kept g g2 := hw2.kept hk1 (by omega)
  have l2' : obLoad none (g2.get j2) o2 = some v2 := by rw [hk2.gets _ b2]; exact l2
  simp +decide (disch := first | assumption | exact cellV_int _ _ | exact cellV_bool _ | omega | (simp only [GH.pn, GH.sn] <;> omega) | (with_reducible ((repeat (first | apply GH.ok_push | apply GH.ok_set)); assumption)) | ((try simp only [GH.push_hid, GH.set_hid]); first | assumption | (refine GH.vis ?_ ?_ <;> first | assumption | ((try simp only [GH.pn, GH.sn]) <;> omega)))) only [go_sem, ↓reduceIte, Nat.reduceEqDiff, Nat.reduceAdd, Int.reduceToNat, Int.reduceAdd, Int.reduceNeg, Int.reduceSub, Int.reduceMul, Int.reduceLT, Int.reduceLE, Int.reduceEq, ↓GH.gp_eq, ↓GH.gp_ne, ↓GH.gs_eq, ↓GH.gs_ne, GH.push_next, GH.set_next]
  refine Wk.more (Wk.once ?_)
  simp +decide (disch := first | assumption | exact cellV_int _ _ | exact cellV_bool _ | omega | (simp only [GH.pn, GH.sn] <;> omega) | (with_reducible ((repeat (first | apply GH.ok_push | apply GH.ok_set)); assumption)) | ((try simp only [GH.push_hid, GH.set_hid]); first | assumption | (refine GH.vis ?_ ?_ <;> first | assumption | ((try simp only [GH.pn, GH.sn]) <;> omega)))) only [go_sem, ↓reduceIte, Nat.reduceEqDiff, Nat.reduceAdd, Int.reduceToNat, Int.reduceAdd, Int.reduceNeg, Int.reduceSub, Int.reduceMul, Int.reduceLT, Int.reduceLE, Int.reduceEq, ↓GH.gp_eq, ↓GH.gp_ne, ↓GH.gs_eq, ↓GH.gs_ne, GH.push_next, GH.set_next, p2, l2']
  refine Wk.cpyO (j := g.next + 1) (off := 7) (n := 3) (c := 3) (sv := v2) (new := ints [p, q, r]) (cells := [.int .i64 3, .int .i64 a, .int .i64 b, .int .i64 c, .int .i64 d, .int .i64 e, .int .i64 f, .int .i64 0, .int .i64 0, .int .i64 0]) (t := 73) (by simp +decide (disch := first | assumption | (apply GH.ok_push; assumption) | exact cellV_int _ _ | exact cellV_bool _ | omega) only [go_sem, ↓reduceIte, Nat.reduceEqDiff, Nat.reduceAdd, Int.reduceToNat]; first | done | exact rfl) (by simp +decide (disch := first | assumption | (apply GH.ok_push; assumption) | exact cellV_int _ _ | exact cellV_bool _ | omega) only [go_sem, ↓reduceIte, Nat.reduceEqDiff, Nat.reduceAdd, Int.reduceToNat]; first | done | exact rfl) (r2.kept hk2) hA2 (by simp) (by omega) (ints_cell _) (by simp [ints_len]) hok2 (fun h => by cases h) ?_
  intro g3 lo3 sp wr hw3 hlo3
  have hn3 : g3.next = g2.next := hw3.next
  have hok3 := hw3.ok
  have hA3 : g3.get (g.next + 1) = cellsOb [.int .i64 3, .int .i64 a, .int .i64 b, .int .i64 c, .int .i64 d, .int .i64 e, .int .i64 f, .int .i64 p, .int .i64 q, .int .i64 r] 73 := hw3.get
  have hB3 := (hw3.others g.next (by omega)).trans hB2
  have hvB := GH.seen hB3 Nat.one_ne_zero
  simp +decide (disch := first | assumption | exact cellV_int _ _ | exact cellV_bool _ | omega | (simp only [GH.pn, GH.sn] <;> omega) | (with_reducible ((repeat (first | apply GH.ok_push | apply GH.ok_set)); assumption)) | ((try simp only [GH.push_hid, GH.set_hid]); first | assumption | (refine GH.vis ?_ ?_ <;> first | assumption | ((try simp only [GH.pn, GH.sn]) <;> omega)))) only [go_sem, ↓reduceIte, Nat.reduceEqDiff, Nat.reduceAdd, Int.reduceToNat, Int.reduceAdd, Int.reduceNeg, Int.reduceSub, Int.reduceMul, Int.reduceLT, Int.reduceLE, Int.reduceEq, ↓GH.gp_eq, ↓GH.gp_ne, ↓GH.gs_eq, ↓GH.gs_ne, GH.push_next, GH.set_next]
  repeat ((first | refine Wk.once ?_ | refine Wk.more (Wk.once ?_) | refine Wk.leave ?_); simp +decide (disch := first | assumption | exact cellV_int _ _ | exact cellV_bool _ | omega | (simp only [GH.pn, GH.sn] <;> omega) | (with_reducible ((repeat (first | apply GH.ok_push | apply GH.ok_set)); assumption)) | ((try simp only [GH.push_hid, GH.set_hid]); first | assumption | (refine GH.vis ?_ ?_ <;> first | assumption | ((try simp only [GH.pn, GH.sn]) <;> omega)))) only [go_sem, ↓reduceIte, Nat.reduceEqDiff, Nat.reduceAdd, Int.reduceToNat, Int.reduceAdd, Int.reduceNeg, Int.reduceSub, Int.reduceMul, Int.reduceLT, Int.reduceLE, Int.reduceEq, ↓GH.gp_eq, ↓GH.gp_ne, ↓GH.gs_eq, ↓GH.gs_ne, GH.push_next, GH.set_next, hA3, hB3])
  intro hx0
  exact ⟨by omega, rfl⟩
end Go.Proofs.YtngmaccaldhjcaaDoor
set_option maxRecDepth 100000
set_option maxHeartbeats 4000000
set_option linter.unusedSimpArgs false
set_option linter.unusedVariables false
namespace Go.Proofs.YtngmaccaldhjcaaDoor
open Go.Ds
/-! ## Sets of fashions -/
def v3 (x0 x1 x2 : Int) : Nat → Int
  | 0 => x0
  | 1 => x1
  | 2 => x2
  | _ => 0
theorem ix3_any (x0 x1 x2 : Int) {i : Nat} (hi : i < 3) : idxAF 3 1 false (.agg #[.int .i64 x0, .int .i64 x1, .int .i64 x2]) (.int .i64 (i : Int)) = some (.int .i64 (v3 x0 x1 x2 i)) := by
  obtain rfl | rfl | rfl : i = 0 ∨ i = 1 ∨ i = 2 := by omega
  all_goals rfl
theorem shl_one {i : Nat} (hi : i < 4) : wrapF .i64 (1 * Int.ofNat (Nat.pow 2 (min (i : Int).toNat 64))) = ((2 ^ i : Nat) : Int) := by
  obtain rfl | rfl | rfl | rfl : i = 0 ∨ i = 1 ∨ i = 2 ∨ i = 3 := by omega
  all_goals rfl
theorem or_new {s i : Nat} (hi : i < 3) (hs : s < 2 ^ i) : intB .or .i64 (s : Int) ((2 ^ i : Nat) : Int) = some (.int .i64 ((s + 2 ^ i : Nat) : Int)) := by
  obtain rfl | rfl | rfl : i = 0 ∨ i = 1 ∨ i = 2 := by omega
  · obtain rfl : s = 0 := by simpa using hs
    rfl
  · obtain rfl | rfl : s = 0 ∨ s = 1 := by simp at hs; omega
    all_goals rfl
  · obtain rfl | rfl | rfl | rfl : s = 0 ∨ s = 1 ∨ s = 2 ∨ s = 3 := by simp at hs; omega
    all_goals rfl
/-- The set of those that are above 0. -/
def fashF (x : Nat → Int) : Nat → Nat
  | 0 => 0
  | i + 1 => fashF x i + if 0 < x i then 2 ^ i else 0
theorem fashF_lt (x : Nat → Int) : ∀ i, fashF x i < 2 ^ i
  | 0 => Nat.one_pos
  | i + 1 => by
    have := fashF_lt x i
    unfold fashF
    rw [Nat.pow_succ]
    split <;> omega
theorem fashions_rets {X : Caller} (hX : Xok X) (x0 x1 x2 d : Int) (g : GH) :
    Rets Tryd.prog X 74 [mxV x0 x1 x2 d] g (fun v g' lo => g.next ≤ lo ∧ v = .int .i64 (fashF (v3 x0 x1 x2) 3 : Nat)) := by
  unfold mxV
  refine Rets.run hX.pres p74 (hX.free 74 (by decide) _ _) rfl fun ho => ?_
  simp +decide (disch := first | assumption | exact cellV_int _ _ | exact cellV_bool _ | omega | (simp only [GH.pn, GH.sn] <;> omega) | (with_reducible ((repeat (first | apply GH.ok_push | apply GH.ok_set)); assumption)) | ((try simp only [GH.push_hid, GH.set_hid]); first | assumption | (refine GH.vis ?_ ?_ <;> first | assumption | ((try simp only [GH.pn, GH.sn]) <;> omega)))) only [go_sem, ↓reduceIte, Nat.reduceEqDiff, Nat.reduceAdd, Int.reduceToNat, Int.reduceAdd, Int.reduceNeg, Int.reduceSub, Int.reduceMul, Int.reduceLT, Int.reduceLE, Int.reduceEq, ↓GH.gp_eq, ↓GH.gp_ne, ↓GH.gs_eq, ↓GH.gs_ne, GH.push_next, GH.set_next]
  refine Wk.loops (fun m e g' lo => g.next ≤ lo ∧ ∃ i : Nat, i + m = 3 ∧ (ev e (.s 7) = .agg #[.int .i64 x0, .int .i64 x1, .int .i64 x2] ∧ ev e (.s 8) = .int .i64 i ∧ ev e (.s 3) = .int .i64 (fashF (v3 x0 x1 x2) i : Nat)))
    (fun e g' lo => g.next ≤ lo ∧ ev e (.s 3) = .int .i64 (fashF (v3 x0 x1 x2) 3 : Nat)) (n := 3) ?_ ?_ ?_
  · exact ⟨Nat.le_refl _, 0, by omega, (by simp +decide (disch := first | assumption | (apply GH.ok_push; assumption) | exact cellV_int _ _ | exact cellV_bool _ | omega) only [go_sem, ↓reduceIte, Nat.reduceEqDiff, Nat.reduceAdd, Int.reduceToNat]; first | done | exact rfl)⟩
  · rintro e g' lo - - ⟨hlo, he⟩
    simp +decide (disch := first | assumption | (apply GH.ok_push; assumption) | exact cellV_int _ _ | exact cellV_bool _ | omega) only [go_sem, ↓reduceIte, Nat.reduceEqDiff, Nat.reduceAdd, Int.reduceToNat, he]
    intro hx
    exact ⟨hlo, rfl⟩
  · rintro m e g' lo ho' hl' ih out ⟨hlo, i, hi, he⟩
    by_cases ci : i < 3
    · have hix := ix3_any x0 x1 x2 ci
      have hsh := shl_one (i := i) (by omega)
      have hor := or_new ci (fashF_lt (v3 x0 x1 x2) i)
      by_cases c : 0 < v3 x0 x1 x2 i
      · simp +decide (disch := first | assumption | (apply GH.ok_push; assumption) | exact cellV_int _ _ | exact cellV_bool _ | omega) only [go_sem, ↓reduceIte, Nat.reduceEqDiff, Nat.reduceAdd, Int.reduceToNat, he, hix, hsh, ↓hor, c]
        refine ih (m - 1) _ _ _ (by omega) ⟨hlo, i + 1, by omega, ?_⟩
        rw [fashF, if_pos c]
        exact (by simp +decide (disch := first | assumption | (apply GH.ok_push; assumption) | exact cellV_int _ _ | exact cellV_bool _ | omega) only [go_sem, ↓reduceIte, Nat.reduceEqDiff, Nat.reduceAdd, Int.reduceToNat, he]; first | done | exact rfl)
      · simp +decide (disch := first | assumption | (apply GH.ok_push; assumption) | exact cellV_int _ _ | exact cellV_bool _ | omega) only [go_sem, ↓reduceIte, Nat.reduceEqDiff, Nat.reduceAdd, Int.reduceToNat, he, hix, hsh, ↓hor, c]
        refine ih (m - 1) _ _ _ (by omega) ⟨hlo, i + 1, by omega, ?_⟩
        rw [fashF, if_neg c]
        exact (by simp +decide (disch := first | assumption | (apply GH.ok_push; assumption) | exact cellV_int _ _ | exact cellV_bool _ | omega) only [go_sem, ↓reduceIte, Nat.reduceEqDiff, Nat.reduceAdd, Int.reduceToNat, he]; first | done | exact rfl)
    · have : i = 3 := by omega
      subst this
      simp +decide (disch := first | assumption | (apply GH.ok_push; assumption) | exact cellV_int _ _ | exact cellV_bool _ | omega) only [go_sem, ↓reduceIte, Nat.reduceEqDiff, Nat.reduceAdd, Int.reduceToNat, he]
      exact out _ _ _ ⟨hlo, (by simp +decide (disch := first | assumption | (apply GH.ok_push; assumption) | exact cellV_int _ _ | exact cellV_bool _ | omega) only [go_sem, ↓reduceIte, Nat.reduceEqDiff, Nat.reduceAdd, Int.reduceToNat, he]; first | done | exact rfl)⟩
/-! ## Those that gain most -/
def stepB (st : Nat × Int) (i : Nat) (x : Int) : Nat × Int :=
  if st.1 = 0 ∨ st.2 < x then (2 ^ i, x) else if x = st.2 then (st.1 + 2 ^ i, st.2) else st
def bestS (f : Nat → Int) : Nat → Nat × Int
  | 0 => (0, 0)
  | i + 1 => stepB (bestS f i) i (f i)
theorem bestS_lt (f : Nat → Int) : ∀ i, (bestS f i).1 < 2 ^ i
  | 0 => Nat.one_pos
  | i + 1 => by
    have := bestS_lt f i
    unfold bestS stepB
    rw [Nat.pow_succ]
    have h2 : 0 < 2 ^ i := Nat.two_pow_pos i
    split
    · show 2 ^ i < _; omega
    · split
      · show _ + 2 ^ i < _; omega
      · omega
end Go.Proofs.YtngmaccaldhjcaaDoor
set_option maxRecDepth 100000
set_option maxHeartbeats 4000000
set_option linter.unusedSimpArgs false
set_option linter.unusedVariables false
namespace Go.Proofs.YtngmaccaldhjcaaDoor
open Go.Ds
/-- Small gains. -/
def Sm9 (m00 m01 m02 m10 m11 m12 m20 m21 m22 : Int) : Prop := Sm 20 m00 ∧ Sm 20 m01 ∧ Sm 20 m02 ∧ Sm 20 m10 ∧ Sm 20 m11 ∧ Sm 20 m12 ∧ Sm 20 m20 ∧ Sm 20 m21 ∧ Sm 20 m22
def rowG (m00 m01 m02 m10 m11 m12 m20 m21 m22 x0 x1 x2 : Int) : Nat → Int := v3 (m00 * x0 + m01 * x1 + m02 * x2) (m10 * x0 + m11 * x1 + m12 * x2) (m20 * x0 + m21 * x1 + m22 * x2)
theorem gain_alone {m00 m01 m02 m10 m11 m12 m20 m21 m22 x0 x1 x2 : Int} {i : Nat} (hi : i < 3) : gainZ m00 m01 m02 m10 m11 m12 m20 m21 m22 (if i = 0 then 1 else 0) (if i = 1 then 1 else 0) (if i = 2 then 1 else 0) x0 x1 x2 = rowG m00 m01 m02 m10 m11 m12 m20 m21 m22 x0 x1 x2 i := by
  obtain rfl | rfl | rfl : i = 0 ∨ i = 1 ∨ i = 2 := by omega
  all_goals (simp [gainZ, rowG, v3]; grind)
theorem best_rets {X : Caller} (hX : Xok X) (n : Nat) (hn : n ≤ 3) (m00 m01 m02 m10 m11 m12 m20 m21 m22 x0 x1 x2 d : Int) (hm : Sm9 m00 m01 m02 m10 m11 m12 m20 m21 m22) (hx : Sm 10000 x0 ∧ Sm 10000 x1 ∧ Sm 10000 x2) (g : GH) :
    Rets Tryd.prog X 59 [mkV n m00 m01 m02 m10 m11 m12 m20 m21 m22, mxV x0 x1 x2 d] g (fun v g' lo => g.next ≤ lo ∧ v = .int .i64 ((bestS (rowG m00 m01 m02 m10 m11 m12 m20 m21 m22 x0 x1 x2) n).1 : Nat)) := by
  obtain ⟨f, hf⟩ : ∃ f, rowG m00 m01 m02 m10 m11 m12 m20 m21 m22 x0 x1 x2 = f := ⟨_, rfl⟩
  rw [hf]
  unfold mkV mxV
  refine Rets.run hX.pres p59 (hX.free 59 (by decide) _ _) rfl fun ho => ?_
  obtain ⟨M, hM⟩ : ∃ M : List Value, [.int .i64 (n : Int), .int .i64 m00, .int .i64 m01, .int .i64 m02, .int .i64 m10, .int .i64 m11, .int .i64 m12, .int .i64 m20, .int .i64 m21, .int .i64 m22] = M := ⟨_, rfl⟩
  have hA : ((g.push (cellsOb [.int .i64 (n : Int), .int .i64 m00, .int .i64 m01, .int .i64 m02, .int .i64 m10, .int .i64 m11, .int .i64 m12, .int .i64 m20, .int .i64 m21, .int .i64 m22] 73)).push (cellsOb [.int .i64 x0, .int .i64 x1, .int .i64 x2, .int .i64 d] 69)).get g.next = cellsOb [.int .i64 (n : Int), .int .i64 m00, .int .i64 m01, .int .i64 m02, .int .i64 m10, .int .i64 m11, .int .i64 m12, .int .i64 m20, .int .i64 m21, .int .i64 m22] 73 := (by simp (disch := first | assumption | exact cellV_int _ _ | exact cellV_bool _ | omega | (simp only [GH.pn, GH.sn] <;> omega) | (with_reducible ((repeat (first | apply GH.ok_push | apply GH.ok_set)); assumption)) | ((try simp only [GH.push_hid, GH.set_hid]); first | assumption | (refine GH.vis ?_ ?_ <;> first | assumption | ((try simp only [GH.pn, GH.sn]) <;> omega)))) only [↓GH.gp_eq, ↓GH.gp_ne, ↓GH.gs_eq, ↓GH.gs_ne, GH.push_next, GH.set_next]; first | done | exact rfl)
  have hB : ((g.push (cellsOb [.int .i64 (n : Int), .int .i64 m00, .int .i64 m01, .int .i64 m02, .int .i64 m10, .int .i64 m11, .int .i64 m12, .int .i64 m20, .int .i64 m21, .int .i64 m22] 73)).push (cellsOb [.int .i64 x0, .int .i64 x1, .int .i64 x2, .int .i64 d] 69)).get (g.next + 1) = cellsOb [.int .i64 x0, .int .i64 x1, .int .i64 x2, .int .i64 d] 69 := (by simp (disch := first | assumption | exact cellV_int _ _ | exact cellV_bool _ | omega | (simp only [GH.pn, GH.sn] <;> omega) | (with_reducible ((repeat (first | apply GH.ok_push | apply GH.ok_set)); assumption)) | ((try simp only [GH.push_hid, GH.set_hid]); first | assumption | (refine GH.vis ?_ ?_ <;> first | assumption | ((try simp only [GH.pn, GH.sn]) <;> omega)))) only [↓GH.gp_eq, ↓GH.gp_ne, ↓GH.gs_eq, ↓GH.gs_ne, GH.push_next, GH.set_next]; first | done | exact rfl)
  simp +decide (disch := first | assumption | exact cellV_int _ _ | exact cellV_bool _ | omega | (simp only [GH.pn, GH.sn] <;> omega) | (with_reducible ((repeat (first | apply GH.ok_push | apply GH.ok_set)); assumption)) | ((try simp only [GH.push_hid, GH.set_hid]); first | assumption | (refine GH.vis ?_ ?_ <;> first | assumption | ((try simp only [GH.pn, GH.sn]) <;> omega)))) only [go_sem, ↓reduceIte, Nat.reduceEqDiff, Nat.reduceAdd, Int.reduceToNat, Int.reduceAdd, Int.reduceNeg, Int.reduceSub, Int.reduceMul, Int.reduceLT, Int.reduceLE, Int.reduceEq, ↓GH.gp_eq, ↓GH.gp_ne, ↓GH.gs_eq, ↓GH.gs_ne, GH.push_next, GH.set_next]
  obtain ⟨g2, hg2⟩ : ∃ g2, (g.push (cellsOb [.int .i64 (n : Int), .int .i64 m00, .int .i64 m01, .int .i64 m02, .int .i64 m10, .int .i64 m11, .int .i64 m12, .int .i64 m20, .int .i64 m21, .int .i64 m22] 73)).push (cellsOb [.int .i64 x0, .int .i64 x1, .int .i64 x2, .int .i64 d] 69) = g2 := ⟨_, rfl⟩
  have hgn : g2.next = g.next + 1 + 1 := by rw [← hg2]; rfl
  rw [hg2] at hA hB ⊢
  refine Wk.loops (fun m e g' lo => g.next ≤ lo ∧ Kept g2 g' ∧ ∃ i : Nat, i + m = n ∧ (ev e (.s 2) = ptrTo g.next ∧ ev e (.s 3) = ptrTo (g.next + 1) ∧ ev e (.s 10) = .int .i64 (n : Int) ∧ ev e (.s 11) = .int .i64 i ∧ ev e (.s 5) = .int .i64 ((bestS f i).1 : Nat) ∧ ev e (.s 6) = .int .i64 (bestS f i).2))
    (fun e g' lo => g.next ≤ lo ∧ ev e (.s 5) = .int .i64 ((bestS f n).1 : Nat)) (n := n) ?_ ?_ ?_
  · have b0 : bestS f 0 = (0, 0) := rfl
    exact ⟨Nat.le_refl _, Kept.refl _, 0, by omega, by rw [b0]; exact (by simp +decide (disch := first | assumption | (apply GH.ok_push; assumption) | exact cellV_int _ _ | exact cellV_bool _ | omega) only [go_sem, ↓reduceIte, Nat.reduceEqDiff, Nat.reduceAdd, Int.reduceToNat]; first | done | exact rfl)⟩
  · rintro e g' lo - - ⟨hlo, he⟩
    simp +decide (disch := first | assumption | (apply GH.ok_push; assumption) | exact cellV_int _ _ | exact cellV_bool _ | omega) only [go_sem, ↓reduceIte, Nat.reduceEqDiff, Nat.reduceAdd, Int.reduceToNat, he]
    intro hx
    exact ⟨hlo, rfl⟩
  · rintro m e g' lo ho' hl' ih out ⟨hlo, hk, i, hi, he⟩
    have hkn := hk.next
    by_cases ci : i < n
    · have hA' := (hk.gets g.next (by omega)).trans hA
      have hB' := (hk.gets (g.next + 1) (by omega)).trans hB
      have ci' : (i : Int) < n := by omega
      simp +decide (disch := first | assumption | exact cellV_int _ _ | exact cellV_bool _ | omega | (simp only [GH.pn, GH.sn] <;> omega) | (with_reducible ((repeat (first | apply GH.ok_push | apply GH.ok_set)); assumption)) | ((try simp only [GH.push_hid, GH.set_hid]); first | assumption | (refine GH.vis ?_ ?_ <;> first | assumption | ((try simp only [GH.pn, GH.sn]) <;> omega)))) only [go_sem, ↓reduceIte, Nat.reduceEqDiff, Nat.reduceAdd, Int.reduceToNat, Int.reduceAdd, Int.reduceNeg, Int.reduceSub, Int.reduceMul, Int.reduceLT, Int.reduceLE, Int.reduceEq, ↓GH.gp_eq, ↓GH.gp_ne, ↓GH.gs_eq, ↓GH.gs_ne, GH.push_next, GH.set_next, he, ci', hA']
      refine CallD.calmF rfl (fun L => alone_rets hX i (by omega) (g'.hide (L ++ g'.hid))) ?_
      rintro v G1 L hx1 rfl -
      obtain ⟨G, hG⟩ : ∃ G, G1.hide g'.hid = G := ⟨_, rfl⟩
      have hsn : G1.next = G.next := by rw [← hG]; rfl
      rw [hG] at hx1 ⊢
      have hn1 := hx1.next
      have hokG := hx1.ok ho'
      have hA2 := (hx1.gets g.next (by omega)).trans hA'
      have hB2 := (hx1.gets (g.next + 1) (by omega)).trans hB'
      have hgr := fun g' => gain_rets hX n m00 m01 m02 m10 m11 m12 m20 m21 m22 (if i = 0 then 1 else 0) (if i = 1 then 1 else 0) (if i = 2 then 1 else 0) x0 x1 x2 1 10000 20 hm (by unfold Sm; split <;> split <;> split <;> omega) hx (by decide) (by decide) g'
      rw [gain_alone (by omega), hf] at hgr
      unfold mkV vcV at hgr
      simp +decide (disch := first | assumption | exact cellV_int _ _ | exact cellV_bool _ | omega | (simp only [GH.pn, GH.sn] <;> omega) | (with_reducible ((repeat (first | apply GH.ok_push | apply GH.ok_set)); assumption)) | ((try simp only [GH.push_hid, GH.set_hid]); first | assumption | (refine GH.vis ?_ ?_ <;> first | assumption | ((try simp only [GH.pn, GH.sn]) <;> omega)))) only [go_sem, ↓reduceIte, Nat.reduceEqDiff, Nat.reduceAdd, Int.reduceToNat, Int.reduceAdd, Int.reduceNeg, Int.reduceSub, Int.reduceMul, Int.reduceLT, Int.reduceLE, Int.reduceEq, ↓GH.gp_eq, ↓GH.gp_ne, ↓GH.gs_eq, ↓GH.gs_ne, GH.push_next, GH.set_next, he, hB2, hsn]
      refine CallD.calm (hgr _) ?_
      rintro v G3 hx3 rfl
      have hn3 := hx3.next
      have hsh := shl_one (i := i) (by omega)
      have hlt := bestS_lt f i
      have hor := or_new (by omega) hlt
      have hp8 : 2 ^ i ≤ 4 := by
        obtain rfl | rfl | rfl : i = 0 ∨ i = 1 ∨ i = 2 := by omega
        all_goals decide
      have hor0 : intB .or .i64 0 ((2 ^ i : Nat) : Int) = some (.int .i64 ((2 ^ i : Nat) : Int)) := by
        have := or_new (s := 0) (i := i) (by omega) (Nat.two_pow_pos i)
        rw [Nat.zero_add] at this
        exact this
      have hkk := (hk.ext hx1).ext hx3
      have hst : bestS f (i + 1) = stepB (bestS f i) i (f i) := rfl
      unfold stepB at hst
      by_cases c1 : (bestS f i).1 = 0
      · have c1' : (((bestS f i).1 : Nat) : Int) = 0 := by omega
        rw [if_pos (.inl c1)] at hst
        simp +decide (disch := first | assumption | exact cellV_int _ _ | exact cellV_bool _ | omega | (simp only [GH.pn, GH.sn] <;> omega) | (with_reducible ((repeat (first | apply GH.ok_push | apply GH.ok_set)); assumption)) | ((try simp only [GH.push_hid, GH.set_hid]); first | assumption | (refine GH.vis ?_ ?_ <;> first | assumption | ((try simp only [GH.pn, GH.sn]) <;> omega)))) only [go_sem, ↓reduceIte, Nat.reduceEqDiff, Nat.reduceAdd, Int.reduceToNat, Int.reduceAdd, Int.reduceNeg, Int.reduceSub, Int.reduceMul, Int.reduceLT, Int.reduceLE, Int.reduceEq, ↓GH.gp_eq, ↓GH.gp_ne, ↓GH.gs_eq, ↓GH.gs_ne, GH.push_next, GH.set_next, he, c1', hsh, ↓hor0]
        refine ih (m - 1) _ _ _ (by omega) ⟨hlo, hkk, i + 1, by omega, ?_⟩
        rw [hst]
        exact (by simp +decide (disch := first | assumption | (apply GH.ok_push; assumption) | exact cellV_int _ _ | exact cellV_bool _ | omega) only [go_sem, ↓reduceIte, Nat.reduceEqDiff, Nat.reduceAdd, Int.reduceToNat, he]; first | done | exact rfl)
      · have c1' : ¬ (((bestS f i).1 : Nat) : Int) = 0 := by omega
        by_cases c2 : (bestS f i).2 < f i
        · rw [if_pos (.inr c2)] at hst
          simp +decide (disch := first | assumption | exact cellV_int _ _ | exact cellV_bool _ | omega | (simp only [GH.pn, GH.sn] <;> omega) | (with_reducible ((repeat (first | apply GH.ok_push | apply GH.ok_set)); assumption)) | ((try simp only [GH.push_hid, GH.set_hid]); first | assumption | (refine GH.vis ?_ ?_ <;> first | assumption | ((try simp only [GH.pn, GH.sn]) <;> omega)))) only [go_sem, ↓reduceIte, Nat.reduceEqDiff, Nat.reduceAdd, Int.reduceToNat, Int.reduceAdd, Int.reduceNeg, Int.reduceSub, Int.reduceMul, Int.reduceLT, Int.reduceLE, Int.reduceEq, ↓GH.gp_eq, ↓GH.gp_ne, ↓GH.gs_eq, ↓GH.gs_ne, GH.push_next, GH.set_next, he, c1', c2, hsh, ↓hor0]
          refine ih (m - 1) _ _ _ (by omega) ⟨hlo, hkk, i + 1, by omega, ?_⟩
          rw [hst]
          exact (by simp +decide (disch := first | assumption | (apply GH.ok_push; assumption) | exact cellV_int _ _ | exact cellV_bool _ | omega) only [go_sem, ↓reduceIte, Nat.reduceEqDiff, Nat.reduceAdd, Int.reduceToNat, he]; first | done | exact rfl)
        · rw [if_neg (by omega)] at hst
          by_cases c3 : f i = (bestS f i).2
          · rw [if_pos c3] at hst
            simp +decide (disch := first | assumption | exact cellV_int _ _ | exact cellV_bool _ | omega | (simp only [GH.pn, GH.sn] <;> omega) | (with_reducible ((repeat (first | apply GH.ok_push | apply GH.ok_set)); assumption)) | ((try simp only [GH.push_hid, GH.set_hid]); first | assumption | (refine GH.vis ?_ ?_ <;> first | assumption | ((try simp only [GH.pn, GH.sn]) <;> omega)))) only [go_sem, ↓reduceIte, Nat.reduceEqDiff, Nat.reduceAdd, Int.reduceToNat, Int.reduceAdd, Int.reduceNeg, Int.reduceSub, Int.reduceMul, Int.reduceLT, Int.reduceLE, Int.reduceEq, ↓GH.gp_eq, ↓GH.gp_ne, ↓GH.gs_eq, ↓GH.gs_ne, GH.push_next, GH.set_next, he, c1', c2, c3, hsh, ↓hor]
            refine ih (m - 1) _ _ _ (by omega) ⟨hlo, hkk, i + 1, by omega, ?_⟩
            rw [hst]
            exact (by simp +decide (disch := first | assumption | (apply GH.ok_push; assumption) | exact cellV_int _ _ | exact cellV_bool _ | omega) only [go_sem, ↓reduceIte, Nat.reduceEqDiff, Nat.reduceAdd, Int.reduceToNat, he]; first | done | exact rfl)
          · rw [if_neg c3] at hst
            simp +decide (disch := first | assumption | exact cellV_int _ _ | exact cellV_bool _ | omega | (simp only [GH.pn, GH.sn] <;> omega) | (with_reducible ((repeat (first | apply GH.ok_push | apply GH.ok_set)); assumption)) | ((try simp only [GH.push_hid, GH.set_hid]); first | assumption | (refine GH.vis ?_ ?_ <;> first | assumption | ((try simp only [GH.pn, GH.sn]) <;> omega)))) only [go_sem, ↓reduceIte, Nat.reduceEqDiff, Nat.reduceAdd, Int.reduceToNat, Int.reduceAdd, Int.reduceNeg, Int.reduceSub, Int.reduceMul, Int.reduceLT, Int.reduceLE, Int.reduceEq, ↓GH.gp_eq, ↓GH.gp_ne, ↓GH.gs_eq, ↓GH.gs_ne, GH.push_next, GH.set_next, he, c1', c2, c3, hsh, ↓hor]
            refine ih (m - 1) _ _ _ (by omega) ⟨hlo, hkk, i + 1, by omega, ?_⟩
            rw [hst]
            exact (by simp +decide (disch := first | assumption | (apply GH.ok_push; assumption) | exact cellV_int _ _ | exact cellV_bool _ | omega) only [go_sem, ↓reduceIte, Nat.reduceEqDiff, Nat.reduceAdd, Int.reduceToNat, he]; first | done | exact rfl)
    · have ci' : ¬ (i : Int) < n := by omega
      have : i = n := by omega
      subst this
      simp +decide (disch := first | assumption | (apply GH.ok_push; assumption) | exact cellV_int _ _ | exact cellV_bool _ | omega) only [go_sem, ↓reduceIte, Nat.reduceEqDiff, Nat.reduceAdd, Int.reduceToNat, he, ci']
      exact out _ _ _ ⟨hlo, (by simp +decide (disch := first | assumption | (apply GH.ok_push; assumption) | exact cellV_int _ _ | exact cellV_bool _ | omega) only [go_sem, ↓reduceIte, Nat.reduceEqDiff, Nat.reduceAdd, Int.reduceToNat, he]; first | done | exact rfl)⟩
/-- Those of the first set that are not in the second one. -/
def andn (a b : Nat) : Nat := a &&& (7 - b)
theorem andn_int {a b : Nat} (ha : a < 8) (hb : b < 8) : intB .andNot .i64 (a : Int) (b : Int) = some (.int .i64 ((andn a b : Nat) : Int)) := by
  obtain rfl | rfl | rfl | rfl | rfl | rfl | rfl | rfl : a = 0 ∨ a = 1 ∨ a = 2 ∨ a = 3 ∨ a = 4 ∨ a = 5 ∨ a = 6 ∨ a = 7 := by omega
  all_goals (obtain rfl | rfl | rfl | rfl | rfl | rfl | rfl | rfl : b = 0 ∨ b = 1 ∨ b = 2 ∨ b = 3 ∨ b = 4 ∨ b = 5 ∨ b = 6 ∨ b = 7 := by omega)
  all_goals rfl
theorem atRest_rets {X : Caller} (hX : Xok X) (n : Nat) (hn : n ≤ 3) (m00 m01 m02 m10 m11 m12 m20 m21 m22 x0 x1 x2 d : Int) (hm : Sm9 m00 m01 m02 m10 m11 m12 m20 m21 m22) (hx : Sm 10000 x0 ∧ Sm 10000 x1 ∧ Sm 10000 x2) (g : GH) :
    Rets Tryd.prog X 57 [mkV n m00 m01 m02 m10 m11 m12 m20 m21 m22, mxV x0 x1 x2 d] g (fun v g' lo => g.next ≤ lo ∧ v = .bool (decide (andn (fashF (v3 x0 x1 x2) 3) (bestS (rowG m00 m01 m02 m10 m11 m12 m20 m21 m22 x0 x1 x2) n).1 = 0))) := by
  have hb := fun g' => best_rets hX n hn m00 m01 m02 m10 m11 m12 m20 m21 m22 x0 x1 x2 d hm hx g'
  have hf := fun g' => fashions_rets hX x0 x1 x2 d g'
  have lt1 := fashF_lt (v3 x0 x1 x2) 3
  have lt2 := bestS_lt (rowG m00 m01 m02 m10 m11 m12 m20 m21 m22 x0 x1 x2) n
  have h8 : 2 ^ n ≤ 8 := by
    obtain rfl | rfl | rfl | rfl : n = 0 ∨ n = 1 ∨ n = 2 ∨ n = 3 := by omega
    all_goals decide
  obtain ⟨p, hp⟩ : ∃ p, fashF (v3 x0 x1 x2) 3 = p := ⟨_, rfl⟩
  obtain ⟨q, hq⟩ : ∃ q, (bestS (rowG m00 m01 m02 m10 m11 m12 m20 m21 m22 x0 x1 x2) n).1 = q := ⟨_, rfl⟩
  rw [hp] at hf lt1 ⊢
  rw [hq] at hb lt2 ⊢
  have han := andn_int (a := p) (b := q) (by omega) (by omega)
  unfold mkV mxV at *
  refine Rets.run hX.pres p57 (hX.free 57 (by decide) _ _) rfl fun ho => ?_
  have hA : ((g.push (cellsOb [.int .i64 (n : Int), .int .i64 m00, .int .i64 m01, .int .i64 m02, .int .i64 m10, .int .i64 m11, .int .i64 m12, .int .i64 m20, .int .i64 m21, .int .i64 m22] 73)).push (cellsOb [.int .i64 x0, .int .i64 x1, .int .i64 x2, .int .i64 d] 69)).get g.next = cellsOb [.int .i64 (n : Int), .int .i64 m00, .int .i64 m01, .int .i64 m02, .int .i64 m10, .int .i64 m11, .int .i64 m12, .int .i64 m20, .int .i64 m21, .int .i64 m22] 73 := (by simp (disch := first | assumption | exact cellV_int _ _ | exact cellV_bool _ | omega | (simp only [GH.pn, GH.sn] <;> omega) | (with_reducible ((repeat (first | apply GH.ok_push | apply GH.ok_set)); assumption)) | ((try simp only [GH.push_hid, GH.set_hid]); first | assumption | (refine GH.vis ?_ ?_ <;> first | assumption | ((try simp only [GH.pn, GH.sn]) <;> omega)))) only [↓GH.gp_eq, ↓GH.gp_ne, ↓GH.gs_eq, ↓GH.gs_ne, GH.push_next, GH.set_next]; first | done | exact rfl)
  have hB : ((g.push (cellsOb [.int .i64 (n : Int), .int .i64 m00, .int .i64 m01, .int .i64 m02, .int .i64 m10, .int .i64 m11, .int .i64 m12, .int .i64 m20, .int .i64 m21, .int .i64 m22] 73)).push (cellsOb [.int .i64 x0, .int .i64 x1, .int .i64 x2, .int .i64 d] 69)).get (g.next + 1) = cellsOb [.int .i64 x0, .int .i64 x1, .int .i64 x2, .int .i64 d] 69 := (by simp (disch := first | assumption | exact cellV_int _ _ | exact cellV_bool _ | omega | (simp only [GH.pn, GH.sn] <;> omega) | (with_reducible ((repeat (first | apply GH.ok_push | apply GH.ok_set)); assumption)) | ((try simp only [GH.push_hid, GH.set_hid]); first | assumption | (refine GH.vis ?_ ?_ <;> first | assumption | ((try simp only [GH.pn, GH.sn]) <;> omega)))) only [↓GH.gp_eq, ↓GH.gp_ne, ↓GH.gs_eq, ↓GH.gs_ne, GH.push_next, GH.set_next]; first | done | exact rfl)
  have hok2 : ((g.push (cellsOb [.int .i64 (n : Int), .int .i64 m00, .int .i64 m01, .int .i64 m02, .int .i64 m10, .int .i64 m11, .int .i64 m12, .int .i64 m20, .int .i64 m21, .int .i64 m22] 73)).push (cellsOb [.int .i64 x0, .int .i64 x1, .int .i64 x2, .int .i64 d] 69)).ok := GH.ok_push (GH.ok_push ho)
  simp +decide (disch := first | assumption | exact cellV_int _ _ | exact cellV_bool _ | omega | (simp only [GH.pn, GH.sn] <;> omega) | (with_reducible ((repeat (first | apply GH.ok_push | apply GH.ok_set)); assumption)) | ((try simp only [GH.push_hid, GH.set_hid]); first | assumption | (refine GH.vis ?_ ?_ <;> first | assumption | ((try simp only [GH.pn, GH.sn]) <;> omega)))) only [go_sem, ↓reduceIte, Nat.reduceEqDiff, Nat.reduceAdd, Int.reduceToNat, Int.reduceAdd, Int.reduceNeg, Int.reduceSub, Int.reduceMul, Int.reduceLT, Int.reduceLE, Int.reduceEq, ↓GH.gp_eq, ↓GH.gp_ne, ↓GH.gs_eq, ↓GH.gs_ne, GH.push_next, GH.set_next]
  refine CallD.calm (hf _) ?_
  rintro v g1 hx1 rfl
  have hn1 : g.next + 1 + 1 ≤ g1.next := hx1.next
  have hA1 := (hx1.gets g.next (by show _ < g.next + 1 + 1; omega)).trans hA
  have hB1 := (hx1.gets (g.next + 1) (by show _ < g.next + 1 + 1; omega)).trans hB
  simp +decide (disch := first | assumption | exact cellV_int _ _ | exact cellV_bool _ | omega | (simp only [GH.pn, GH.sn] <;> omega) | (with_reducible ((repeat (first | apply GH.ok_push | apply GH.ok_set)); assumption)) | ((try simp only [GH.push_hid, GH.set_hid]); first | assumption | (refine GH.vis ?_ ?_ <;> first | assumption | ((try simp only [GH.pn, GH.sn]) <;> omega)))) only [go_sem, ↓reduceIte, Nat.reduceEqDiff, Nat.reduceAdd, Int.reduceToNat, Int.reduceAdd, Int.reduceNeg, Int.reduceSub, Int.reduceMul, Int.reduceLT, Int.reduceLE, Int.reduceEq, ↓GH.gp_eq, ↓GH.gp_ne, ↓GH.gs_eq, ↓GH.gs_ne, GH.push_next, GH.set_next, hA1, hB1]
  refine CallD.calm (hb _) ?_
  rintro v g3 hx3 rfl
  have hn3 := hx3.next
  by_cases c : andn p q = 0
  · have c' : ((andn p q : Nat) : Int) = 0 := by omega
    simp +decide (disch := first | assumption | exact cellV_int _ _ | exact cellV_bool _ | omega | (simp only [GH.pn, GH.sn] <;> omega) | (with_reducible ((repeat (first | apply GH.ok_push | apply GH.ok_set)); assumption)) | ((try simp only [GH.push_hid, GH.set_hid]); first | assumption | (refine GH.vis ?_ ?_ <;> first | assumption | ((try simp only [GH.pn, GH.sn]) <;> omega)))) only [go_sem, ↓reduceIte, Nat.reduceEqDiff, Nat.reduceAdd, Int.reduceToNat, Int.reduceAdd, Int.reduceNeg, Int.reduceSub, Int.reduceMul, Int.reduceLT, Int.reduceLE, Int.reduceEq, ↓GH.gp_eq, ↓GH.gp_ne, ↓GH.gs_eq, ↓GH.gs_ne, GH.push_next, GH.set_next, ↓han, c']
    intro hx0
    exact ⟨by omega, rfl⟩
  · have c' : ¬ ((andn p q : Nat) : Int) = 0 := by omega
    simp +decide (disch := first | assumption | exact cellV_int _ _ | exact cellV_bool _ | omega | (simp only [GH.pn, GH.sn] <;> omega) | (with_reducible ((repeat (first | apply GH.ok_push | apply GH.ok_set)); assumption)) | ((try simp only [GH.push_hid, GH.set_hid]); first | assumption | (refine GH.vis ?_ ?_ <;> first | assumption | ((try simp only [GH.pn, GH.sn]) <;> omega)))) only [go_sem, ↓reduceIte, Nat.reduceEqDiff, Nat.reduceAdd, Int.reduceToNat, Int.reduceAdd, Int.reduceNeg, Int.reduceSub, Int.reduceMul, Int.reduceLT, Int.reduceLE, Int.reduceEq, ↓GH.gp_eq, ↓GH.gp_ne, ↓GH.gs_eq, ↓GH.gs_ne, GH.push_next, GH.set_next, ↓han, c']
    intro hx0
    exact ⟨by omega, rfl⟩
end Go.Proofs.YtngmaccaldhjcaaDoor
