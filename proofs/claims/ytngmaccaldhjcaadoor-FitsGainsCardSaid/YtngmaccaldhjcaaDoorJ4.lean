import Derived.Test.YtngmaccaldhjcaaDoorJ3
import Derived.Test.YtngmaccaldhjcaaDoorKe
import Derived.Test.YtngmaccaldhjcaaDoorDtO
set_option linter.all false
set_option linter.unusedSimpArgs false
set_option linter.unnecessarySimpa false
set_option linter.unusedVariables false
set_option linter.unusedSectionVars false
set_option maxRecDepth 100000
set_option maxHeartbeats 4000000
set_option linter.unusedSimpArgs false
set_option linter.unusedVariables false
namespace Go.Proofs.YtngmaccaldhjcaaDoor
open Go.Ds
def fewT (T : List (List Int)) : Bool := decide (T.length ≤ 20) && T.all (fun R => decide (R.length ≤ 20))
theorem fewT_Few {T : List (List Int)} (h : fewT T = true) : Few T := by
  unfold fewT at h
  simp only [Bool.and_eq_true, decide_eq_true_eq, List.all_eq_true] at h
  exact ⟨by omega, fun R hR => by have := h.2 R hR; omega⟩
theorem few0_rets {X : Caller} (hX : Xok X) (T : List (List Int)) (t : Value) (g : GH) (ht : Sl2 g t T) :
    Rets Tryd.prog X 15 [t, .slice none 0 0] g (fun v g' lo => g.next ≤ lo ∧ v = .bool (fewT T)) := by
  have hl := ht.len
  refine Rets.run hX.pres p15 (hX.free 15 (by decide) _ _) rfl fun ho => ?_
  by_cases c0 : (20 : Int) < T.length
  · simp +decide (disch := first | assumption | (apply GH.ok_push; assumption) | exact cellV_int _ _ | exact cellV_bool _ | omega) only [go_sem, ↓reduceIte, Nat.reduceEqDiff, Nat.reduceAdd, Int.reduceToNat, hl, c0]
    intro hx
    refine ⟨Nat.le_refl _, ?_⟩
    have : fewT T = false := by unfold fewT; rw [decide_eq_false (by omega)]; rfl
    simp [this]
  · simp +decide (disch := first | assumption | (apply GH.ok_push; assumption) | exact cellV_int _ _ | exact cellV_bool _ | omega) only [go_sem, ↓reduceIte, Nat.reduceEqDiff, Nat.reduceAdd, Int.reduceToNat, hl, c0]
    refine Wk.loops (fun m e g' lo => g' = g ∧ g.next ≤ lo ∧ ∃ i : Nat, i + m = T.length ∧ (ev e (.s 0) = t ∧ ev e (.s 1) = .slice none 0 0 ∧ ev e (.s 5) = .int .i64 i) ∧ (T.take i).all (fun R => decide (R.length ≤ 20)) = true)
      (fun e g' lo => g' = g ∧ g.next ≤ lo ∧ ev e (.s 1) = .slice none 0 0 ∧ fewT T = true) (n := T.length) ?_ ?_ ?_
    · exact ⟨rfl, Nat.le_refl _, 0, by omega, (by simp +decide (disch := first | assumption | (apply GH.ok_push; assumption) | exact cellV_int _ _ | exact cellV_bool _ | omega) only [go_sem, ↓reduceIte, Nat.reduceEqDiff, Nat.reduceAdd, Int.reduceToNat]; first | done | exact rfl), rfl⟩
    · rintro e g' lo - - ⟨rfl, hlo, he, h⟩
      rw [h]
      simp +decide (disch := first | assumption | exact cellV_int _ _ | exact cellV_bool _ | omega | (simp only [GH.pn, GH.sn] <;> omega) | (with_reducible ((repeat (first | apply GH.ok_push | apply GH.ok_set)); assumption)) | ((try simp only [GH.push_hid, GH.set_hid]); refine GH.vis ?_ ?_ <;> first | assumption | ((try simp only [GH.pn, GH.sn]) <;> omega))) only [go_sem, ↓reduceIte, Nat.reduceEqDiff, Nat.reduceAdd, Int.reduceToNat, Int.reduceAdd, Int.reduceNeg, Int.reduceSub, Int.reduceMul, Int.reduceLT, Int.reduceLE, Int.reduceEq, ↓GH.gp_eq, ↓GH.gp_ne, ↓GH.gs_eq, ↓GH.gs_ne, GH.push_next, GH.set_next, he]
      repeat ((first | refine Wk.once ?_ | refine Wk.more (Wk.once ?_) | refine Wk.leave ?_); simp +decide (disch := first | assumption | exact cellV_int _ _ | exact cellV_bool _ | omega | (simp only [GH.pn, GH.sn] <;> omega) | (with_reducible ((repeat (first | apply GH.ok_push | apply GH.ok_set)); assumption)) | ((try simp only [GH.push_hid, GH.set_hid]); refine GH.vis ?_ ?_ <;> first | assumption | ((try simp only [GH.pn, GH.sn]) <;> omega))) only [go_sem, ↓reduceIte, Nat.reduceEqDiff, Nat.reduceAdd, Int.reduceToNat, Int.reduceAdd, Int.reduceNeg, Int.reduceSub, Int.reduceMul, Int.reduceLT, Int.reduceLE, Int.reduceEq, ↓GH.gp_eq, ↓GH.gp_ne, ↓GH.gs_eq, ↓GH.gs_ne, GH.push_next, GH.set_next, he])
      intro hx
      exact ⟨hlo, rfl⟩
    · rintro m e g' lo ho' hl' ih out ⟨rfl, hlo, i, hi, he, hp⟩
      by_cases ci : i < T.length
      · have ci' : (i : Int) < T.length := by omega
        obtain ⟨v, j1, o1, hj1, hp1, hp2, hv⟩ := ht.ptr ci
        have hp1 := hp1 (i : Int) rfl
        have hTi := getD_get [] ci
        obtain ⟨R, hR'⟩ : ∃ R, T.getD i [] = R := ⟨_, rfl⟩
        rw [hR'] at hv hTi
        have hvl := hv.len
        rw [ints_len] at hvl
        by_cases cl : (20 : Int) < R.length
        · simp +decide (disch := first | assumption | (apply GH.ok_push; assumption) | exact cellV_int _ _ | exact cellV_bool _ | omega) only [go_sem, ↓reduceIte, Nat.reduceEqDiff, Nat.reduceAdd, Int.reduceToNat, he, hl, hp1, hp2, hvl, cl, ci']
          intro hx
          refine ⟨hlo, ?_⟩
          have : fewT T = false := by
            unfold fewT
            rw [all_bad hTi (by simp; omega), Bool.and_false]
          simp [this]
        · simp +decide (disch := first | assumption | (apply GH.ok_push; assumption) | exact cellV_int _ _ | exact cellV_bool _ | omega) only [go_sem, ↓reduceIte, Nat.reduceEqDiff, Nat.reduceAdd, Int.reduceToNat, he, hl, hp1, hp2, hvl, cl, ci']
          refine ih (m - 1) _ _ _ (by omega) ⟨rfl, hlo, i + 1, by omega, (by simp +decide (disch := first | assumption | (apply GH.ok_push; assumption) | exact cellV_int _ _ | exact cellV_bool _ | omega) only [go_sem, ↓reduceIte, Nat.reduceEqDiff, Nat.reduceAdd, Int.reduceToNat, he]; first | done | exact rfl), ?_⟩
          rw [all_snoc _ T i R hTi, hp]
          first | (simp; done) | (simp; omega)
      · have ci' : ¬ (i : Int) < T.length := by omega
        simp +decide (disch := first | assumption | (apply GH.ok_push; assumption) | exact cellV_int _ _ | exact cellV_bool _ | omega) only [go_sem, ↓reduceIte, Nat.reduceEqDiff, Nat.reduceAdd, Int.reduceToNat, he, hl, ci']
        rw [List.take_of_length_le (by omega)] at hp
        refine out _ _ _ ⟨rfl, hlo, (by simp +decide (disch := first | assumption | (apply GH.ok_push; assumption) | exact cellV_int _ _ | exact cellV_bool _ | omega) only [go_sem, ↓reduceIte, Nat.reduceEqDiff, Nat.reduceAdd, Int.reduceToNat, he]; first | done | exact rfl), ?_⟩
        unfold fewT
        rw [decide_eq_true (by omega), hp]; rfl
theorem few1_rets {X : Caller} (hX : Xok X) (T : List (List Int)) (L : List Int) (s : Value) (d : Int) (t : Value) (g : GH) (ht : Sl2 g t T) (hs : SlR g s (ints L)) (j : Nat) (ty : TypeId) (hj : j < g.next) (hg : g.get j = cellsOb [s, .int .i64 d] ty) :
    Rets Tryd.prog X 15 [t, .slice (some ⟨j, 0, none⟩) 1 1] g (fun v g' lo => g.next ≤ lo ∧ v = .bool (fewT T && decide (L.length ≤ 20))) := by
  have hia : iaddrSF 2 (.slice (some ⟨j, 0, none⟩) 1 1) (.int .i64 0) = some (.pointer (some ⟨j, 0, none⟩)) := rfl
  have hls := hs.len
  rw [ints_len] at hls
  have hl := ht.len
  refine Rets.run hX.pres p15 (hX.free 15 (by decide) _ _) rfl fun ho => ?_
  by_cases c0 : (20 : Int) < T.length
  · simp +decide (disch := first | assumption | (apply GH.ok_push; assumption) | exact cellV_int _ _ | exact cellV_bool _ | omega) only [go_sem, ↓reduceIte, Nat.reduceEqDiff, Nat.reduceAdd, Int.reduceToNat, hl, c0]
    intro hx
    refine ⟨Nat.le_refl _, ?_⟩
    have : fewT T = false := by unfold fewT; rw [decide_eq_false (by omega)]; rfl
    simp [this]
  · simp +decide (disch := first | assumption | (apply GH.ok_push; assumption) | exact cellV_int _ _ | exact cellV_bool _ | omega) only [go_sem, ↓reduceIte, Nat.reduceEqDiff, Nat.reduceAdd, Int.reduceToNat, hl, c0]
    refine Wk.loops (fun m e g' lo => g' = g ∧ g.next ≤ lo ∧ ∃ i : Nat, i + m = T.length ∧ (ev e (.s 0) = t ∧ ev e (.s 1) = .slice (some ⟨j, 0, none⟩) 1 1 ∧ ev e (.s 5) = .int .i64 i) ∧ (T.take i).all (fun R => decide (R.length ≤ 20)) = true)
      (fun e g' lo => g' = g ∧ g.next ≤ lo ∧ ev e (.s 1) = .slice (some ⟨j, 0, none⟩) 1 1 ∧ fewT T = true) (n := T.length) ?_ ?_ ?_
    · exact ⟨rfl, Nat.le_refl _, 0, by omega, (by simp +decide (disch := first | assumption | (apply GH.ok_push; assumption) | exact cellV_int _ _ | exact cellV_bool _ | omega) only [go_sem, ↓reduceIte, Nat.reduceEqDiff, Nat.reduceAdd, Int.reduceToNat]; first | done | exact rfl), rfl⟩
    · rintro e g' lo - - ⟨rfl, hlo, he, h⟩
      rw [h, Bool.true_and]
      by_cases q1 : (20 : Int) < L.length
      · simp +decide (disch := first | assumption | exact cellV_int _ _ | exact cellV_bool _ | omega | (simp only [GH.pn, GH.sn] <;> omega) | (with_reducible ((repeat (first | apply GH.ok_push | apply GH.ok_set)); assumption)) | ((try simp only [GH.push_hid, GH.set_hid]); refine GH.vis ?_ ?_ <;> first | assumption | ((try simp only [GH.pn, GH.sn]) <;> omega))) only [go_sem, ↓reduceIte, Nat.reduceEqDiff, Nat.reduceAdd, Int.reduceToNat, Int.reduceAdd, Int.reduceNeg, Int.reduceSub, Int.reduceMul, Int.reduceLT, Int.reduceLE, Int.reduceEq, ↓GH.gp_eq, ↓GH.gp_ne, ↓GH.gs_eq, ↓GH.gs_ne, GH.push_next, GH.set_next, he]
        repeat ((first | refine Wk.once ?_ | refine Wk.more (Wk.once ?_) | refine Wk.leave ?_); simp +decide (disch := first | assumption | exact cellV_int _ _ | exact cellV_bool _ | omega | (simp only [GH.pn, GH.sn] <;> omega) | (with_reducible ((repeat (first | apply GH.ok_push | apply GH.ok_set)); assumption)) | ((try simp only [GH.push_hid, GH.set_hid]); refine GH.vis ?_ ?_ <;> first | assumption | ((try simp only [GH.pn, GH.sn]) <;> omega))) only [go_sem, ↓reduceIte, Nat.reduceEqDiff, Nat.reduceAdd, Int.reduceToNat, Int.reduceAdd, Int.reduceNeg, Int.reduceSub, Int.reduceMul, Int.reduceLT, Int.reduceLE, Int.reduceEq, ↓GH.gp_eq, ↓GH.gp_ne, ↓GH.gs_eq, ↓GH.gs_ne, GH.push_next, GH.set_next, he, hia, hg, hls, q1])
        intro hx
        refine ⟨hlo, ?_⟩
        first | rfl | (rw [decide_eq_false (show ¬ L.length ≤ 20 by omega)])
      · simp +decide (disch := first | assumption | exact cellV_int _ _ | exact cellV_bool _ | omega | (simp only [GH.pn, GH.sn] <;> omega) | (with_reducible ((repeat (first | apply GH.ok_push | apply GH.ok_set)); assumption)) | ((try simp only [GH.push_hid, GH.set_hid]); refine GH.vis ?_ ?_ <;> first | assumption | ((try simp only [GH.pn, GH.sn]) <;> omega))) only [go_sem, ↓reduceIte, Nat.reduceEqDiff, Nat.reduceAdd, Int.reduceToNat, Int.reduceAdd, Int.reduceNeg, Int.reduceSub, Int.reduceMul, Int.reduceLT, Int.reduceLE, Int.reduceEq, ↓GH.gp_eq, ↓GH.gp_ne, ↓GH.gs_eq, ↓GH.gs_ne, GH.push_next, GH.set_next, he]
        repeat ((first | refine Wk.once ?_ | refine Wk.more (Wk.once ?_) | refine Wk.leave ?_); simp +decide (disch := first | assumption | exact cellV_int _ _ | exact cellV_bool _ | omega | (simp only [GH.pn, GH.sn] <;> omega) | (with_reducible ((repeat (first | apply GH.ok_push | apply GH.ok_set)); assumption)) | ((try simp only [GH.push_hid, GH.set_hid]); refine GH.vis ?_ ?_ <;> first | assumption | ((try simp only [GH.pn, GH.sn]) <;> omega))) only [go_sem, ↓reduceIte, Nat.reduceEqDiff, Nat.reduceAdd, Int.reduceToNat, Int.reduceAdd, Int.reduceNeg, Int.reduceSub, Int.reduceMul, Int.reduceLT, Int.reduceLE, Int.reduceEq, ↓GH.gp_eq, ↓GH.gp_ne, ↓GH.gs_eq, ↓GH.gs_ne, GH.push_next, GH.set_next, he, hia, hg, hls, q1])
        intro hx
        refine ⟨hlo, ?_⟩
        first | rfl | (rw [decide_eq_true (show L.length ≤ 20 by omega)])
    · rintro m e g' lo ho' hl' ih out ⟨rfl, hlo, i, hi, he, hp⟩
      by_cases ci : i < T.length
      · have ci' : (i : Int) < T.length := by omega
        obtain ⟨v, j1, o1, hj1, hp1, hp2, hv⟩ := ht.ptr ci
        have hp1 := hp1 (i : Int) rfl
        have hTi := getD_get [] ci
        obtain ⟨R, hR'⟩ : ∃ R, T.getD i [] = R := ⟨_, rfl⟩
        rw [hR'] at hv hTi
        have hvl := hv.len
        rw [ints_len] at hvl
        by_cases cl : (20 : Int) < R.length
        · simp +decide (disch := first | assumption | (apply GH.ok_push; assumption) | exact cellV_int _ _ | exact cellV_bool _ | omega) only [go_sem, ↓reduceIte, Nat.reduceEqDiff, Nat.reduceAdd, Int.reduceToNat, he, hl, hp1, hp2, hvl, cl, ci']
          intro hx
          refine ⟨hlo, ?_⟩
          have : fewT T = false := by
            unfold fewT
            rw [all_bad hTi (by simp; omega), Bool.and_false]
          simp [this]
        · simp +decide (disch := first | assumption | (apply GH.ok_push; assumption) | exact cellV_int _ _ | exact cellV_bool _ | omega) only [go_sem, ↓reduceIte, Nat.reduceEqDiff, Nat.reduceAdd, Int.reduceToNat, he, hl, hp1, hp2, hvl, cl, ci']
          refine ih (m - 1) _ _ _ (by omega) ⟨rfl, hlo, i + 1, by omega, (by simp +decide (disch := first | assumption | (apply GH.ok_push; assumption) | exact cellV_int _ _ | exact cellV_bool _ | omega) only [go_sem, ↓reduceIte, Nat.reduceEqDiff, Nat.reduceAdd, Int.reduceToNat, he]; first | done | exact rfl), ?_⟩
          rw [all_snoc _ T i R hTi, hp]
          first | (simp; done) | (simp; omega)
      · have ci' : ¬ (i : Int) < T.length := by omega
        simp +decide (disch := first | assumption | (apply GH.ok_push; assumption) | exact cellV_int _ _ | exact cellV_bool _ | omega) only [go_sem, ↓reduceIte, Nat.reduceEqDiff, Nat.reduceAdd, Int.reduceToNat, he, hl, ci']
        rw [List.take_of_length_le (by omega)] at hp
        refine out _ _ _ ⟨rfl, hlo, (by simp +decide (disch := first | assumption | (apply GH.ok_push; assumption) | exact cellV_int _ _ | exact cellV_bool _ | omega) only [go_sem, ↓reduceIte, Nat.reduceEqDiff, Nat.reduceAdd, Int.reduceToNat, he]; first | done | exact rfl), ?_⟩
        unfold fewT
        rw [decide_eq_true (by omega), hp]; rfl
theorem few2_rets {X : Caller} (hX : Xok X) (T : List (List Int)) (L : List Int) (s : Value) (d : Int) (M : List Int) (r : Value) (f : Int) (t : Value) (g : GH) (ht : Sl2 g t T) (hs : SlR g s (ints L)) (hr : SlR g r (ints M)) (j : Nat) (ty : TypeId) (hj : j < g.next) (hg : g.get j = cellsOb [s, .int .i64 d, r, .int .i64 f] ty) :
    Rets Tryd.prog X 15 [t, .slice (some ⟨j, 0, none⟩) 2 2] g (fun v g' lo => g.next ≤ lo ∧ v = .bool (fewT T && decide (L.length ≤ 20) && decide (M.length ≤ 20))) := by
  have hia : iaddrSF 2 (.slice (some ⟨j, 0, none⟩) 2 2) (.int .i64 0) = some (.pointer (some ⟨j, 0, none⟩)) := rfl
  have hib : iaddrSF 2 (.slice (some ⟨j, 0, none⟩) 2 2) (.int .i64 1) = some (.pointer (some ⟨j, 2, none⟩)) := by
    show some (Value.pointer (some ((⟨j, 0, none⟩ : Addr).add 2))) = _
    unfold Addr.add; rfl
  have hls := hs.len
  rw [ints_len] at hls
  have hlr := hr.len
  rw [ints_len] at hlr
  have hl := ht.len
  refine Rets.run hX.pres p15 (hX.free 15 (by decide) _ _) rfl fun ho => ?_
  by_cases c0 : (20 : Int) < T.length
  · simp +decide (disch := first | assumption | (apply GH.ok_push; assumption) | exact cellV_int _ _ | exact cellV_bool _ | omega) only [go_sem, ↓reduceIte, Nat.reduceEqDiff, Nat.reduceAdd, Int.reduceToNat, hl, c0]
    intro hx
    refine ⟨Nat.le_refl _, ?_⟩
    have : fewT T = false := by unfold fewT; rw [decide_eq_false (by omega)]; rfl
    simp [this]
  · simp +decide (disch := first | assumption | (apply GH.ok_push; assumption) | exact cellV_int _ _ | exact cellV_bool _ | omega) only [go_sem, ↓reduceIte, Nat.reduceEqDiff, Nat.reduceAdd, Int.reduceToNat, hl, c0]
    refine Wk.loops (fun m e g' lo => g' = g ∧ g.next ≤ lo ∧ ∃ i : Nat, i + m = T.length ∧ (ev e (.s 0) = t ∧ ev e (.s 1) = .slice (some ⟨j, 0, none⟩) 2 2 ∧ ev e (.s 5) = .int .i64 i) ∧ (T.take i).all (fun R => decide (R.length ≤ 20)) = true)
      (fun e g' lo => g' = g ∧ g.next ≤ lo ∧ ev e (.s 1) = .slice (some ⟨j, 0, none⟩) 2 2 ∧ fewT T = true) (n := T.length) ?_ ?_ ?_
    · exact ⟨rfl, Nat.le_refl _, 0, by omega, (by simp +decide (disch := first | assumption | (apply GH.ok_push; assumption) | exact cellV_int _ _ | exact cellV_bool _ | omega) only [go_sem, ↓reduceIte, Nat.reduceEqDiff, Nat.reduceAdd, Int.reduceToNat]; first | done | exact rfl), rfl⟩
    · rintro e g' lo - - ⟨rfl, hlo, he, h⟩
      rw [h, Bool.true_and]
      by_cases q1 : (20 : Int) < L.length
      · simp +decide (disch := first | assumption | exact cellV_int _ _ | exact cellV_bool _ | omega | (simp only [GH.pn, GH.sn] <;> omega) | (with_reducible ((repeat (first | apply GH.ok_push | apply GH.ok_set)); assumption)) | ((try simp only [GH.push_hid, GH.set_hid]); refine GH.vis ?_ ?_ <;> first | assumption | ((try simp only [GH.pn, GH.sn]) <;> omega))) only [go_sem, ↓reduceIte, Nat.reduceEqDiff, Nat.reduceAdd, Int.reduceToNat, Int.reduceAdd, Int.reduceNeg, Int.reduceSub, Int.reduceMul, Int.reduceLT, Int.reduceLE, Int.reduceEq, ↓GH.gp_eq, ↓GH.gp_ne, ↓GH.gs_eq, ↓GH.gs_ne, GH.push_next, GH.set_next, he]
        repeat ((first | refine Wk.once ?_ | refine Wk.more (Wk.once ?_) | refine Wk.leave ?_); simp +decide (disch := first | assumption | exact cellV_int _ _ | exact cellV_bool _ | omega | (simp only [GH.pn, GH.sn] <;> omega) | (with_reducible ((repeat (first | apply GH.ok_push | apply GH.ok_set)); assumption)) | ((try simp only [GH.push_hid, GH.set_hid]); refine GH.vis ?_ ?_ <;> first | assumption | ((try simp only [GH.pn, GH.sn]) <;> omega))) only [go_sem, ↓reduceIte, Nat.reduceEqDiff, Nat.reduceAdd, Int.reduceToNat, Int.reduceAdd, Int.reduceNeg, Int.reduceSub, Int.reduceMul, Int.reduceLT, Int.reduceLE, Int.reduceEq, ↓GH.gp_eq, ↓GH.gp_ne, ↓GH.gs_eq, ↓GH.gs_ne, GH.push_next, GH.set_next, he, hia, hib, hg, hls, q1])
        intro hx
        refine ⟨hlo, ?_⟩
        first | rfl | (rw [decide_eq_false (show ¬ L.length ≤ 20 by omega)]; rfl)
      · by_cases q2 : (20 : Int) < M.length
        · simp +decide (disch := first | assumption | exact cellV_int _ _ | exact cellV_bool _ | omega | (simp only [GH.pn, GH.sn] <;> omega) | (with_reducible ((repeat (first | apply GH.ok_push | apply GH.ok_set)); assumption)) | ((try simp only [GH.push_hid, GH.set_hid]); refine GH.vis ?_ ?_ <;> first | assumption | ((try simp only [GH.pn, GH.sn]) <;> omega))) only [go_sem, ↓reduceIte, Nat.reduceEqDiff, Nat.reduceAdd, Int.reduceToNat, Int.reduceAdd, Int.reduceNeg, Int.reduceSub, Int.reduceMul, Int.reduceLT, Int.reduceLE, Int.reduceEq, ↓GH.gp_eq, ↓GH.gp_ne, ↓GH.gs_eq, ↓GH.gs_ne, GH.push_next, GH.set_next, he]
          repeat ((first | refine Wk.once ?_ | refine Wk.more (Wk.once ?_) | refine Wk.leave ?_); simp +decide (disch := first | assumption | exact cellV_int _ _ | exact cellV_bool _ | omega | (simp only [GH.pn, GH.sn] <;> omega) | (with_reducible ((repeat (first | apply GH.ok_push | apply GH.ok_set)); assumption)) | ((try simp only [GH.push_hid, GH.set_hid]); refine GH.vis ?_ ?_ <;> first | assumption | ((try simp only [GH.pn, GH.sn]) <;> omega))) only [go_sem, ↓reduceIte, Nat.reduceEqDiff, Nat.reduceAdd, Int.reduceToNat, Int.reduceAdd, Int.reduceNeg, Int.reduceSub, Int.reduceMul, Int.reduceLT, Int.reduceLE, Int.reduceEq, ↓GH.gp_eq, ↓GH.gp_ne, ↓GH.gs_eq, ↓GH.gs_ne, GH.push_next, GH.set_next, he, hia, hib, hg, hls, hlr, q1, q2])
          intro hx
          refine ⟨hlo, ?_⟩
          first | rfl | (rw [decide_eq_false (show ¬ M.length ≤ 20 by omega)]; simp)
        · simp +decide (disch := first | assumption | exact cellV_int _ _ | exact cellV_bool _ | omega | (simp only [GH.pn, GH.sn] <;> omega) | (with_reducible ((repeat (first | apply GH.ok_push | apply GH.ok_set)); assumption)) | ((try simp only [GH.push_hid, GH.set_hid]); refine GH.vis ?_ ?_ <;> first | assumption | ((try simp only [GH.pn, GH.sn]) <;> omega))) only [go_sem, ↓reduceIte, Nat.reduceEqDiff, Nat.reduceAdd, Int.reduceToNat, Int.reduceAdd, Int.reduceNeg, Int.reduceSub, Int.reduceMul, Int.reduceLT, Int.reduceLE, Int.reduceEq, ↓GH.gp_eq, ↓GH.gp_ne, ↓GH.gs_eq, ↓GH.gs_ne, GH.push_next, GH.set_next, he]
          repeat ((first | refine Wk.once ?_ | refine Wk.more (Wk.once ?_) | refine Wk.leave ?_); simp +decide (disch := first | assumption | exact cellV_int _ _ | exact cellV_bool _ | omega | (simp only [GH.pn, GH.sn] <;> omega) | (with_reducible ((repeat (first | apply GH.ok_push | apply GH.ok_set)); assumption)) | ((try simp only [GH.push_hid, GH.set_hid]); refine GH.vis ?_ ?_ <;> first | assumption | ((try simp only [GH.pn, GH.sn]) <;> omega))) only [go_sem, ↓reduceIte, Nat.reduceEqDiff, Nat.reduceAdd, Int.reduceToNat, Int.reduceAdd, Int.reduceNeg, Int.reduceSub, Int.reduceMul, Int.reduceLT, Int.reduceLE, Int.reduceEq, ↓GH.gp_eq, ↓GH.gp_ne, ↓GH.gs_eq, ↓GH.gs_ne, GH.push_next, GH.set_next, he, hia, hib, hg, hls, hlr, q1, q2])
          intro hx
          refine ⟨hlo, ?_⟩
          first | rfl | (rw [decide_eq_true (show L.length ≤ 20 by omega), decide_eq_true (show M.length ≤ 20 by omega)]; rfl)
    · rintro m e g' lo ho' hl' ih out ⟨rfl, hlo, i, hi, he, hp⟩
      by_cases ci : i < T.length
      · have ci' : (i : Int) < T.length := by omega
        obtain ⟨v, j1, o1, hj1, hp1, hp2, hv⟩ := ht.ptr ci
        have hp1 := hp1 (i : Int) rfl
        have hTi := getD_get [] ci
        obtain ⟨R, hR'⟩ : ∃ R, T.getD i [] = R := ⟨_, rfl⟩
        rw [hR'] at hv hTi
        have hvl := hv.len
        rw [ints_len] at hvl
        by_cases cl : (20 : Int) < R.length
        · simp +decide (disch := first | assumption | (apply GH.ok_push; assumption) | exact cellV_int _ _ | exact cellV_bool _ | omega) only [go_sem, ↓reduceIte, Nat.reduceEqDiff, Nat.reduceAdd, Int.reduceToNat, he, hl, hp1, hp2, hvl, cl, ci']
          intro hx
          refine ⟨hlo, ?_⟩
          have : fewT T = false := by
            unfold fewT
            rw [all_bad hTi (by simp; omega), Bool.and_false]
          simp [this]
        · simp +decide (disch := first | assumption | (apply GH.ok_push; assumption) | exact cellV_int _ _ | exact cellV_bool _ | omega) only [go_sem, ↓reduceIte, Nat.reduceEqDiff, Nat.reduceAdd, Int.reduceToNat, he, hl, hp1, hp2, hvl, cl, ci']
          refine ih (m - 1) _ _ _ (by omega) ⟨rfl, hlo, i + 1, by omega, (by simp +decide (disch := first | assumption | (apply GH.ok_push; assumption) | exact cellV_int _ _ | exact cellV_bool _ | omega) only [go_sem, ↓reduceIte, Nat.reduceEqDiff, Nat.reduceAdd, Int.reduceToNat, he]; first | done | exact rfl), ?_⟩
          rw [all_snoc _ T i R hTi, hp]
          first | (simp; done) | (simp; omega)
      · have ci' : ¬ (i : Int) < T.length := by omega
        simp +decide (disch := first | assumption | (apply GH.ok_push; assumption) | exact cellV_int _ _ | exact cellV_bool _ | omega) only [go_sem, ↓reduceIte, Nat.reduceEqDiff, Nat.reduceAdd, Int.reduceToNat, he, hl, ci']
        rw [List.take_of_length_le (by omega)] at hp
        refine out _ _ _ ⟨rfl, hlo, (by simp +decide (disch := first | assumption | (apply GH.ok_push; assumption) | exact cellV_int _ _ | exact cellV_bool _ | omega) only [go_sem, ↓reduceIte, Nat.reduceEqDiff, Nat.reduceAdd, Int.reduceToNat, he]; first | done | exact rfl), ?_⟩
        unfold fewT
        rw [decide_eq_true (by omega), hp]; rfl
end Go.Proofs.YtngmaccaldhjcaaDoor
set_option maxRecDepth 100000
set_option maxHeartbeats 4000000
set_option linter.unusedSimpArgs false
set_option linter.unusedVariables false
namespace Go.Proofs.YtngmaccaldhjcaaDoor
open Go.Ds
/-! ## Lists of lists that are appended to -/
def Own2 (g : GH) (o : Value) (LL : List (List Int)) (base : Nat) : Prop := ∃ vs : List Value, Own g o vs 23 base ∧ vs.length = LL.length ∧ ∀ (i : Nat) v L, vs[i]? = some v → LL[i]? = some L → SlR g v (ints L)
theorem Own2.nil {g : GH} {base : Nat} : Own2 g (.slice none 0 0) [] base := ⟨[], Own.nil, rfl, fun i v L h => by simp at h⟩
theorem Own2.read {g : GH} {o : Value} {LL : List (List Int)} {base : Nat} (h : Own2 g o LL base) : Sl2 g o LL := by
  obtain ⟨vs, h1, h2, h3⟩ := h
  exact ⟨vs, h1.read, h2, h3⟩
theorem Own2.kept {g g' : GH} {o : Value} {LL : List (List Int)} {base : Nat} (h : Own2 g o LL base) (k : Kept g g') : Own2 g' o LL base := by
  obtain ⟨vs, h1, h2, h3⟩ := h
  exact ⟨vs, h1.kept k, h2, fun i v L a b => (h3 i v L a b).kept k⟩
theorem Own2.grew {g g' : GH} {s' u : Value} {LL : List (List Int)} {M : List Int} {vs : List Value} {base : Nat} (h2 : vs.length = LL.length) (h3 : ∀ (i : Nat) v L, vs[i]? = some v → LL[i]? = some L → SlR g v (ints L)) (hu : SlR g u (ints M)) (hgr : Grew2 g g' s' (vs ++ [u]) 23 base) : Own2 g' s' (LL ++ [M]) base := by
  refine ⟨vs ++ [u], hgr.own, by simp [h2], fun i v L hv hL => hgr.read _ _ ?_⟩
  by_cases c : i < vs.length
  · rw [List.getElem?_append_left c] at hv
    rw [List.getElem?_append_left (by omega)] at hL
    exact h3 i v L hv hL
  · rw [List.getElem?_append_right (by omega)] at hv
    rw [List.getElem?_append_right (by omega)] at hL
    have hi : i = vs.length := by
      have := (List.getElem?_eq_some_iff.1 hv).1
      simp at this; omega
    subst hi
    rw [show vs.length - LL.length = 0 by omega] at hL
    simp at hv hL
    subst hv; subst hL
    exact hu

theorem own_rets {X : Caller} (hX : Xok X) (T : List (List Int)) (hF : fewT T = true) (t : Value) (g : GH) (ht : Sl2 g t T) :
    Rets Tryd.prog X 17 [t] g (fun v g' lo => g.next ≤ lo ∧ Sl2 g' v T) := by
  have hl := ht.len
  have hFe := hF
  unfold fewT at hF
  simp only [Bool.and_eq_true, decide_eq_true_eq, List.all_eq_true] at hF
  refine Rets.run hX.pres p17 (hX.free 17 (by decide) _ _) rfl fun ho => ?_
  simp +decide (disch := first | assumption | (apply GH.ok_push; assumption) | exact cellV_int _ _ | exact cellV_bool _ | omega) only [go_sem, ↓reduceIte, Nat.reduceEqDiff, Nat.reduceAdd, Int.reduceToNat]
  refine Wk.loops (fun m e g' lo => g.next ≤ lo ∧ Kept g g' ∧ ∃ i : Nat, i + m = T.length ∧ (ev e (.s 0) = t ∧ ev e (.s 4) = .int .i64 i) ∧ ∃ o, ev e (.s 3) = o ∧ Own2 g' o (T.take i) g.next)
    (fun e g' lo => g.next ≤ lo ∧ ∃ o, ev e (.s 3) = o ∧ Sl2 g' o T) (n := T.length) ?_ ?_ ?_
  · exact ⟨Nat.le_refl _, Kept.refl _, 0, by omega, (by simp +decide (disch := first | assumption | (apply GH.ok_push; assumption) | exact cellV_int _ _ | exact cellV_bool _ | omega) only [go_sem, ↓reduceIte, Nat.reduceEqDiff, Nat.reduceAdd, Int.reduceToNat]; first | done | exact rfl), .slice none 0 0, (by simp +decide (disch := first | assumption | (apply GH.ok_push; assumption) | exact cellV_int _ _ | exact cellV_bool _ | omega) only [go_sem, ↓reduceIte, Nat.reduceEqDiff, Nat.reduceAdd, Int.reduceToNat]; first | done | exact rfl), Own2.nil⟩
  · rintro e g' lo - - ⟨hlo, o, he, h⟩
    simp +decide (disch := first | assumption | (apply GH.ok_push; assumption) | exact cellV_int _ _ | exact cellV_bool _ | omega) only [go_sem, ↓reduceIte, Nat.reduceEqDiff, Nat.reduceAdd, Int.reduceToNat, he]
    intro hx
    exact ⟨hlo, h⟩
  · rintro m e g' lo ho' hl' ih out ⟨hlo, hk, i, hi, he, o, h3, hown⟩
    have hgk := hk.next
    by_cases ci : i < T.length
    · have ci' : (i : Int) < T.length := by omega
      obtain ⟨u, j1, o1, hj1, hp1, hp2, hu⟩ := (ht.kept hk).ptr ci
      have hp1 := hp1 (i : Int) rfl
      have hob : obLoad none (g'.get j1) o1 = some u := by rw [← load_eq none g' j1 o1 0]; exact hp2 0
      have hTi := getD_get [] ci
      obtain ⟨M, hM⟩ : ∃ M, T.getD i [] = M := ⟨_, rfl⟩
      rw [hM] at hu hTi
      have hM20 := hF.2 M (List.mem_of_getElem? hTi)
      have htk := take_snoc' T i M hTi
      have hcell := hu.cell
      have hkp := (Kept.refl g').push ho' (cellsOb [] 3)
      simp +decide (disch := first | assumption | exact cellV_int _ _ | exact cellV_bool _ | omega | (simp only [GH.pn, GH.sn] <;> omega) | (with_reducible ((repeat (first | apply GH.ok_push | apply GH.ok_set)); assumption)) | ((try simp only [GH.push_hid, GH.set_hid]); refine GH.vis ?_ ?_ <;> first | assumption | ((try simp only [GH.pn, GH.sn]) <;> omega))) only [go_sem, ↓reduceIte, Nat.reduceEqDiff, Nat.reduceAdd, Int.reduceToNat, Int.reduceAdd, Int.reduceNeg, Int.reduceSub, Int.reduceMul, Int.reduceLT, Int.reduceLE, Int.reduceEq, ↓GH.gp_eq, ↓GH.gp_ne, ↓GH.gs_eq, ↓GH.gs_ne, GH.push_next, GH.set_next, he, h3, hl, ci', hp1, hob]
      refine AppD.copy (vs := []) (new := ints M) (j := g'.next) (cells := []) (t' := 3) (by rw [GH.get_push ho', if_pos rfl]) rfl (Nat.le_refl _) (Nat.lt_succ_self _) (hu.kept hkp) (by rw [ints_len]; simp; omega) (GH.ok_push ho') ?_
      intro own g2 sp wr hk2 hok2 hcp
      rw [List.nil_append] at hcp
      have hk2' := hkp.trans hk2
      have hkn2 := hk2'.next
      have hcell2 := hcp.cell
      simp +decide (disch := first | assumption | (apply GH.ok_push; assumption) | exact cellV_int _ _ | exact cellV_bool _ | omega) only [go_sem, ↓reduceIte, Nat.reduceEqDiff, Nat.reduceAdd, Int.reduceToNat, he, h3, hcell2]
      have hkp3 := hk2'.push hok2 (cellsOb [own] 23)
      obtain ⟨vs, q1, q2, q3⟩ := hown.kept hkp3
      have hvl : vs.length ≤ 20 := by rw [q2, List.length_take]; omega
      refine AppD.own2 (lw := g.next) q1 (SlR.one hok2 _ _) (by simp) (by simp [hcell2]) (by simp; omega) (by simp [GH.push]; omega) hlo (by omega) (GH.ok_push hok2) (fun s' g3 lo3 sp wr hgr hlo3 => ?_)
      simp +decide (disch := first | assumption | (apply GH.ok_push; assumption) | exact cellV_int _ _ | exact cellV_bool _ | omega) only [go_sem, ↓reduceIte, Nat.reduceEqDiff, Nat.reduceAdd, Int.reduceToNat, he]
      refine ih (m - 1) _ _ _ (by omega) ⟨hlo3, (hk.trans hkp3).grew2 hgr (Nat.le_refl _), i + 1, by omega, (by simp +decide (disch := first | assumption | (apply GH.ok_push; assumption) | exact cellV_int _ _ | exact cellV_bool _ | omega) only [go_sem, ↓reduceIte, Nat.reduceEqDiff, Nat.reduceAdd, Int.reduceToNat, he]; first | done | exact rfl), s', (by simp +decide (disch := first | assumption | (apply GH.ok_push; assumption) | exact cellV_int _ _ | exact cellV_bool _ | omega) only [go_sem, ↓reduceIte, Nat.reduceEqDiff, Nat.reduceAdd, Int.reduceToNat]; first | done | exact rfl), ?_⟩
      rw [htk]
      exact Own2.grew q2 q3 (hcp.push hok2 _) hgr
    · have ci' : ¬ (i : Int) < T.length := by omega
      rw [List.take_of_length_le (by omega)] at hown
      simp +decide (disch := first | assumption | (apply GH.ok_push; assumption) | exact cellV_int _ _ | exact cellV_bool _ | omega) only [go_sem, ↓reduceIte, Nat.reduceEqDiff, Nat.reduceAdd, Int.reduceToNat, he, h3, hl, ci']
      exact out _ _ _ ⟨hlo, o, (by simp +decide (disch := first | assumption | (apply GH.ok_push; assumption) | exact cellV_int _ _ | exact cellV_bool _ | omega) only [go_sem, ↓reduceIte, Nat.reduceEqDiff, Nat.reduceAdd, Int.reduceToNat, h3]; first | done | exact rfl), hown.read⟩
/-- The same rows? -/
theorem rows_rets {X : Caller} (hX : Xok X) (A B : List (List Int)) (hA : A.length < 1000000) (hB : B.length < 1000000) (hA2 : ∀ R ∈ A, R.length < 1000000) (hB2 : ∀ R ∈ B, R.length < 1000000) (s t : Value) (g : GH) (hs : Sl2 g s A) (ht : Sl2 g t B) :
    Rets Tryd.prog X 26 [s, t] g (fun v g' lo => g.next ≤ lo ∧ v = .bool (decide (A = B))) := by
  have hls := hs.len
  have hlt := ht.len
  refine Rets.run hX.pres p26 (hX.free 26 (by decide) _ _) rfl fun ho => ?_
  by_cases c : (A.length : Int) = B.length
  case neg =>
    simp +decide (disch := first | assumption | (apply GH.ok_push; assumption) | exact cellV_int _ _ | exact cellV_bool _ | omega) only [go_sem, ↓reduceIte, Nat.reduceEqDiff, Nat.reduceAdd, Int.reduceToNat, hls, hlt, c]
    intro hx
    exact ⟨Nat.le_refl _, by rw [decide_eq_false fun h => c (by rw [h])]⟩
  case pos =>
    simp +decide (disch := first | assumption | (apply GH.ok_push; assumption) | exact cellV_int _ _ | exact cellV_bool _ | omega) only [go_sem, ↓reduceIte, Nat.reduceEqDiff, Nat.reduceAdd, Int.reduceToNat, hls, hlt, c]
    refine Wk.loops (fun m e g' lo => g' = g ∧ g.next ≤ lo ∧ ∃ i : Nat, i + m = A.length ∧ (ev e (.s 0) = s ∧ ev e (.s 1) = t ∧ ev e (.s 5) = .int .i64 i) ∧ A.take i = B.take i)
      (fun e g' lo => g' = g ∧ g.next ≤ lo ∧ A = B) (n := A.length) ?_ ?_ ?_
    · exact ⟨rfl, Nat.le_refl _, 0, by omega, (by simp +decide (disch := first | assumption | (apply GH.ok_push; assumption) | exact cellV_int _ _ | exact cellV_bool _ | omega) only [go_sem, ↓reduceIte, Nat.reduceEqDiff, Nat.reduceAdd, Int.reduceToNat]; first | done | exact rfl), rfl⟩
    · rintro e g' lo - - ⟨rfl, hlo, h⟩
      simp +decide (disch := first | assumption | (apply GH.ok_push; assumption) | exact cellV_int _ _ | exact cellV_bool _ | omega) only [go_sem, ↓reduceIte, Nat.reduceEqDiff, Nat.reduceAdd, Int.reduceToNat]
      intro hx
      exact ⟨hlo, by simp [h]⟩
    · rintro m e g' lo ho' hl' ih out ⟨rfl, hlo, i, hi, he, hp⟩
      by_cases ci : i < A.length
      · have ci' : (i : Int) < B.length := by omega
        obtain ⟨v, j1, o1, hj1, hp1, hp2, hv⟩ := hs.ptr ci
        have hp1 := hp1 (i : Int) rfl
        obtain ⟨w, j2, o2, hj2, hq1, hq2, hw⟩ := ht.ptr (i := i) (by omega)
        have hq1 := hq1 (i : Int) rfl
        have hAi := getD_get [] ci
        have hBi := getD_get [] (show i < B.length by omega)
        obtain ⟨R, hR⟩ : ∃ R, A.getD i [] = R := ⟨_, rfl⟩
        obtain ⟨S, hS⟩ : ∃ S, B.getD i [] = S := ⟨_, rfl⟩
        rw [hR] at hv hAi
        rw [hS] at hw hBi
        have hRl := hA2 R (List.mem_of_getElem? hAi)
        have hSl := hB2 S (List.mem_of_getElem? hBi)
        have hvl := hv.len
        have hwl := hw.len
        rw [ints_len] at hvl hwl
        have bad : R ≠ S → A ≠ B := fun h1 h2 => by
          subst h2
          rw [hAi] at hBi
          exact h1 (Option.some.inj hBi)
        by_cases cl : (R.length : Int) = S.length
        case neg =>
          simp +decide (disch := first | assumption | (apply GH.ok_push; assumption) | exact cellV_int _ _ | exact cellV_bool _ | omega) only [go_sem, ↓reduceIte, Nat.reduceEqDiff, Nat.reduceAdd, Int.reduceToNat, he, hls, hlt, c, ci', hp1, hp2, hq1, hq2, hvl, hwl, cl]
          intro hx
          exact ⟨hlo, by rw [decide_eq_false (bad fun h => cl (by rw [h]))]⟩
        case pos =>
          simp +decide (disch := first | assumption | (apply GH.ok_push; assumption) | exact cellV_int _ _ | exact cellV_bool _ | omega) only [go_sem, ↓reduceIte, Nat.reduceEqDiff, Nat.reduceAdd, Int.reduceToNat, he, hls, hlt, c, ci', hp1, hp2, hq1, hq2, hvl, hwl, cl]
          refine Wk.loops (fun m2 e2 g2 lo2 => g2 = g' ∧ g'.next ≤ lo2 ∧ ∃ k : Nat, k + m2 = R.length ∧ (ev e2 (.s 0) = s ∧ ev e2 (.s 1) = t ∧ ev e2 (.s 5) = .int .i64 i ∧ ev e2 (.s 6) = .int .i64 k) ∧ R.take k = S.take k)
            (fun e2 g2 lo2 => g2 = g' ∧ g'.next ≤ lo2 ∧ (ev e2 (.s 0) = s ∧ ev e2 (.s 1) = t ∧ ev e2 (.s 5) = .int .i64 i) ∧ R = S) (n := R.length) ?_ ?_ ?_
          · exact ⟨rfl, hlo, 0, by omega, (by simp +decide (disch := first | assumption | (apply GH.ok_push; assumption) | exact cellV_int _ _ | exact cellV_bool _ | omega) only [go_sem, ↓reduceIte, Nat.reduceEqDiff, Nat.reduceAdd, Int.reduceToNat, he]; first | done | exact rfl), rfl⟩
          · rintro e2 g2 lo2 - - ⟨rfl, hlo2, he2, h2⟩
            simp +decide (disch := first | assumption | (apply GH.ok_push; assumption) | exact cellV_int _ _ | exact cellV_bool _ | omega) only [go_sem, ↓reduceIte, Nat.reduceEqDiff, Nat.reduceAdd, Int.reduceToNat, he2]
            refine ih (m - 1) _ _ _ (by omega) ⟨rfl, hlo2, i + 1, by omega, (by simp +decide (disch := first | assumption | (apply GH.ok_push; assumption) | exact cellV_int _ _ | exact cellV_bool _ | omega) only [go_sem, ↓reduceIte, Nat.reduceEqDiff, Nat.reduceAdd, Int.reduceToNat, he2]; first | done | exact rfl), ?_⟩
            rw [take_snoc' A i R hAi, take_snoc' B i S hBi, hp, h2]
          · rintro m2 e2 g2 lo2 ho2 hl2 ih2 out2 ⟨rfl, hlo2, k, hk, he2, hp3⟩
            by_cases ck : k < R.length
            · have ck' : (k : Int) < S.length := by omega
              obtain ⟨j3, o3, hj3, hu1, hu2⟩ := hv.ptr (ints_get (D := R) (i := k) ck)
              have hu1 := hu1 (k : Int) rfl
              obtain ⟨j4, o4, hj4, hw1, hw2⟩ := hw.ptr (ints_get (D := S) (i := k) (by omega))
              have hw1 := hw1 (k : Int) rfl
              by_cases d : R.getD k 0 = S.getD k 0
              · simp +decide (disch := first | assumption | (apply GH.ok_push; assumption) | exact cellV_int _ _ | exact cellV_bool _ | omega) only [go_sem, ↓reduceIte, Nat.reduceEqDiff, Nat.reduceAdd, Int.reduceToNat, he2, hp1, hp2, hq1, hq2, hvl, cl, ck', hu1, hu2, hw1, hw2, d]
                refine ih2 (m2 - 1) _ _ _ (by omega) ⟨rfl, hlo2, k + 1, by omega, (by simp +decide (disch := first | assumption | (apply GH.ok_push; assumption) | exact cellV_int _ _ | exact cellV_bool _ | omega) only [go_sem, ↓reduceIte, Nat.reduceEqDiff, Nat.reduceAdd, Int.reduceToNat, he2]; first | done | exact rfl), ?_⟩
                rw [take_snoc R k ck, take_snoc S k (by omega), hp3, d]
              · simp +decide (disch := first | assumption | (apply GH.ok_push; assumption) | exact cellV_int _ _ | exact cellV_bool _ | omega) only [go_sem, ↓reduceIte, Nat.reduceEqDiff, Nat.reduceAdd, Int.reduceToNat, he2, hp1, hp2, hq1, hq2, hvl, cl, ck', hu1, hu2, hw1, hw2, d]
                intro hx
                exact ⟨hlo2, by rw [decide_eq_false (bad fun h => d (by rw [h]))]⟩
            · have ck' : ¬ (k : Int) < S.length := by omega
              simp +decide (disch := first | assumption | (apply GH.ok_push; assumption) | exact cellV_int _ _ | exact cellV_bool _ | omega) only [go_sem, ↓reduceIte, Nat.reduceEqDiff, Nat.reduceAdd, Int.reduceToNat, he2, hp1, hp2, hvl, cl, ck']
              rw [List.take_of_length_le (by omega), List.take_of_length_le (by omega)] at hp3
              exact out2 _ _ _ ⟨rfl, hlo2, (by simp +decide (disch := first | assumption | (apply GH.ok_push; assumption) | exact cellV_int _ _ | exact cellV_bool _ | omega) only [go_sem, ↓reduceIte, Nat.reduceEqDiff, Nat.reduceAdd, Int.reduceToNat, he2]; first | done | exact rfl), hp3⟩
      · have ci' : ¬ (i : Int) < B.length := by omega
        simp +decide (disch := first | assumption | (apply GH.ok_push; assumption) | exact cellV_int _ _ | exact cellV_bool _ | omega) only [go_sem, ↓reduceIte, Nat.reduceEqDiff, Nat.reduceAdd, Int.reduceToNat, he, hls, c, ci']
        rw [List.take_of_length_le (by omega), List.take_of_length_le (by omega)] at hp
        exact out _ _ _ ⟨rfl, hlo, hp⟩
end Go.Proofs.YtngmaccaldhjcaaDoor
set_option maxRecDepth 100000
set_option maxHeartbeats 8000000
set_option linter.unusedSimpArgs false
set_option linter.unusedVariables false
namespace Go.Proofs.YtngmaccaldhjcaaDoor
open Go.Ds
theorem eqA2_self (neg : Bool) (a b : Int) : eqAF neg 2 (.agg #[.int .i64 a, .int .i64 b]) (.agg #[.int .i64 a, .int .i64 b]) = some (.bool (!neg)) := by
  have hk : kindEq .i64 .i64 = true := rfl
  have h1 : ∀ x : Int, ieq x x = true := fun x => by rw [eq_i]; simp
  simp only [eqAF, intEqs, hk, h1, cond_true]
  cases neg <;> rfl
theorem gainR_form (T : List (List Int)) (L : List Int) (d : Int) (M : List Int) (f : Int) : ∃ a b c : Int, gainR T L d M f = .tuple #[.agg #[.int .i64 a, .int .i64 b], .int .i64 c] := by
  unfold gainR raV
  split
  · exact ⟨_, _, _, rfl⟩
  · exact ⟨_, _, _, rfl⟩
theorem atRestR_form (T : List (List Int)) (L : List Int) (d : Int) : ∃ (a : Bool) (c : Int), atRestR T L d = .tuple #[.bool a, .int .i64 c] := by
  unfold atRestR
  split
  · exact ⟨_, _, rfl⟩
  · exact ⟨_, _, rfl⟩
theorem bestR_form (T : List (List Int)) (L : List Int) (d : Int) : ∃ a c : Int, bestR T L d = .tuple #[.int .i64 a, .int .i64 c] := by
  unfold bestR
  split
  · exact ⟨_, _, rfl⟩
  · exact ⟨_, _, rfl⟩
theorem gainsLaw_rets {X : Caller} (hX : Xok X) (n : Int) (T : List (List Int)) (L : List Int) (d : Int) (M : List Int) (f : Int) (t s r : Value) (g : GH) (hT : HasTab g) (ht : Sl2 g t T) (hs : SlR g s (ints L)) (hr : SlR g r (ints M)) :
    Rets Tryd.prog X 3 [.int .i64 n, t, paV s d, paV r f] g (fun v g' lo => g.next ≤ lo ∧ v = .bool true) := by
  have e0 : ∀ a b : Value, extF (.tuple #[a, b]) 0 = some a := fun _ _ => rfl
  have e1 : ∀ a b : Value, extF (.tuple #[a, b]) 1 = some b := fun _ _ => rfl
  have hq : ∀ p : Bool, eqBF true (.bool p) (.bool p) = some (.bool false) := fun p => by cases p <;> rfl
  have hc := hs.cell
  have hcr := hr.cell
  unfold paV
  refine Rets.run hX.pres p3 (hX.free 3 (by decide) _ _) rfl fun ho => ?_
  obtain ⟨H, hH⟩ : ∃ H, ((g.push (cellsOb [s, .int .i64 d] 25)).push (cellsOb [r, .int .i64 f] 25)) = H := ⟨_, rfl⟩
  have hnH : H.next = g.next + 1 + 1 := by rw [← hH]; rfl
  have hokH : H.ok := by rw [← hH]; exact GH.ok_push (GH.ok_push ho)
  have hkH : Kept g H := by rw [← hH]; exact (by (repeat' first | exact Kept.refl _ | assumption | refine Kept.push ?_ ?_ _ | refine Kept.setV ?_ ?_ ?_ _) <;> (first | assumption | exact cellV_int _ _ | exact cellV_bool _ | omega | (simp only [GH.pn, GH.sn] <;> omega) | (with_reducible ((repeat (first | apply GH.ok_push | apply GH.ok_set)); assumption)) | ((try simp only [GH.push_hid, GH.set_hid]); refine GH.vis ?_ ?_ <;> first | assumption | ((try simp only [GH.pn, GH.sn]) <;> omega))))
  have hA : H.get g.next = cellsOb [s, .int .i64 d] 25 := by rw [← hH]; exact (by simp (disch := first | assumption | exact cellV_int _ _ | exact cellV_bool _ | omega | (simp only [GH.pn, GH.sn] <;> omega) | (with_reducible ((repeat (first | apply GH.ok_push | apply GH.ok_set)); assumption)) | ((try simp only [GH.push_hid, GH.set_hid]); refine GH.vis ?_ ?_ <;> first | assumption | ((try simp only [GH.pn, GH.sn]) <;> omega))) only [↓GH.gp_eq, ↓GH.gp_ne, ↓GH.gs_eq, ↓GH.gs_ne, GH.push_next, GH.set_next]; first | done | exact rfl)
  have hB : H.get (g.next + 1) = cellsOb [r, .int .i64 f] 25 := by rw [← hH]; exact (by simp (disch := first | assumption | exact cellV_int _ _ | exact cellV_bool _ | omega | (simp only [GH.pn, GH.sn] <;> omega) | (with_reducible ((repeat (first | apply GH.ok_push | apply GH.ok_set)); assumption)) | ((try simp only [GH.push_hid, GH.set_hid]); refine GH.vis ?_ ?_ <;> first | assumption | ((try simp only [GH.pn, GH.sn]) <;> omega))) only [↓GH.gp_eq, ↓GH.gp_ne, ↓GH.gs_eq, ↓GH.gs_ne, GH.push_next, GH.set_next]; first | done | exact rfl)
  simp +decide (disch := first | assumption | exact cellV_int _ _ | exact cellV_bool _ | omega | (simp only [GH.pn, GH.sn] <;> omega) | (with_reducible ((repeat (first | apply GH.ok_push | apply GH.ok_set)); assumption)) | ((try simp only [GH.push_hid, GH.set_hid]); refine GH.vis ?_ ?_ <;> first | assumption | ((try simp only [GH.pn, GH.sn]) <;> omega))) only [go_sem, ↓reduceIte, Nat.reduceEqDiff, Nat.reduceAdd, Int.reduceToNat, Int.reduceAdd, Int.reduceNeg, Int.reduceSub, Int.reduceMul, Int.reduceLT, Int.reduceLE, Int.reduceEq, ↓GH.gp_eq, ↓GH.gp_ne, ↓GH.gs_eq, ↓GH.gs_ne, GH.push_next, GH.set_next, hc, hcr]
  refine CallD.name fun G0 hG0 => ?_
  have hk0 : Kept H G0 := by rw [hG0, ← hH]; exact (by (repeat' first | exact Kept.refl _ | assumption | refine Kept.push ?_ ?_ _ | refine Kept.setV ?_ ?_ ?_ _) <;> (first | assumption | exact cellV_int _ _ | exact cellV_bool _ | omega | (simp only [GH.pn, GH.sn] <;> omega) | (with_reducible ((repeat (first | apply GH.ok_push | apply GH.ok_set)); assumption)) | ((try simp only [GH.push_hid, GH.set_hid]); refine GH.vis ?_ ?_ <;> first | assumption | ((try simp only [GH.pn, GH.sn]) <;> omega))))
  have hok0 : G0.ok := by rw [hG0]; exact GH.ok_push (GH.ok_push (GH.ok_push ho))
  have hn0 : G0.next = g.next + 1 + 1 + 1 := by rw [hG0]; rfl
  have hg0 : G0.get (g.next + 1 + 1) = cellsOb [s, .int .i64 d, r, .int .i64 f] 25 := by rw [hG0]; exact (by simp (disch := first | assumption | exact cellV_int _ _ | exact cellV_bool _ | omega | (simp only [GH.pn, GH.sn] <;> omega) | (with_reducible ((repeat (first | apply GH.ok_push | apply GH.ok_set)); assumption)) | ((try simp only [GH.push_hid, GH.set_hid]); refine GH.vis ?_ ?_ <;> first | assumption | ((try simp only [GH.pn, GH.sn]) <;> omega))) only [↓GH.gp_eq, ↓GH.gp_ne, ↓GH.gs_eq, ↓GH.gs_ne, GH.push_next, GH.set_next]; first | done | exact rfl)
  have kk := hkH.trans hk0
  refine CallD.calm (few2_rets hX T L s d M r f t G0 (ht.kept kk) (hs.kept kk) (hr.kept kk) (g.next + 1 + 1) 25 (by omega) hg0) ?_
  rintro v g1 hx1 rfl
  have hn1 := hx1.next
  have hok1 := hx1.ok hok0
  have hk1 := hk0.ext hx1
  cases hf : (fewT T && decide (L.length ≤ 20) && decide (M.length ≤ 20)) with
  | false =>
    simp +decide (disch := first | assumption | exact cellV_int _ _ | exact cellV_bool _ | omega | (simp only [GH.pn, GH.sn] <;> omega) | (with_reducible ((repeat (first | apply GH.ok_push | apply GH.ok_set)); assumption)) | ((try simp only [GH.push_hid, GH.set_hid]); refine GH.vis ?_ ?_ <;> first | assumption | ((try simp only [GH.pn, GH.sn]) <;> omega))) only [go_sem, ↓reduceIte, Nat.reduceEqDiff, Nat.reduceAdd, Int.reduceToNat, Int.reduceAdd, Int.reduceNeg, Int.reduceSub, Int.reduceMul, Int.reduceLT, Int.reduceLE, Int.reduceEq, ↓GH.gp_eq, ↓GH.gp_ne, ↓GH.gs_eq, ↓GH.gs_ne, GH.push_next, GH.set_next]
    refine CallD.calm (hX.alive _ (hT.kept (hkH.trans hk1))) ?_
    rintro v g2 hx2 rfl
    have hn2 := hx2.next
    simp +decide (disch := first | assumption | exact cellV_int _ _ | exact cellV_bool _ | omega | (simp only [GH.pn, GH.sn] <;> omega) | (with_reducible ((repeat (first | apply GH.ok_push | apply GH.ok_set)); assumption)) | ((try simp only [GH.push_hid, GH.set_hid]); refine GH.vis ?_ ?_ <;> first | assumption | ((try simp only [GH.pn, GH.sn]) <;> omega))) only [go_sem, ↓reduceIte, Nat.reduceEqDiff, Nat.reduceAdd, Int.reduceToNat, Int.reduceAdd, Int.reduceNeg, Int.reduceSub, Int.reduceMul, Int.reduceLT, Int.reduceLE, Int.reduceEq, ↓GH.gp_eq, ↓GH.gp_ne, ↓GH.gs_eq, ↓GH.gs_ne, GH.push_next, GH.set_next]
    intro hx0
    exact ⟨by omega, rfl⟩
  | true =>
    simp only [Bool.and_eq_true] at hf
    have hF := fewT_Few hf.1.1
    simp +decide (disch := first | assumption | exact cellV_int _ _ | exact cellV_bool _ | omega | (simp only [GH.pn, GH.sn] <;> omega) | (with_reducible ((repeat (first | apply GH.ok_push | apply GH.ok_set)); assumption)) | ((try simp only [GH.push_hid, GH.set_hid]); refine GH.vis ?_ ?_ <;> first | assumption | ((try simp only [GH.pn, GH.sn]) <;> omega))) only [go_sem, ↓reduceIte, Nat.reduceEqDiff, Nat.reduceAdd, Int.reduceToNat, Int.reduceAdd, Int.reduceNeg, Int.reduceSub, Int.reduceMul, Int.reduceLT, Int.reduceLE, Int.reduceEq, ↓GH.gp_eq, ↓GH.gp_ne, ↓GH.gs_eq, ↓GH.gs_ne, GH.push_next, GH.set_next]
    refine CallD.calm (own_rets hX T hf.1.1 t g1 (ht.kept (hkH.trans hk1))) ?_
    rintro u g2 hx2 hu2
    have hn2 := hx2.next
    have hok2 := hx2.ok hok1
    have hk2 := hk1.ext hx2
    have hA2 := (hk2.gets g.next (by omega)).trans hA
    have hs2 := hs.kept (hkH.trans hk2)
    have m1 := isMix_rets hX n L d s
    have m2 := refIsMix_rets hX n L d s
    unfold paV at m1 m2
    simp +decide (disch := first | assumption | exact cellV_int _ _ | exact cellV_bool _ | omega | (simp only [GH.pn, GH.sn] <;> omega) | (with_reducible ((repeat (first | apply GH.ok_push | apply GH.ok_set)); assumption)) | ((try simp only [GH.push_hid, GH.set_hid]); refine GH.vis ?_ ?_ <;> first | assumption | ((try simp only [GH.pn, GH.sn]) <;> omega))) only [go_sem, ↓reduceIte, Nat.reduceEqDiff, Nat.reduceAdd, Int.reduceToNat, Int.reduceAdd, Int.reduceNeg, Int.reduceSub, Int.reduceMul, Int.reduceLT, Int.reduceLE, Int.reduceEq, ↓GH.gp_eq, ↓GH.gp_ne, ↓GH.gs_eq, ↓GH.gs_ne, GH.push_next, GH.set_next, hA2]
    refine CallD.calm (m1 g2 hs2) ?_
    rintro v g3 hx3 rfl
    have hn3 := hx3.next
    have hok3 := hx3.ok hok2
    have hk3 := hk2.ext hx3
    have hA3 := (hk3.gets g.next (by omega)).trans hA
    have hs3 := hs.kept (hkH.trans hk3)
    simp +decide (disch := first | assumption | exact cellV_int _ _ | exact cellV_bool _ | omega | (simp only [GH.pn, GH.sn] <;> omega) | (with_reducible ((repeat (first | apply GH.ok_push | apply GH.ok_set)); assumption)) | ((try simp only [GH.push_hid, GH.set_hid]); refine GH.vis ?_ ?_ <;> first | assumption | ((try simp only [GH.pn, GH.sn]) <;> omega))) only [go_sem, ↓reduceIte, Nat.reduceEqDiff, Nat.reduceAdd, Int.reduceToNat, Int.reduceAdd, Int.reduceNeg, Int.reduceSub, Int.reduceMul, Int.reduceLT, Int.reduceLE, Int.reduceEq, ↓GH.gp_eq, ↓GH.gp_ne, ↓GH.gs_eq, ↓GH.gs_ne, GH.push_next, GH.set_next, hA3]
    refine CallD.calm (m2 g3 hs3) ?_
    rintro v g4 hx4 rfl
    have hn4 := hx4.next
    have hok4 := hx4.ok hok3
    have hk4 := hk3.ext hx4
    have hA4 := (hk4.gets g.next (by omega)).trans hA
    have hB4 := (hk4.gets (g.next + 1) (by omega)).trans hB
    have hu4 := (hu2.ext hx3).ext hx4
    have w1 := fun G h1 h2 h3 => Gain_rets hX T hF L d M f u s r G h1 h2 h3
    have w2 := fun G h1 h2 h3 => refGainP_rets hX T hF L d M f t s r G h1 h2 h3
    obtain ⟨ga, gb, gc, hgf⟩ := gainR_form T L d M f
    rw [hgf] at w1 w2
    unfold paV at w1 w2
    simp +decide (disch := first | assumption | exact cellV_int _ _ | exact cellV_bool _ | omega | (simp only [GH.pn, GH.sn] <;> omega) | (with_reducible ((repeat (first | apply GH.ok_push | apply GH.ok_set)); assumption)) | ((try simp only [GH.push_hid, GH.set_hid]); refine GH.vis ?_ ?_ <;> first | assumption | ((try simp only [GH.pn, GH.sn]) <;> omega))) only [go_sem, ↓reduceIte, Nat.reduceEqDiff, Nat.reduceAdd, Int.reduceToNat, Int.reduceAdd, Int.reduceNeg, Int.reduceSub, Int.reduceMul, Int.reduceLT, Int.reduceLE, Int.reduceEq, ↓GH.gp_eq, ↓GH.gp_ne, ↓GH.gs_eq, ↓GH.gs_ne, GH.push_next, GH.set_next, hq, hA4, hB4]
    refine CallD.calm (w1 g4 hu4 (hs.kept (hkH.trans hk4)) (hr.kept (hkH.trans hk4))) ?_
    rintro v g5 hx5 rfl
    have hn5 := hx5.next
    have hok5 := hx5.ok hok4
    have hk5 := hk4.ext hx5
    have hA5 := (hk5.gets g.next (by omega)).trans hA
    have hB5 := (hk5.gets (g.next + 1) (by omega)).trans hB
    have hu5 := hu4.ext hx5
    simp +decide (disch := first | assumption | exact cellV_int _ _ | exact cellV_bool _ | omega | (simp only [GH.pn, GH.sn] <;> omega) | (with_reducible ((repeat (first | apply GH.ok_push | apply GH.ok_set)); assumption)) | ((try simp only [GH.push_hid, GH.set_hid]); refine GH.vis ?_ ?_ <;> first | assumption | ((try simp only [GH.pn, GH.sn]) <;> omega))) only [go_sem, ↓reduceIte, Nat.reduceEqDiff, Nat.reduceAdd, Int.reduceToNat, Int.reduceAdd, Int.reduceNeg, Int.reduceSub, Int.reduceMul, Int.reduceLT, Int.reduceLE, Int.reduceEq, ↓GH.gp_eq, ↓GH.gp_ne, ↓GH.gs_eq, ↓GH.gs_ne, GH.push_next, GH.set_next, e0, e1, hA5, hB5]
    refine CallD.name fun G6 hG6 => ?_
    have hk6 : Kept g5 G6 := by rw [hG6]; exact (by (repeat' first | exact Kept.refl _ | assumption | refine Kept.push ?_ ?_ _ | refine Kept.setV ?_ ?_ ?_ _) <;> (first | assumption | exact cellV_int _ _ | exact cellV_bool _ | omega | (simp only [GH.pn, GH.sn] <;> omega) | (with_reducible ((repeat (first | apply GH.ok_push | apply GH.ok_set)); assumption)) | ((try simp only [GH.push_hid, GH.set_hid]); refine GH.vis ?_ ?_ <;> first | assumption | ((try simp only [GH.pn, GH.sn]) <;> omega))))
    have hok6 : G6.ok := by rw [hG6]; exact GH.ok_set (GH.ok_push hok5)
    have hn6 : G6.next = g5.next + 1 := by rw [hG6]; rfl
    have hR6 : G6.get g5.next = cellsOb [.int .i64 ga, .int .i64 gb] 32 := by rw [hG6]; exact (by simp (disch := first | assumption | exact cellV_int _ _ | exact cellV_bool _ | omega | (simp only [GH.pn, GH.sn] <;> omega) | (with_reducible ((repeat (first | apply GH.ok_push | apply GH.ok_set)); assumption)) | ((try simp only [GH.push_hid, GH.set_hid]); refine GH.vis ?_ ?_ <;> first | assumption | ((try simp only [GH.pn, GH.sn]) <;> omega))) only [↓GH.gp_eq, ↓GH.gp_ne, ↓GH.gs_eq, ↓GH.gs_ne, GH.push_next, GH.set_next]; first | done | exact rfl)
    have hkk6 := hk5.trans hk6
    refine CallD.calm (w2 G6 (ht.kept (hkH.trans hkk6)) (hs.kept (hkH.trans hkk6)) (hr.kept (hkH.trans hkk6))) ?_
    rintro v g7 hx7 rfl
    have hn7 := hx7.next
    have hok7 := hx7.ok hok6
    have hk7 := hkk6.ext hx7
    have hA7 := (hk7.gets g.next (by omega)).trans hA
    have hR7 := (hx7.gets g5.next (by omega)).trans hR6
    have hu7 := (hu5.kept hk6).ext hx7
    have hself := eqA2_self true ga gb
    have w3 := fun G h1 h2 => AtRest_rets hX T hF L d u s G h1 h2
    have w4 := fun G h1 h2 => refAtRest_rets hX T hF L d t s G h1 h2
    obtain ⟨ra, rc, hrf⟩ := atRestR_form T L d
    rw [hrf] at w3 w4
    unfold paV at w3 w4
    simp +decide (disch := first | assumption | exact cellV_int _ _ | exact cellV_bool _ | omega | (simp only [GH.pn, GH.sn] <;> omega) | (with_reducible ((repeat (first | apply GH.ok_push | apply GH.ok_set)); assumption)) | ((try simp only [GH.push_hid, GH.set_hid]); refine GH.vis ?_ ?_ <;> first | assumption | ((try simp only [GH.pn, GH.sn]) <;> omega))) only [go_sem, ↓reduceIte, Nat.reduceEqDiff, Nat.reduceAdd, Int.reduceToNat, Int.reduceAdd, Int.reduceNeg, Int.reduceSub, Int.reduceMul, Int.reduceLT, Int.reduceLE, Int.reduceEq, ↓GH.gp_eq, ↓GH.gp_ne, ↓GH.gs_eq, ↓GH.gs_ne, GH.push_next, GH.set_next, e0, e1, hA7, hR7, hself]
    refine CallD.name fun G8 hG8 => ?_
    have hk8 : Kept g7 G8 := by rw [hG8]; exact (by (repeat' first | exact Kept.refl _ | assumption | refine Kept.push ?_ ?_ _ | refine Kept.setV ?_ ?_ ?_ _) <;> (first | assumption | exact cellV_int _ _ | exact cellV_bool _ | omega | (simp only [GH.pn, GH.sn] <;> omega) | (with_reducible ((repeat (first | apply GH.ok_push | apply GH.ok_set)); assumption)) | ((try simp only [GH.push_hid, GH.set_hid]); refine GH.vis ?_ ?_ <;> first | assumption | ((try simp only [GH.pn, GH.sn]) <;> omega))))
    have hok8 : G8.ok := by rw [hG8]; exact GH.ok_set (GH.ok_push hok7)
    have hn8 : G8.next = g7.next + 1 := by rw [hG8]; rfl
    have hkk8 := hk7.trans hk8
    have hu8 := hu7.kept hk8
    refine CallD.calm (w3 G8 hu8 (hs.kept (hkH.trans hkk8))) ?_
    rintro v g9 hx9 rfl
    have hn9 := hx9.next
    have hok9 := hx9.ok hok8
    have hk9 := hkk8.ext hx9
    have hA9 := (hk9.gets g.next (by omega)).trans hA
    have hu9 := hu8.ext hx9
    simp +decide (disch := first | assumption | exact cellV_int _ _ | exact cellV_bool _ | omega | (simp only [GH.pn, GH.sn] <;> omega) | (with_reducible ((repeat (first | apply GH.ok_push | apply GH.ok_set)); assumption)) | ((try simp only [GH.push_hid, GH.set_hid]); refine GH.vis ?_ ?_ <;> first | assumption | ((try simp only [GH.pn, GH.sn]) <;> omega))) only [go_sem, ↓reduceIte, Nat.reduceEqDiff, Nat.reduceAdd, Int.reduceToNat, Int.reduceAdd, Int.reduceNeg, Int.reduceSub, Int.reduceMul, Int.reduceLT, Int.reduceLE, Int.reduceEq, ↓GH.gp_eq, ↓GH.gp_ne, ↓GH.gs_eq, ↓GH.gs_ne, GH.push_next, GH.set_next, e0, e1, hA9]
    refine CallD.calm (w4 g9 (ht.kept (hkH.trans hk9)) (hs.kept (hkH.trans hk9))) ?_
    rintro v g10 hx10 rfl
    have hn10 := hx10.next
    have hok10 := hx10.ok hok9
    have hk10 := hk9.ext hx10
    have hA10 := (hk10.gets g.next (by omega)).trans hA
    have hu10 := hu9.ext hx10
    have w5 := fun G h1 h2 => Best_rets hX T hF L d u s G h1 h2
    have w6 := fun G h1 h2 => refBestP_rets hX T hF L d t s G h1 h2
    obtain ⟨ba, bc, hbf⟩ := bestR_form T L d
    rw [hbf] at w5 w6
    unfold paV at w5 w6
    simp +decide (disch := first | assumption | exact cellV_int _ _ | exact cellV_bool _ | omega | (simp only [GH.pn, GH.sn] <;> omega) | (with_reducible ((repeat (first | apply GH.ok_push | apply GH.ok_set)); assumption)) | ((try simp only [GH.push_hid, GH.set_hid]); refine GH.vis ?_ ?_ <;> first | assumption | ((try simp only [GH.pn, GH.sn]) <;> omega))) only [go_sem, ↓reduceIte, Nat.reduceEqDiff, Nat.reduceAdd, Int.reduceToNat, Int.reduceAdd, Int.reduceNeg, Int.reduceSub, Int.reduceMul, Int.reduceLT, Int.reduceLE, Int.reduceEq, ↓GH.gp_eq, ↓GH.gp_ne, ↓GH.gs_eq, ↓GH.gs_ne, GH.push_next, GH.set_next, e0, e1, hA10, hq]
    refine CallD.calm (w5 g10 hu10 (hs.kept (hkH.trans hk10))) ?_
    rintro v g11 hx11 rfl
    have hn11 := hx11.next
    have hok11 := hx11.ok hok10
    have hk11 := hk10.ext hx11
    have hA11 := (hk11.gets g.next (by omega)).trans hA
    have hu11 := hu10.ext hx11
    simp +decide (disch := first | assumption | exact cellV_int _ _ | exact cellV_bool _ | omega | (simp only [GH.pn, GH.sn] <;> omega) | (with_reducible ((repeat (first | apply GH.ok_push | apply GH.ok_set)); assumption)) | ((try simp only [GH.push_hid, GH.set_hid]); refine GH.vis ?_ ?_ <;> first | assumption | ((try simp only [GH.pn, GH.sn]) <;> omega))) only [go_sem, ↓reduceIte, Nat.reduceEqDiff, Nat.reduceAdd, Int.reduceToNat, Int.reduceAdd, Int.reduceNeg, Int.reduceSub, Int.reduceMul, Int.reduceLT, Int.reduceLE, Int.reduceEq, ↓GH.gp_eq, ↓GH.gp_ne, ↓GH.gs_eq, ↓GH.gs_ne, GH.push_next, GH.set_next, e0, e1, hA11]
    refine CallD.calm (w6 g11 (ht.kept (hkH.trans hk11)) (hs.kept (hkH.trans hk11))) ?_
    rintro v g12 hx12 rfl
    have hn12 := hx12.next
    have hk12 := hk11.ext hx12
    have hu12 := hu11.ext hx12
    have b1 : ((ba = ba) : Prop) := rfl
    simp +decide (disch := first | assumption | exact cellV_int _ _ | exact cellV_bool _ | omega | (simp only [GH.pn, GH.sn] <;> omega) | (with_reducible ((repeat (first | apply GH.ok_push | apply GH.ok_set)); assumption)) | ((try simp only [GH.push_hid, GH.set_hid]); refine GH.vis ?_ ?_ <;> first | assumption | ((try simp only [GH.pn, GH.sn]) <;> omega))) only [go_sem, ↓reduceIte, Nat.reduceEqDiff, Nat.reduceAdd, Int.reduceToNat, Int.reduceAdd, Int.reduceNeg, Int.reduceSub, Int.reduceMul, Int.reduceLT, Int.reduceLE, Int.reduceEq, ↓GH.gp_eq, ↓GH.gp_ne, ↓GH.gs_eq, ↓GH.gs_ne, GH.push_next, GH.set_next, e0, e1]
    refine CallD.calm (rows_rets hX T T hF.1 hF.1 hF.2 hF.2 u t g12 hu12 (ht.kept (hkH.trans hk12))) ?_
    rintro v g13 hx13 rfl
    have hn13 := hx13.next
    have hk13 := hk12.ext hx13
    rw [decide_eq_true rfl]
    simp +decide (disch := first | assumption | exact cellV_int _ _ | exact cellV_bool _ | omega | (simp only [GH.pn, GH.sn] <;> omega) | (with_reducible ((repeat (first | apply GH.ok_push | apply GH.ok_set)); assumption)) | ((try simp only [GH.push_hid, GH.set_hid]); refine GH.vis ?_ ?_ <;> first | assumption | ((try simp only [GH.pn, GH.sn]) <;> omega))) only [go_sem, ↓reduceIte, Nat.reduceEqDiff, Nat.reduceAdd, Int.reduceToNat, Int.reduceAdd, Int.reduceNeg, Int.reduceSub, Int.reduceMul, Int.reduceLT, Int.reduceLE, Int.reduceEq, ↓GH.gp_eq, ↓GH.gp_ne, ↓GH.gs_eq, ↓GH.gs_ne, GH.push_next, GH.set_next]
    refine CallD.calm (hX.alive _ (hT.kept (hkH.trans hk13))) ?_
    rintro v g14 hx14 rfl
    simp +decide (disch := first | assumption | exact cellV_int _ _ | exact cellV_bool _ | omega | (simp only [GH.pn, GH.sn] <;> omega) | (with_reducible ((repeat (first | apply GH.ok_push | apply GH.ok_set)); assumption)) | ((try simp only [GH.push_hid, GH.set_hid]); refine GH.vis ?_ ?_ <;> first | assumption | ((try simp only [GH.pn, GH.sn]) <;> omega))) only [go_sem, ↓reduceIte, Nat.reduceEqDiff, Nat.reduceAdd, Int.reduceToNat, Int.reduceAdd, Int.reduceNeg, Int.reduceSub, Int.reduceMul, Int.reduceLT, Int.reduceLE, Int.reduceEq, ↓GH.gp_eq, ↓GH.gp_ne, ↓GH.gs_eq, ↓GH.gs_ne, GH.push_next, GH.set_next]
    intro hx0
    exact ⟨by omega, rfl⟩
end Go.Proofs.YtngmaccaldhjcaaDoor
