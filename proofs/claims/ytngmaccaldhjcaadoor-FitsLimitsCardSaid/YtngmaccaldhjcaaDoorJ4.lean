import Derived.Test.YtngmaccaldhjcaaDoorJ3
import Derived.Test.YtngmaccaldhjcaaDoorKe
import Derived.Test.YtngmaccaldhjcaaDoorDtO
set_option linter.all false
set_option linter.unusedSimpArgs false
set_option linter.unnecessarySimpa false
set_option linter.unusedVariables false
set_option linter.unusedSectionVars false
set_option maxRecDepth 100000
set_option maxHeartbeats 4000000
set_option linter.unusedSimpArgs false
set_option linter.unusedVariables false
namespace Go.Proofs.YtngmaccaldhjcaaDoor
open Go.Ds
def fewT (T : List (List Int)) : Bool := decide (T.length ≤ 20) && T.all (fun R => decide (R.length ≤ 20))
theorem fewT_Few {T : List (List Int)} (h : fewT T = true) : Few T := by
  unfold fewT at h
  simp only [Bool.and_eq_true, decide_eq_true_eq, List.all_eq_true] at h
  exact ⟨by omega, fun R hR => by have := h.2 R hR; omega⟩
theorem few0_rets {X : Caller} (hX : Xok X) (T : List (List Int)) (t : Value) (g : GH) (ht : Sl2 g t T) :
    Rets Tryd.prog X 15 [t, .slice none 0 0] g (fun v g' lo => g.next ≤ lo ∧ v = .bool (fewT T)) := by
  have hl := ht.len
  refine Rets.run hX.pres p15 (hX.free 15 (by decide) _ _) rfl fun ho => ?_
  by_cases c0 : (20 : Int) < T.length
  · simp +decide (disch := first | assumption | (apply GH.ok_push; assumption) | exact cellV_int _ _ | exact cellV_bool _ | omega) only [go_sem, ↓reduceIte, Nat.reduceEqDiff, Nat.reduceAdd, Int.reduceToNat, hl, c0]
    intro hx
    refine ⟨Nat.le_refl _, ?_⟩
    have : fewT T = false := by unfold fewT; rw [decide_eq_false (by omega)]; rfl
    simp [this]
  · simp +decide (disch := first | assumption | (apply GH.ok_push; assumption) | exact cellV_int _ _ | exact cellV_bool _ | omega) only [go_sem, ↓reduceIte, Nat.reduceEqDiff, Nat.reduceAdd, Int.reduceToNat, hl, c0]
    refine Wk.loops (fun m e g' lo => g' = g ∧ g.next ≤ lo ∧ ∃ i : Nat, i + m = T.length ∧ (ev e (.s 0) = t ∧ ev e (.s 1) = .slice none 0 0 ∧ ev e (.s 5) = .int .i64 i) ∧ (T.take i).all (fun R => decide (R.length ≤ 20)) = true)
      (fun e g' lo => g' = g ∧ g.next ≤ lo ∧ ev e (.s 1) = .slice none 0 0 ∧ fewT T = true) (n := T.length) ?_ ?_ ?_
    · exact ⟨rfl, Nat.le_refl _, 0, by omega, (by simp +decide (disch := first | assumption | (apply GH.ok_push; assumption) | exact cellV_int _ _ | exact cellV_bool _ | omega) only [go_sem, ↓reduceIte, Nat.reduceEqDiff, Nat.reduceAdd, Int.reduceToNat]; first | done | exact rfl), rfl⟩
    · rintro e g' lo - - ⟨rfl, hlo, he, h⟩
      rw [h]
      simp +decide (disch := first | assumption | exact cellV_int _ _ | exact cellV_bool _ | omega | (simp only [GH.pn, GH.sn] <;> omega) | (with_reducible ((repeat (first | apply GH.ok_push | apply GH.ok_set)); assumption)) | ((try simp only [GH.push_hid, GH.set_hid]); refine GH.vis ?_ ?_ <;> first | assumption | ((try simp only [GH.pn, GH.sn]) <;> omega))) only [go_sem, ↓reduceIte, Nat.reduceEqDiff, Nat.reduceAdd, Int.reduceToNat, Int.reduceAdd, Int.reduceNeg, Int.reduceSub, Int.reduceMul, Int.reduceLT, Int.reduceLE, Int.reduceEq, ↓GH.gp_eq, ↓GH.gp_ne, ↓GH.gs_eq, ↓GH.gs_ne, GH.push_next, GH.set_next, he]
      repeat ((first | refine Wk.once ?_ | refine Wk.more (Wk.once ?_) | refine Wk.leave ?_); simp +decide (disch := first | assumption | exact cellV_int _ _ | exact cellV_bool _ | omega | (simp only [GH.pn, GH.sn] <;> omega) | (with_reducible ((repeat (first | apply GH.ok_push | apply GH.ok_set)); assumption)) | ((try simp only [GH.push_hid, GH.set_hid]); refine GH.vis ?_ ?_ <;> first | assumption | ((try simp only [GH.pn, GH.sn]) <;> omega))) only [go_sem, ↓reduceIte, Nat.reduceEqDiff, Nat.reduceAdd, Int.reduceToNat, Int.reduceAdd, Int.reduceNeg, Int.reduceSub, Int.reduceMul, Int.reduceLT, Int.reduceLE, Int.reduceEq, ↓GH.gp_eq, ↓GH.gp_ne, ↓GH.gs_eq, ↓GH.gs_ne, GH.push_next, GH.set_next, he])
      intro hx
      exact ⟨hlo, rfl⟩
    · rintro m e g' lo ho' hl' ih out ⟨rfl, hlo, i, hi, he, hp⟩
      by_cases ci : i < T.length
      · have ci' : (i : Int) < T.length := by omega
        obtain ⟨v, j1, o1, hj1, hp1, hp2, hv⟩ := ht.ptr ci
        have hp1 := hp1 (i : Int) rfl
        have hTi := getD_get [] ci
        obtain ⟨R, hR'⟩ : ∃ R, T.getD i [] = R := ⟨_, rfl⟩
        rw [hR'] at hv hTi
        have hvl := hv.len
        rw [ints_len] at hvl
        by_cases cl : (20 : Int) < R.length
        · simp +decide (disch := first | assumption | (apply GH.ok_push; assumption) | exact cellV_int _ _ | exact cellV_bool _ | omega) only [go_sem, ↓reduceIte, Nat.reduceEqDiff, Nat.reduceAdd, Int.reduceToNat, he, hl, hp1, hp2, hvl, cl, ci']
          intro hx
          refine ⟨hlo, ?_⟩
          have : fewT T = false := by
            unfold fewT
            rw [all_bad hTi (by simp; omega), Bool.and_false]
          simp [this]
        · simp +decide (disch := first | assumption | (apply GH.ok_push; assumption) | exact cellV_int _ _ | exact cellV_bool _ | omega) only [go_sem, ↓reduceIte, Nat.reduceEqDiff, Nat.reduceAdd, Int.reduceToNat, he, hl, hp1, hp2, hvl, cl, ci']
          refine ih (m - 1) _ _ _ (by omega) ⟨rfl, hlo, i + 1, by omega, (by simp +decide (disch := first | assumption | (apply GH.ok_push; assumption) | exact cellV_int _ _ | exact cellV_bool _ | omega) only [go_sem, ↓reduceIte, Nat.reduceEqDiff, Nat.reduceAdd, Int.reduceToNat, he]; first | done | exact rfl), ?_⟩
          rw [all_snoc _ T i R hTi, hp]
          first | (simp; done) | (simp; omega)
      · have ci' : ¬ (i : Int) < T.length := by omega
        simp +decide (disch := first | assumption | (apply GH.ok_push; assumption) | exact cellV_int _ _ | exact cellV_bool _ | omega) only [go_sem, ↓reduceIte, Nat.reduceEqDiff, Nat.reduceAdd, Int.reduceToNat, he, hl, ci']
        rw [List.take_of_length_le (by omega)] at hp
        refine out _ _ _ ⟨rfl, hlo, (by simp +decide (disch := first | assumption | (apply GH.ok_push; assumption) | exact cellV_int _ _ | exact cellV_bool _ | omega) only [go_sem, ↓reduceIte, Nat.reduceEqDiff, Nat.reduceAdd, Int.reduceToNat, he]; first | done | exact rfl), ?_⟩
        unfold fewT
        rw [decide_eq_true (by omega), hp]; rfl
theorem few1_rets {X : Caller} (hX : Xok X) (T : List (List Int)) (L : List Int) (s : Value) (d : Int) (t : Value) (g : GH) (ht : Sl2 g t T) (hs : SlR g s (ints L)) (j : Nat) (ty : TypeId) (hj : j < g.next) (hg : g.get j = cellsOb [s, .int .i64 d] ty) :
    Rets Tryd.prog X 15 [t, .slice (some ⟨j, 0, none⟩) 1 1] g (fun v g' lo => g.next ≤ lo ∧ v = .bool (fewT T && decide (L.length ≤ 20))) := by
  have hia : iaddrSF 2 (.slice (some ⟨j, 0, none⟩) 1 1) (.int .i64 0) = some (.pointer (some ⟨j, 0, none⟩)) := rfl
  have hls := hs.len
  rw [ints_len] at hls
  have hl := ht.len
  refine Rets.run hX.pres p15 (hX.free 15 (by decide) _ _) rfl fun ho => ?_
  by_cases c0 : (20 : Int) < T.length
  · simp +decide (disch := first | assumption | (apply GH.ok_push; assumption) | exact cellV_int _ _ | exact cellV_bool _ | omega) only [go_sem, ↓reduceIte, Nat.reduceEqDiff, Nat.reduceAdd, Int.reduceToNat, hl, c0]
    intro hx
    refine ⟨Nat.le_refl _, ?_⟩
    have : fewT T = false := by unfold fewT; rw [decide_eq_false (by omega)]; rfl
    simp [this]
  · simp +decide (disch := first | assumption | (apply GH.ok_push; assumption) | exact cellV_int _ _ | exact cellV_bool _ | omega) only [go_sem, ↓reduceIte, Nat.reduceEqDiff, Nat.reduceAdd, Int.reduceToNat, hl, c0]
    refine Wk.loops (fun m e g' lo => g' = g ∧ g.next ≤ lo ∧ ∃ i : Nat, i + m = T.length ∧ (ev e (.s 0) = t ∧ ev e (.s 1) = .slice (some ⟨j, 0, none⟩) 1 1 ∧ ev e (.s 5) = .int .i64 i) ∧ (T.take i).all (fun R => decide (R.length ≤ 20)) = true)
      (fun e g' lo => g' = g ∧ g.next ≤ lo ∧ ev e (.s 1) = .slice (some ⟨j, 0, none⟩) 1 1 ∧ fewT T = true) (n := T.length) ?_ ?_ ?_
    · exact ⟨rfl, Nat.le_refl _, 0, by omega, (by simp +decide (disch := first | assumption | (apply GH.ok_push; assumption) | exact cellV_int _ _ | exact cellV_bool _ | omega) only [go_sem, ↓reduceIte, Nat.reduceEqDiff, Nat.reduceAdd, Int.reduceToNat]; first | done | exact rfl), rfl⟩
    · rintro e g' lo - - ⟨rfl, hlo, he, h⟩
      rw [h, Bool.true_and]
      by_cases q1 : (20 : Int) < L.length
      · simp +decide (disch := first | assumption | exact cellV_int _ _ | exact cellV_bool _ | omega | (simp only [GH.pn, GH.sn] <;> omega) | (with_reducible ((repeat (first | apply GH.ok_push | apply GH.ok_set)); assumption)) | ((try simp only [GH.push_hid, GH.set_hid]); refine GH.vis ?_ ?_ <;> first | assumption | ((try simp only [GH.pn, GH.sn]) <;> omega))) only [go_sem, ↓reduceIte, Nat.reduceEqDiff, Nat.reduceAdd, Int.reduceToNat, Int.reduceAdd, Int.reduceNeg, Int.reduceSub, Int.reduceMul, Int.reduceLT, Int.reduceLE, Int.reduceEq, ↓GH.gp_eq, ↓GH.gp_ne, ↓GH.gs_eq, ↓GH.gs_ne, GH.push_next, GH.set_next, he]
        repeat ((first | refine Wk.once ?_ | refine Wk.more (Wk.once ?_) | refine Wk.leave ?_); simp +decide (disch := first | assumption | exact cellV_int _ _ | exact cellV_bool _ | omega | (simp only [GH.pn, GH.sn] <;> omega) | (with_reducible ((repeat (first | apply GH.ok_push | apply GH.ok_set)); assumption)) | ((try simp only [GH.push_hid, GH.set_hid]); refine GH.vis ?_ ?_ <;> first | assumption | ((try simp only [GH.pn, GH.sn]) <;> omega))) only [go_sem, ↓reduceIte, Nat.reduceEqDiff, Nat.reduceAdd, Int.reduceToNat, Int.reduceAdd, Int.reduceNeg, Int.reduceSub, Int.reduceMul, Int.reduceLT, Int.reduceLE, Int.reduceEq, ↓GH.gp_eq, ↓GH.gp_ne, ↓GH.gs_eq, ↓GH.gs_ne, GH.push_next, GH.set_next, he, hia, hg, hls, q1])
        intro hx
        refine ⟨hlo, ?_⟩
        first | rfl | (rw [decide_eq_false (show ¬ L.length ≤ 20 by omega)])
      · simp +decide (disch := first | assumption | exact cellV_int _ _ | exact cellV_bool _ | omega | (simp only [GH.pn, GH.sn] <;> omega) | (with_reducible ((repeat (first | apply GH.ok_push | apply GH.ok_set)); assumption)) | ((try simp only [GH.push_hid, GH.set_hid]); refine GH.vis ?_ ?_ <;> first | assumption | ((try simp only [GH.pn, GH.sn]) <;> omega))) only [go_sem, ↓reduceIte, Nat.reduceEqDiff, Nat.reduceAdd, Int.reduceToNat, Int.reduceAdd, Int.reduceNeg, Int.reduceSub, Int.reduceMul, Int.reduceLT, Int.reduceLE, Int.reduceEq, ↓GH.gp_eq, ↓GH.gp_ne, ↓GH.gs_eq, ↓GH.gs_ne, GH.push_next, GH.set_next, he]
        repeat ((first | refine Wk.once ?_ | refine Wk.more (Wk.once ?_) | refine Wk.leave ?_); simp +decide (disch := first | assumption | exact cellV_int _ _ | exact cellV_bool _ | omega | (simp only [GH.pn, GH.sn] <;> omega) | (with_reducible ((repeat (first | apply GH.ok_push | apply GH.ok_set)); assumption)) | ((try simp only [GH.push_hid, GH.set_hid]); refine GH.vis ?_ ?_ <;> first | assumption | ((try simp only [GH.pn, GH.sn]) <;> omega))) only [go_sem, ↓reduceIte, Nat.reduceEqDiff, Nat.reduceAdd, Int.reduceToNat, Int.reduceAdd, Int.reduceNeg, Int.reduceSub, Int.reduceMul, Int.reduceLT, Int.reduceLE, Int.reduceEq, ↓GH.gp_eq, ↓GH.gp_ne, ↓GH.gs_eq, ↓GH.gs_ne, GH.push_next, GH.set_next, he, hia, hg, hls, q1])
        intro hx
        refine ⟨hlo, ?_⟩
        first | rfl | (rw [decide_eq_true (show L.length ≤ 20 by omega)])
    · rintro m e g' lo ho' hl' ih out ⟨rfl, hlo, i, hi, he, hp⟩
      by_cases ci : i < T.length
      · have ci' : (i : Int) < T.length := by omega
        obtain ⟨v, j1, o1, hj1, hp1, hp2, hv⟩ := ht.ptr ci
        have hp1 := hp1 (i : Int) rfl
        have hTi := getD_get [] ci
        obtain ⟨R, hR'⟩ : ∃ R, T.getD i [] = R := ⟨_, rfl⟩
        rw [hR'] at hv hTi
        have hvl := hv.len
        rw [ints_len] at hvl
        by_cases cl : (20 : Int) < R.length
        · simp +decide (disch := first | assumption | (apply GH.ok_push; assumption) | exact cellV_int _ _ | exact cellV_bool _ | omega) only [go_sem, ↓reduceIte, Nat.reduceEqDiff, Nat.reduceAdd, Int.reduceToNat, he, hl, hp1, hp2, hvl, cl, ci']
          intro hx
          refine ⟨hlo, ?_⟩
          have : fewT T = false := by
            unfold fewT
            rw [all_bad hTi (by simp; omega), Bool.and_false]
          simp [this]
        · simp +decide (disch := first | assumption | (apply GH.ok_push; assumption) | exact cellV_int _ _ | exact cellV_bool _ | omega) only [go_sem, ↓reduceIte, Nat.reduceEqDiff, Nat.reduceAdd, Int.reduceToNat, he, hl, hp1, hp2, hvl, cl, ci']
          refine ih (m - 1) _ _ _ (by omega) ⟨rfl, hlo, i + 1, by omega, (by simp +decide (disch := first | assumption | (apply GH.ok_push; assumption) | exact cellV_int _ _ | exact cellV_bool _ | omega) only [go_sem, ↓reduceIte, Nat.reduceEqDiff, Nat.reduceAdd, Int.reduceToNat, he]; first | done | exact rfl), ?_⟩
          rw [all_snoc _ T i R hTi, hp]
          first | (simp; done) | (simp; omega)
      · have ci' : ¬ (i : Int) < T.length := by omega
        simp +decide (disch := first | assumption | (apply GH.ok_push; assumption) | exact cellV_int _ _ | exact cellV_bool _ | omega) only [go_sem, ↓reduceIte, Nat.reduceEqDiff, Nat.reduceAdd, Int.reduceToNat, he, hl, ci']
        rw [List.take_of_length_le (by omega)] at hp
        refine out _ _ _ ⟨rfl, hlo, (by simp +decide (disch := first | assumption | (apply GH.ok_push; assumption) | exact cellV_int _ _ | exact cellV_bool _ | omega) only [go_sem, ↓reduceIte, Nat.reduceEqDiff, Nat.reduceAdd, Int.reduceToNat, he]; first | done | exact rfl), ?_⟩
        unfold fewT
        rw [decide_eq_true (by omega), hp]; rfl
theorem few2_rets {X : Caller} (hX : Xok X) (T : List (List Int)) (L : List Int) (s : Value) (d : Int) (M : List Int) (r : Value) (f : Int) (t : Value) (g : GH) (ht : Sl2 g t T) (hs : SlR g s (ints L)) (hr : SlR g r (ints M)) (j : Nat) (ty : TypeId) (hj : j < g.next) (hg : g.get j = cellsOb [s, .int .i64 d, r, .int .i64 f] ty) :
    Rets Tryd.prog X 15 [t, .slice (some ⟨j, 0, none⟩) 2 2] g (fun v g' lo => g.next ≤ lo ∧ v = .bool (fewT T && decide (L.length ≤ 20) && decide (M.length ≤ 20))) := by
  have hia : iaddrSF 2 (.slice (some ⟨j, 0, none⟩) 2 2) (.int .i64 0) = some (.pointer (some ⟨j, 0, none⟩)) := rfl
  have hib : iaddrSF 2 (.slice (some ⟨j, 0, none⟩) 2 2) (.int .i64 1) = some (.pointer (some ⟨j, 2, none⟩)) := by
    show some (Value.pointer (some ((⟨j, 0, none⟩ : Addr).add 2))) = _
    unfold Addr.add; rfl
  have hls := hs.len
  rw [ints_len] at hls
  have hlr := hr.len
  rw [ints_len] at hlr
  have hl := ht.len
  refine Rets.run hX.pres p15 (hX.free 15 (by decide) _ _) rfl fun ho => ?_
  by_cases c0 : (20 : Int) < T.length
  · simp +decide (disch := first | assumption | (apply GH.ok_push; assumption) | exact cellV_int _ _ | exact cellV_bool _ | omega) only [go_sem, ↓reduceIte, Nat.reduceEqDiff, Nat.reduceAdd, Int.reduceToNat, hl, c0]
    intro hx
    refine ⟨Nat.le_refl _, ?_⟩
    have : fewT T = false := by unfold fewT; rw [decide_eq_false (by omega)]; rfl
    simp [this]
  · simp +decide (disch := first | assumption | (apply GH.ok_push; assumption) | exact cellV_int _ _ | exact cellV_bool _ | omega) only [go_sem, ↓reduceIte, Nat.reduceEqDiff, Nat.reduceAdd, Int.reduceToNat, hl, c0]
    refine Wk.loops (fun m e g' lo => g' = g ∧ g.next ≤ lo ∧ ∃ i : Nat, i + m = T.length ∧ (ev e (.s 0) = t ∧ ev e (.s 1) = .slice (some ⟨j, 0, none⟩) 2 2 ∧ ev e (.s 5) = .int .i64 i) ∧ (T.take i).all (fun R => decide (R.length ≤ 20)) = true)
      (fun e g' lo => g' = g ∧ g.next ≤ lo ∧ ev e (.s 1) = .slice (some ⟨j, 0, none⟩) 2 2 ∧ fewT T = true) (n := T.length) ?_ ?_ ?_
    · exact ⟨rfl, Nat.le_refl _, 0, by omega, (by simp +decide (disch := first | assumption | (apply GH.ok_push; assumption) | exact cellV_int _ _ | exact cellV_bool _ | omega) only [go_sem, ↓reduceIte, Nat.reduceEqDiff, Nat.reduceAdd, Int.reduceToNat]; first | done | exact rfl), rfl⟩
    · rintro e g' lo - - ⟨rfl, hlo, he, h⟩
      rw [h, Bool.true_and]
      by_cases q1 : (20 : Int) < L.length
      · simp +decide (disch := first | assumption | exact cellV_int _ _ | exact cellV_bool _ | omega | (simp only [GH.pn, GH.sn] <;> omega) | (with_reducible ((repeat (first | apply GH.ok_push | apply GH.ok_set)); assumption)) | ((try simp only [GH.push_hid, GH.set_hid]); refine GH.vis ?_ ?_ <;> first | assumption | ((try simp only [GH.pn, GH.sn]) <;> omega))) only [go_sem, ↓reduceIte, Nat.reduceEqDiff, Nat.reduceAdd, Int.reduceToNat, Int.reduceAdd, Int.reduceNeg, Int.reduceSub, Int.reduceMul, Int.reduceLT, Int.reduceLE, Int.reduceEq, ↓GH.gp_eq, ↓GH.gp_ne, ↓GH.gs_eq, ↓GH.gs_ne, GH.push_next, GH.set_next, he]
        repeat ((first | refine Wk.once ?_ | refine Wk.more (Wk.once ?_) | refine Wk.leave ?_); simp +decide (disch := first | assumption | exact cellV_int _ _ | exact cellV_bool _ | omega | (simp only [GH.pn, GH.sn] <;> omega) | (with_reducible ((repeat (first | apply GH.ok_push | apply GH.ok_set)); assumption)) | ((try simp only [GH.push_hid, GH.set_hid]); refine GH.vis ?_ ?_ <;> first | assumption | ((try simp only [GH.pn, GH.sn]) <;> omega))) only [go_sem, ↓reduceIte, Nat.reduceEqDiff, Nat.reduceAdd, Int.reduceToNat, Int.reduceAdd, Int.reduceNeg, Int.reduceSub, Int.reduceMul, Int.reduceLT, Int.reduceLE, Int.reduceEq, ↓GH.gp_eq, ↓GH.gp_ne, ↓GH.gs_eq, ↓GH.gs_ne, GH.push_next, GH.set_next, he, hia, hib, hg, hls, q1])
        intro hx
        refine ⟨hlo, ?_⟩
        first | rfl | (rw [decide_eq_false (show ¬ L.length ≤ 20 by omega)]; rfl)
      · by_cases q2 : (20 : Int) < M.length
        · simp +decide (disch := first | assumption | exact cellV_int _ _ | exact cellV_bool _ | omega | (simp only [GH.pn, GH.sn] <;> omega) | (with_reducible ((repeat (first | apply GH.ok_push | apply GH.ok_set)); assumption)) | ((try simp only [GH.push_hid, GH.set_hid]); refine GH.vis ?_ ?_ <;> first | assumption | ((try simp only [GH.pn, GH.sn]) <;> omega))) only [go_sem, ↓reduceIte, Nat.reduceEqDiff, Nat.reduceAdd, Int.reduceToNat, Int.reduceAdd, Int.reduceNeg, Int.reduceSub, Int.reduceMul, Int.reduceLT, Int.reduceLE, Int.reduceEq, ↓GH.gp_eq, ↓GH.gp_ne, ↓GH.gs_eq, ↓GH.gs_ne, GH.push_next, GH.set_next, he]
          repeat ((first | refine Wk.once ?_ | refine Wk.more (Wk.once ?_) | refine Wk.leave ?_); simp +decide (disch := first | assumption | exact cellV_int _ _ | exact cellV_bool _ | omega | (simp only [GH.pn, GH.sn] <;> omega) | (with_reducible ((repeat (first | apply GH.ok_push | apply GH.ok_set)); assumption)) | ((try simp only [GH.push_hid, GH.set_hid]); refine GH.vis ?_ ?_ <;> first | assumption | ((try simp only [GH.pn, GH.sn]) <;> omega))) only [go_sem, ↓reduceIte, Nat.reduceEqDiff, Nat.reduceAdd, Int.reduceToNat, Int.reduceAdd, Int.reduceNeg, Int.reduceSub, Int.reduceMul, Int.reduceLT, Int.reduceLE, Int.reduceEq, ↓GH.gp_eq, ↓GH.gp_ne, ↓GH.gs_eq, ↓GH.gs_ne, GH.push_next, GH.set_next, he, hia, hib, hg, hls, hlr, q1, q2])
          intro hx
          refine ⟨hlo, ?_⟩
          first | rfl | (rw [decide_eq_false (show ¬ M.length ≤ 20 by omega)]; simp)
        · simp +decide (disch := first | assumption | exact cellV_int _ _ | exact cellV_bool _ | omega | (simp only [GH.pn, GH.sn] <;> omega) | (with_reducible ((repeat (first | apply GH.ok_push | apply GH.ok_set)); assumption)) | ((try simp only [GH.push_hid, GH.set_hid]); refine GH.vis ?_ ?_ <;> first | assumption | ((try simp only [GH.pn, GH.sn]) <;> omega))) only [go_sem, ↓reduceIte, Nat.reduceEqDiff, Nat.reduceAdd, Int.reduceToNat, Int.reduceAdd, Int.reduceNeg, Int.reduceSub, Int.reduceMul, Int.reduceLT, Int.reduceLE, Int.reduceEq, ↓GH.gp_eq, ↓GH.gp_ne, ↓GH.gs_eq, ↓GH.gs_ne, GH.push_next, GH.set_next, he]
          repeat ((first | refine Wk.once ?_ | refine Wk.more (Wk.once ?_) | refine Wk.leave ?_); simp +decide (disch := first | assumption | exact cellV_int _ _ | exact cellV_bool _ | omega | (simp only [GH.pn, GH.sn] <;> omega) | (with_reducible ((repeat (first | apply GH.ok_push | apply GH.ok_set)); assumption)) | ((try simp only [GH.push_hid, GH.set_hid]); refine GH.vis ?_ ?_ <;> first | assumption | ((try simp only [GH.pn, GH.sn]) <;> omega))) only [go_sem, ↓reduceIte, Nat.reduceEqDiff, Nat.reduceAdd, Int.reduceToNat, Int.reduceAdd, Int.reduceNeg, Int.reduceSub, Int.reduceMul, Int.reduceLT, Int.reduceLE, Int.reduceEq, ↓GH.gp_eq, ↓GH.gp_ne, ↓GH.gs_eq, ↓GH.gs_ne, GH.push_next, GH.set_next, he, hia, hib, hg, hls, hlr, q1, q2])
          intro hx
          refine ⟨hlo, ?_⟩
          first | rfl | (rw [decide_eq_true (show L.length ≤ 20 by omega), decide_eq_true (show M.length ≤ 20 by omega)]; rfl)
    · rintro m e g' lo ho' hl' ih out ⟨rfl, hlo, i, hi, he, hp⟩
      by_cases ci : i < T.length
      · have ci' : (i : Int) < T.length := by omega
        obtain ⟨v, j1, o1, hj1, hp1, hp2, hv⟩ := ht.ptr ci
        have hp1 := hp1 (i : Int) rfl
        have hTi := getD_get [] ci
        obtain ⟨R, hR'⟩ : ∃ R, T.getD i [] = R := ⟨_, rfl⟩
        rw [hR'] at hv hTi
        have hvl := hv.len
        rw [ints_len] at hvl
        by_cases cl : (20 : Int) < R.length
        · simp +decide (disch := first | assumption | (apply GH.ok_push; assumption) | exact cellV_int _ _ | exact cellV_bool _ | omega) only [go_sem, ↓reduceIte, Nat.reduceEqDiff, Nat.reduceAdd, Int.reduceToNat, he, hl, hp1, hp2, hvl, cl, ci']
          intro hx
          refine ⟨hlo, ?_⟩
          have : fewT T = false := by
            unfold fewT
            rw [all_bad hTi (by simp; omega), Bool.and_false]
          simp [this]
        · simp +decide (disch := first | assumption | (apply GH.ok_push; assumption) | exact cellV_int _ _ | exact cellV_bool _ | omega) only [go_sem, ↓reduceIte, Nat.reduceEqDiff, Nat.reduceAdd, Int.reduceToNat, he, hl, hp1, hp2, hvl, cl, ci']
          refine ih (m - 1) _ _ _ (by omega) ⟨rfl, hlo, i + 1, by omega, (by simp +decide (disch := first | assumption | (apply GH.ok_push; assumption) | exact cellV_int _ _ | exact cellV_bool _ | omega) only [go_sem, ↓reduceIte, Nat.reduceEqDiff, Nat.reduceAdd, Int.reduceToNat, he]; first | done | exact rfl), ?_⟩
          rw [all_snoc _ T i R hTi, hp]
          first | (simp; done) | (simp; omega)
      · have ci' : ¬ (i : Int) < T.length := by omega
        simp +decide (disch := first | assumption | (apply GH.ok_push; assumption) | exact cellV_int _ _ | exact cellV_bool _ | omega) only [go_sem, ↓reduceIte, Nat.reduceEqDiff, Nat.reduceAdd, Int.reduceToNat, he, hl, ci']
        rw [List.take_of_length_le (by omega)] at hp
        refine out _ _ _ ⟨rfl, hlo, (by simp +decide (disch := first | assumption | (apply GH.ok_push; assumption) | exact cellV_int _ _ | exact cellV_bool _ | omega) only [go_sem, ↓reduceIte, Nat.reduceEqDiff, Nat.reduceAdd, Int.reduceToNat, he]; first | done | exact rfl), ?_⟩
        unfold fewT
        rw [decide_eq_true (by omega), hp]; rfl
end Go.Proofs.YtngmaccaldhjcaaDoor
set_option maxRecDepth 100000
set_option maxHeartbeats 4000000
set_option linter.unusedSimpArgs false
set_option linter.unusedVariables false
namespace Go.Ds
section
variable {P : Program} {X : Caller} {Q : Out → Env → GH → Nat → Prop} {gd : Option (P3 × Bool)} {dd : Option P3} {l : List PI} {k : Nat} {sp : List (Nat × (Nat × Nat))} {wr : List Nat} {ks : List Fr} {e : Env} {g : GH} {lo : Nat} {f : FuncId} {xs : List PO}
/-- A call of a function value that leaves what was there. -/
theorem GR.calmV {R : Value → GH → Prop} {x : PO} {first captured : Array Value} (hg : wantF e gd = some true) (hx : ev e x = .func (.func f) first captured) (hf : Rets P X f (first.toList ++ evs e xs ++ captured.toList) g (fun v g' lo' => g.next ≤ lo' ∧ R v g'))
    (h : ∀ v g', GExt g g' g.next → R v g' → GR P X Q l (Nat.succ k) ((k, (g.next, g'.next)) :: sp) wr ks (putE e dd v) g' lo) : GR P X Q (⟨gd, dd, none, some (.callV x xs), []⟩ :: l) k sp wr ks e g lo := by
  refine GR.use fun hl ho hs => ?_
  unfold Rets at hf
  obtain ⟨v, g', lo', ⟨i, d, n, h1⟩, h2, h3, h4⟩ := hf ho
  have : lo' = g.next := Nat.le_antisymm h2.low h3
  subst this
  have hp : Hp P X (.callV x xs) e g v g' g.next := by
    unfold Hp
    refine ⟨i, d, n, ?_⟩
    simp only [runH, callVF, hx]
    exact h1
  exact GR.more hg hp h2.hid h2.next (h v g' h2 h4)
theorem CallV.calm {args all : List Value} {R : Value → GH → Prop} {first captured : Array Value} (ha : first.toList ++ args ++ captured.toList = all) (hf : Rets P X f all g (fun v g' lo' => g.next ≤ lo' ∧ R v g'))
    (h : ∀ v g', GExt g g' g.next → R v g' → Wk P X Q (.R l (k + 1) ((k, (g.next, g'.next)) :: sp) wr ks (putE e dd v) g' lo)) : CallV P X Q (.func (.func f) first captured) args dd l k sp wr ks e g lo := fun y xs hy hz => by
  subst hz; subst ha
  exact GR.calmV rfl hy hf fun v g' x r => (h v g' x r).R
end
end Go.Ds
namespace Go.Proofs.YtngmaccaldhjcaaDoor
open Go.Ds
def mgV (n m00 m01 m02 m10 m11 m12 m20 m21 m22 p0 p1 p2 q0 q1 q2 : Int) : Value := .agg #[.int .i64 n, .int .i64 m00, .int .i64 m01, .int .i64 m02, .int .i64 m10, .int .i64 m11, .int .i64 m12, .int .i64 m20, .int .i64 m21, .int .i64 m22, .int .i64 p0, .int .i64 p1, .int .i64 p2, .int .i64 q0, .int .i64 q1, .int .i64 q2]
def Sm3 (b x y z : Int) : Prop := Sm b x ∧ Sm b y ∧ Sm b z
theorem eqA4 (a b c d x y z w : Int) : eqAF false 4 (.agg #[.int .i64 a, .int .i64 b, .int .i64 c, .int .i64 d]) (.agg #[.int .i64 x, .int .i64 y, .int .i64 z, .int .i64 w]) = some (.bool (decide (a = x ∧ b = y ∧ c = z ∧ d = w))) := by
  have hk : kindEq .i64 .i64 = true := rfl
  simp only [eqAF, intEqs, hk, eq_i, cond_true]
  by_cases h1 : a = x <;> by_cases h2 : b = y <;> by_cases h3 : c = z <;> by_cases h4 : d = w <;> simp [h1, h2, h3, h4, intEqs]
theorem bldG (c0 c1 c2 c3 c4 c5 c6 c7 c8 c9 u0 u1 u2 w0 w1 w2 : Value) : buildF [(0, 10), (10, 3), (13, 3)] none #[.int .i64 0, .int .i64 0, .int .i64 0, .int .i64 0, .int .i64 0, .int .i64 0, .int .i64 0, .int .i64 0, .int .i64 0, .int .i64 0, .int .i64 0, .int .i64 0, .int .i64 0, .int .i64 0, .int .i64 0, .int .i64 0] [(0, .agg #[c0, c1, c2, c3, c4, c5, c6, c7, c8, c9]), (1, .agg #[u0, u1, u2]), (2, .agg #[w0, w1, w2])] = some (.agg #[c0, c1, c2, c3, c4, c5, c6, c7, c8, c9, u0, u1, u2, w0, w1, w2]) := by
  have e1 : (Value.agg #[c0, c1, c2, c3, c4, c5, c6, c7, c8, c9]).cells = #[c0, c1, c2, c3, c4, c5, c6, c7, c8, c9] := rfl
  have e2 : (Value.agg #[u0, u1, u2]).cells = #[u0, u1, u2] := rfl
  have e3 : (Value.agg #[w0, w1, w2]).cells = #[w0, w1, w2] := rfl
  simp [buildF, Instr.fill, placeF, e1, e2, e3]
theorem spl16 (a0 a1 a2 a3 a4 a5 a6 a7 a8 a9 a10 a11 a12 a13 a14 a15 b0 b1 b2 b3 b4 b5 b6 b7 b8 b9 b10 b11 b12 b13 b14 b15 : Value) : splice 0 [a0, a1, a2, a3, a4, a5, a6, a7, a8, a9, a10, a11, a12, a13, a14, a15] [b0, b1, b2, b3, b4, b5, b6, b7, b8, b9, b10, b11, b12, b13, b14, b15] = [b0, b1, b2, b3, b4, b5, b6, b7, b8, b9, b10, b11, b12, b13, b14, b15] := rfl
theorem beqd (a b : Nat) : Nat.beq a b = decide (a = b) := by rw [Bool.eq_iff_iff]; simp
theorem home67_rets {X : Caller} (hX : Xok X) (n m00 m01 m02 m10 m11 m12 m20 m21 m22 p0 p1 p2 q0 q1 q2 : Int) (hm : Sm9 m00 m01 m02 m10 m11 m12 m20 m21 m22) (hp : Sm3 100000000 p0 p1 p2) (hq : Sm3 100000000 q0 q1 q2) (g : GH) :
    Rets Tryd.prog X 67 [mgV n m00 m01 m02 m10 m11 m12 m20 m21 m22 p0 p1 p2 q0 q1 q2] g (fun v g' lo => g.next ≤ lo ∧ v = .int .i64 (gainZ m00 m01 m02 m10 m11 m12 m20 m21 m22 p0 p1 p2 p0 p1 p2)) := by
  have hga := gain_rets hX n m00 m01 m02 m10 m11 m12 m20 m21 m22 p0 p1 p2 p0 p1 p2 100000000 100000000 20 hm hp hp (by decide) (by decide)
  have hgs := gain_sm hm hp hp
  unfold mkV vcV at hga
  unfold mgV
  obtain ⟨Z, hZ⟩ : ∃ Z, gainZ m00 m01 m02 m10 m11 m12 m20 m21 m22 p0 p1 p2 p0 p1 p2 = Z := ⟨_, rfl⟩
  rw [hZ] at hga hgs ⊢
  refine Rets.run hX.pres p67 (hX.free 67 (by decide) _ _) rfl fun ho => ?_
  simp +decide (disch := first | assumption | exact cellV_int _ _ | exact cellV_bool _ | omega | (simp only [GH.pn, GH.sn] <;> omega) | (with_reducible ((repeat (first | apply GH.ok_push | apply GH.ok_set)); assumption)) | ((try simp only [GH.push_hid, GH.set_hid]); refine GH.vis ?_ ?_ <;> first | assumption | ((try simp only [GH.pn, GH.sn]) <;> omega))) only [go_sem, ↓reduceIte, Nat.reduceEqDiff, Nat.reduceAdd, Int.reduceToNat, Int.reduceAdd, Int.reduceNeg, Int.reduceSub, Int.reduceMul, Int.reduceLT, Int.reduceLE, Int.reduceEq, ↓GH.gp_eq, ↓GH.gp_ne, ↓GH.gs_eq, ↓GH.gs_ne, GH.push_next, GH.set_next]
  refine CallD.calm (hga _) ?_
  rintro v g1 hx1 rfl
  simp +decide (disch := first | assumption | exact cellV_int _ _ | exact cellV_bool _ | omega | (simp only [GH.pn, GH.sn] <;> omega) | (with_reducible ((repeat (first | apply GH.ok_push | apply GH.ok_set)); assumption)) | ((try simp only [GH.push_hid, GH.set_hid]); refine GH.vis ?_ ?_ <;> first | assumption | ((try simp only [GH.pn, GH.sn]) <;> omega))) only [go_sem, ↓reduceIte, Nat.reduceEqDiff, Nat.reduceAdd, Int.reduceToNat, Int.reduceAdd, Int.reduceNeg, Int.reduceSub, Int.reduceMul, Int.reduceLT, Int.reduceLE, Int.reduceEq, ↓GH.gp_eq, ↓GH.gp_ne, ↓GH.gs_eq, ↓GH.gs_ne, GH.push_next, GH.set_next]
  intro hx0
  exact ⟨by have := hx1.next; simp only [GH.pn, GH.sn] at this ⊢; omega, rfl⟩
theorem home68_rets {X : Caller} (hX : Xok X) (n m00 m01 m02 m10 m11 m12 m20 m21 m22 p0 p1 p2 q0 q1 q2 : Int) (hm : Sm9 m00 m01 m02 m10 m11 m12 m20 m21 m22) (hp : Sm3 100000000 p0 p1 p2) (hq : Sm3 100000000 q0 q1 q2) (g : GH) :
    Rets Tryd.prog X 68 [mgV n m00 m01 m02 m10 m11 m12 m20 m21 m22 p0 p1 p2 q0 q1 q2] g (fun v g' lo => g.next ≤ lo ∧ v = .int .i64 (gainZ m00 m01 m02 m10 m11 m12 m20 m21 m22 q0 q1 q2 p0 p1 p2)) := by
  have hga := gain_rets hX n m00 m01 m02 m10 m11 m12 m20 m21 m22 q0 q1 q2 p0 p1 p2 100000000 100000000 20 hm hq hp (by decide) (by decide)
  have hgs := gain_sm hm hq hp
  unfold mkV vcV at hga
  unfold mgV
  obtain ⟨Z, hZ⟩ : ∃ Z, gainZ m00 m01 m02 m10 m11 m12 m20 m21 m22 q0 q1 q2 p0 p1 p2 = Z := ⟨_, rfl⟩
  rw [hZ] at hga hgs ⊢
  refine Rets.run hX.pres p68 (hX.free 68 (by decide) _ _) rfl fun ho => ?_
  simp +decide (disch := first | assumption | exact cellV_int _ _ | exact cellV_bool _ | omega | (simp only [GH.pn, GH.sn] <;> omega) | (with_reducible ((repeat (first | apply GH.ok_push | apply GH.ok_set)); assumption)) | ((try simp only [GH.push_hid, GH.set_hid]); refine GH.vis ?_ ?_ <;> first | assumption | ((try simp only [GH.pn, GH.sn]) <;> omega))) only [go_sem, ↓reduceIte, Nat.reduceEqDiff, Nat.reduceAdd, Int.reduceToNat, Int.reduceAdd, Int.reduceNeg, Int.reduceSub, Int.reduceMul, Int.reduceLT, Int.reduceLE, Int.reduceEq, ↓GH.gp_eq, ↓GH.gp_ne, ↓GH.gs_eq, ↓GH.gs_ne, GH.push_next, GH.set_next]
  refine CallD.calm (hga _) ?_
  rintro v g1 hx1 rfl
  simp +decide (disch := first | assumption | exact cellV_int _ _ | exact cellV_bool _ | omega | (simp only [GH.pn, GH.sn] <;> omega) | (with_reducible ((repeat (first | apply GH.ok_push | apply GH.ok_set)); assumption)) | ((try simp only [GH.push_hid, GH.set_hid]); refine GH.vis ?_ ?_ <;> first | assumption | ((try simp only [GH.pn, GH.sn]) <;> omega))) only [go_sem, ↓reduceIte, Nat.reduceEqDiff, Nat.reduceAdd, Int.reduceToNat, Int.reduceAdd, Int.reduceNeg, Int.reduceSub, Int.reduceMul, Int.reduceLT, Int.reduceLE, Int.reduceEq, ↓GH.gp_eq, ↓GH.gp_ne, ↓GH.gs_eq, ↓GH.gs_ne, GH.push_next, GH.set_next]
  intro hx0
  exact ⟨by have := hx1.next; simp only [GH.pn, GH.sn] at this ⊢; omega, rfl⟩
theorem home69_rets {X : Caller} (hX : Xok X) (n m00 m01 m02 m10 m11 m12 m20 m21 m22 p0 p1 p2 q0 q1 q2 : Int) (hm : Sm9 m00 m01 m02 m10 m11 m12 m20 m21 m22) (hp : Sm3 100000000 p0 p1 p2) (hq : Sm3 100000000 q0 q1 q2) (g : GH) :
    Rets Tryd.prog X 69 [mgV n m00 m01 m02 m10 m11 m12 m20 m21 m22 p0 p1 p2 q0 q1 q2] g (fun v g' lo => g.next ≤ lo ∧ v = .int .i64 (gainZ m00 m01 m02 m10 m11 m12 m20 m21 m22 p0 p1 p2 q0 q1 q2)) := by
  have hga := gain_rets hX n m00 m01 m02 m10 m11 m12 m20 m21 m22 p0 p1 p2 q0 q1 q2 100000000 100000000 20 hm hp hq (by decide) (by decide)
  have hgs := gain_sm hm hp hq
  unfold mkV vcV at hga
  unfold mgV
  obtain ⟨Z, hZ⟩ : ∃ Z, gainZ m00 m01 m02 m10 m11 m12 m20 m21 m22 p0 p1 p2 q0 q1 q2 = Z := ⟨_, rfl⟩
  rw [hZ] at hga hgs ⊢
  refine Rets.run hX.pres p69 (hX.free 69 (by decide) _ _) rfl fun ho => ?_
  simp +decide (disch := first | assumption | exact cellV_int _ _ | exact cellV_bool _ | omega | (simp only [GH.pn, GH.sn] <;> omega) | (with_reducible ((repeat (first | apply GH.ok_push | apply GH.ok_set)); assumption)) | ((try simp only [GH.push_hid, GH.set_hid]); refine GH.vis ?_ ?_ <;> first | assumption | ((try simp only [GH.pn, GH.sn]) <;> omega))) only [go_sem, ↓reduceIte, Nat.reduceEqDiff, Nat.reduceAdd, Int.reduceToNat, Int.reduceAdd, Int.reduceNeg, Int.reduceSub, Int.reduceMul, Int.reduceLT, Int.reduceLE, Int.reduceEq, ↓GH.gp_eq, ↓GH.gp_ne, ↓GH.gs_eq, ↓GH.gs_ne, GH.push_next, GH.set_next]
  refine CallD.calm (hga _) ?_
  rintro v g1 hx1 rfl
  simp +decide (disch := first | assumption | exact cellV_int _ _ | exact cellV_bool _ | omega | (simp only [GH.pn, GH.sn] <;> omega) | (with_reducible ((repeat (first | apply GH.ok_push | apply GH.ok_set)); assumption)) | ((try simp only [GH.push_hid, GH.set_hid]); refine GH.vis ?_ ?_ <;> first | assumption | ((try simp only [GH.pn, GH.sn]) <;> omega))) only [go_sem, ↓reduceIte, Nat.reduceEqDiff, Nat.reduceAdd, Int.reduceToNat, Int.reduceAdd, Int.reduceNeg, Int.reduceSub, Int.reduceMul, Int.reduceLT, Int.reduceLE, Int.reduceEq, ↓GH.gp_eq, ↓GH.gp_ne, ↓GH.gs_eq, ↓GH.gs_ne, GH.push_next, GH.set_next]
  intro hx0
  exact ⟨by have := hx1.next; simp only [GH.pn, GH.sn] at this ⊢; omega, rfl⟩
theorem home70_rets {X : Caller} (hX : Xok X) (n m00 m01 m02 m10 m11 m12 m20 m21 m22 p0 p1 p2 q0 q1 q2 : Int) (hm : Sm9 m00 m01 m02 m10 m11 m12 m20 m21 m22) (hp : Sm3 100000000 p0 p1 p2) (hq : Sm3 100000000 q0 q1 q2) (g : GH) :
    Rets Tryd.prog X 70 [mgV n m00 m01 m02 m10 m11 m12 m20 m21 m22 p0 p1 p2 q0 q1 q2] g (fun v g' lo => g.next ≤ lo ∧ v = .int .i64 (gainZ m00 m01 m02 m10 m11 m12 m20 m21 m22 q0 q1 q2 q0 q1 q2)) := by
  have hga := gain_rets hX n m00 m01 m02 m10 m11 m12 m20 m21 m22 q0 q1 q2 q0 q1 q2 100000000 100000000 20 hm hq hq (by decide) (by decide)
  have hgs := gain_sm hm hq hq
  unfold mkV vcV at hga
  unfold mgV
  obtain ⟨Z, hZ⟩ : ∃ Z, gainZ m00 m01 m02 m10 m11 m12 m20 m21 m22 q0 q1 q2 q0 q1 q2 = Z := ⟨_, rfl⟩
  rw [hZ] at hga hgs ⊢
  refine Rets.run hX.pres p70 (hX.free 70 (by decide) _ _) rfl fun ho => ?_
  simp +decide (disch := first | assumption | exact cellV_int _ _ | exact cellV_bool _ | omega | (simp only [GH.pn, GH.sn] <;> omega) | (with_reducible ((repeat (first | apply GH.ok_push | apply GH.ok_set)); assumption)) | ((try simp only [GH.push_hid, GH.set_hid]); refine GH.vis ?_ ?_ <;> first | assumption | ((try simp only [GH.pn, GH.sn]) <;> omega))) only [go_sem, ↓reduceIte, Nat.reduceEqDiff, Nat.reduceAdd, Int.reduceToNat, Int.reduceAdd, Int.reduceNeg, Int.reduceSub, Int.reduceMul, Int.reduceLT, Int.reduceLE, Int.reduceEq, ↓GH.gp_eq, ↓GH.gp_ne, ↓GH.gs_eq, ↓GH.gs_ne, GH.push_next, GH.set_next]
  refine CallD.calm (hga _) ?_
  rintro v g1 hx1 rfl
  simp +decide (disch := first | assumption | exact cellV_int _ _ | exact cellV_bool _ | omega | (simp only [GH.pn, GH.sn] <;> omega) | (with_reducible ((repeat (first | apply GH.ok_push | apply GH.ok_set)); assumption)) | ((try simp only [GH.push_hid, GH.set_hid]); refine GH.vis ?_ ?_ <;> first | assumption | ((try simp only [GH.pn, GH.sn]) <;> omega))) only [go_sem, ↓reduceIte, Nat.reduceEqDiff, Nat.reduceAdd, Int.reduceToNat, Int.reduceAdd, Int.reduceNeg, Int.reduceSub, Int.reduceMul, Int.reduceLT, Int.reduceLE, Int.reduceEq, ↓GH.gp_eq, ↓GH.gp_ne, ↓GH.gs_eq, ↓GH.gs_ne, GH.push_next, GH.set_next]
  intro hx0
  exact ⟨by have := hx1.next; simp only [GH.pn, GH.sn] at this ⊢; omega, rfl⟩
theorem leadS_rets {X : Caller} (hX : Xok X) (n m00 m01 m02 m10 m11 m12 m20 m21 m22 p0 p1 p2 q0 q1 q2 : Int) (hm : Sm9 m00 m01 m02 m10 m11 m12 m20 m21 m22) (hp : Sm3 100000000 p0 p1 p2) (hq : Sm3 100000000 q0 q1 q2) (g : GH) :
    Rets Tryd.prog X 66 [mgV n m00 m01 m02 m10 m11 m12 m20 m21 m22 p0 p1 p2 q0 q1 q2, .func (.func 67) #[] #[], .func (.func 68) #[] #[]] g (fun v g' lo => g.next ≤ lo ∧ v = .int .i64 (gainZ m00 m01 m02 m10 m11 m12 m20 m21 m22 p0 p1 p2 p0 p1 p2 - gainZ m00 m01 m02 m10 m11 m12 m20 m21 m22 q0 q1 q2 p0 p1 p2)) := by
  have h1 := home67_rets hX n m00 m01 m02 m10 m11 m12 m20 m21 m22 p0 p1 p2 q0 q1 q2 hm hp hq
  have h2 := home68_rets hX n m00 m01 m02 m10 m11 m12 m20 m21 m22 p0 p1 p2 q0 q1 q2 hm hp hq
  have hgs1 := gain_sm hm hp hp
  have hgs2 := gain_sm hm hq hp
  obtain ⟨Z, hZ⟩ : ∃ Z, gainZ m00 m01 m02 m10 m11 m12 m20 m21 m22 p0 p1 p2 p0 p1 p2 = Z := ⟨_, rfl⟩
  obtain ⟨W, hW⟩ : ∃ W, gainZ m00 m01 m02 m10 m11 m12 m20 m21 m22 q0 q1 q2 p0 p1 p2 = W := ⟨_, rfl⟩
  rw [hZ] at h1 hgs1 ⊢
  rw [hW] at h2 hgs2 ⊢
  unfold mgV at h1 h2 ⊢
  have hgs1 : Sm 1800000000000000000 Z := hgs1
  have hgs2 : Sm 1800000000000000000 W := hgs2
  unfold Sm at hgs1 hgs2
  refine Rets.run hX.pres p66 (hX.free 66 (by decide) _ _) rfl fun ho => ?_
  simp +decide (disch := first | assumption | exact cellV_int _ _ | exact cellV_bool _ | omega | (simp only [GH.pn, GH.sn] <;> omega) | (with_reducible ((repeat (first | apply GH.ok_push | apply GH.ok_set)); assumption)) | ((try simp only [GH.push_hid, GH.set_hid]); refine GH.vis ?_ ?_ <;> first | assumption | ((try simp only [GH.pn, GH.sn]) <;> omega))) only [go_sem, ↓reduceIte, Nat.reduceEqDiff, Nat.reduceAdd, Int.reduceToNat, Int.reduceAdd, Int.reduceNeg, Int.reduceSub, Int.reduceMul, Int.reduceLT, Int.reduceLE, Int.reduceEq, ↓GH.gp_eq, ↓GH.gp_ne, ↓GH.gs_eq, ↓GH.gs_ne, GH.push_next, GH.set_next]
  refine CallV.calm rfl (h1 _) ?_
  rintro v g1 hx1 rfl
  have hn1 := hx1.next
  simp only [GH.pn, GH.sn] at hn1
  have hA1 : g1.get g.next = cellsOb [.int .i64 n, .int .i64 m00, .int .i64 m01, .int .i64 m02, .int .i64 m10, .int .i64 m11, .int .i64 m12, .int .i64 m20, .int .i64 m21, .int .i64 m22, .int .i64 p0, .int .i64 p1, .int .i64 p2, .int .i64 q0, .int .i64 q1, .int .i64 q2] 86 := (hx1.gets g.next (by simp only [GH.pn, GH.sn]; omega)).trans (by simp (disch := first | assumption | exact cellV_int _ _ | exact cellV_bool _ | omega | (simp only [GH.pn, GH.sn] <;> omega) | (with_reducible ((repeat (first | apply GH.ok_push | apply GH.ok_set)); assumption)) | ((try simp only [GH.push_hid, GH.set_hid]); refine GH.vis ?_ ?_ <;> first | assumption | ((try simp only [GH.pn, GH.sn]) <;> omega))) only [↓GH.gp_eq, ↓GH.gp_ne, ↓GH.gs_eq, ↓GH.gs_ne, GH.push_next, GH.set_next]; first | done | exact rfl)
  simp +decide (disch := first | assumption | exact cellV_int _ _ | exact cellV_bool _ | omega | (simp only [GH.pn, GH.sn] <;> omega) | (with_reducible ((repeat (first | apply GH.ok_push | apply GH.ok_set)); assumption)) | ((try simp only [GH.push_hid, GH.set_hid]); refine GH.vis ?_ ?_ <;> first | assumption | ((try simp only [GH.pn, GH.sn]) <;> omega))) only [go_sem, ↓reduceIte, Nat.reduceEqDiff, Nat.reduceAdd, Int.reduceToNat, Int.reduceAdd, Int.reduceNeg, Int.reduceSub, Int.reduceMul, Int.reduceLT, Int.reduceLE, Int.reduceEq, ↓GH.gp_eq, ↓GH.gp_ne, ↓GH.gs_eq, ↓GH.gs_ne, GH.push_next, GH.set_next, hA1]
  refine CallV.calm rfl (h2 _) ?_
  rintro v g2 hx2 rfl
  simp +decide (disch := first | assumption | exact cellV_int _ _ | exact cellV_bool _ | omega | (simp only [GH.pn, GH.sn] <;> omega) | (with_reducible ((repeat (first | apply GH.ok_push | apply GH.ok_set)); assumption)) | ((try simp only [GH.push_hid, GH.set_hid]); refine GH.vis ?_ ?_ <;> first | assumption | ((try simp only [GH.pn, GH.sn]) <;> omega))) only [go_sem, ↓reduceIte, Nat.reduceEqDiff, Nat.reduceAdd, Int.reduceToNat, Int.reduceAdd, Int.reduceNeg, Int.reduceSub, Int.reduceMul, Int.reduceLT, Int.reduceLE, Int.reduceEq, ↓GH.gp_eq, ↓GH.gp_ne, ↓GH.gs_eq, ↓GH.gs_ne, GH.push_next, GH.set_next]
  intro hx0
  exact ⟨by have := hx2.next; omega, rfl⟩
theorem leadE_rets {X : Caller} (hX : Xok X) (n m00 m01 m02 m10 m11 m12 m20 m21 m22 p0 p1 p2 q0 q1 q2 : Int) (hm : Sm9 m00 m01 m02 m10 m11 m12 m20 m21 m22) (hp : Sm3 100000000 p0 p1 p2) (hq : Sm3 100000000 q0 q1 q2) (g : GH) :
    Rets Tryd.prog X 66 [mgV n m00 m01 m02 m10 m11 m12 m20 m21 m22 p0 p1 p2 q0 q1 q2, .func (.func 69) #[] #[], .func (.func 70) #[] #[]] g (fun v g' lo => g.next ≤ lo ∧ v = .int .i64 (gainZ m00 m01 m02 m10 m11 m12 m20 m21 m22 p0 p1 p2 q0 q1 q2 - gainZ m00 m01 m02 m10 m11 m12 m20 m21 m22 q0 q1 q2 q0 q1 q2)) := by
  have h1 := home69_rets hX n m00 m01 m02 m10 m11 m12 m20 m21 m22 p0 p1 p2 q0 q1 q2 hm hp hq
  have h2 := home70_rets hX n m00 m01 m02 m10 m11 m12 m20 m21 m22 p0 p1 p2 q0 q1 q2 hm hp hq
  have hgs1 := gain_sm hm hp hq
  have hgs2 := gain_sm hm hq hq
  obtain ⟨Z, hZ⟩ : ∃ Z, gainZ m00 m01 m02 m10 m11 m12 m20 m21 m22 p0 p1 p2 q0 q1 q2 = Z := ⟨_, rfl⟩
  obtain ⟨W, hW⟩ : ∃ W, gainZ m00 m01 m02 m10 m11 m12 m20 m21 m22 q0 q1 q2 q0 q1 q2 = W := ⟨_, rfl⟩
  rw [hZ] at h1 hgs1 ⊢
  rw [hW] at h2 hgs2 ⊢
  unfold mgV at h1 h2 ⊢
  have hgs1 : Sm 1800000000000000000 Z := hgs1
  have hgs2 : Sm 1800000000000000000 W := hgs2
  unfold Sm at hgs1 hgs2
  refine Rets.run hX.pres p66 (hX.free 66 (by decide) _ _) rfl fun ho => ?_
  simp +decide (disch := first | assumption | exact cellV_int _ _ | exact cellV_bool _ | omega | (simp only [GH.pn, GH.sn] <;> omega) | (with_reducible ((repeat (first | apply GH.ok_push | apply GH.ok_set)); assumption)) | ((try simp only [GH.push_hid, GH.set_hid]); refine GH.vis ?_ ?_ <;> first | assumption | ((try simp only [GH.pn, GH.sn]) <;> omega))) only [go_sem, ↓reduceIte, Nat.reduceEqDiff, Nat.reduceAdd, Int.reduceToNat, Int.reduceAdd, Int.reduceNeg, Int.reduceSub, Int.reduceMul, Int.reduceLT, Int.reduceLE, Int.reduceEq, ↓GH.gp_eq, ↓GH.gp_ne, ↓GH.gs_eq, ↓GH.gs_ne, GH.push_next, GH.set_next]
  refine CallV.calm rfl (h1 _) ?_
  rintro v g1 hx1 rfl
  have hn1 := hx1.next
  simp only [GH.pn, GH.sn] at hn1
  have hA1 : g1.get g.next = cellsOb [.int .i64 n, .int .i64 m00, .int .i64 m01, .int .i64 m02, .int .i64 m10, .int .i64 m11, .int .i64 m12, .int .i64 m20, .int .i64 m21, .int .i64 m22, .int .i64 p0, .int .i64 p1, .int .i64 p2, .int .i64 q0, .int .i64 q1, .int .i64 q2] 86 := (hx1.gets g.next (by simp only [GH.pn, GH.sn]; omega)).trans (by simp (disch := first | assumption | exact cellV_int _ _ | exact cellV_bool _ | omega | (simp only [GH.pn, GH.sn] <;> omega) | (with_reducible ((repeat (first | apply GH.ok_push | apply GH.ok_set)); assumption)) | ((try simp only [GH.push_hid, GH.set_hid]); refine GH.vis ?_ ?_ <;> first | assumption | ((try simp only [GH.pn, GH.sn]) <;> omega))) only [↓GH.gp_eq, ↓GH.gp_ne, ↓GH.gs_eq, ↓GH.gs_ne, GH.push_next, GH.set_next]; first | done | exact rfl)
  simp +decide (disch := first | assumption | exact cellV_int _ _ | exact cellV_bool _ | omega | (simp only [GH.pn, GH.sn] <;> omega) | (with_reducible ((repeat (first | apply GH.ok_push | apply GH.ok_set)); assumption)) | ((try simp only [GH.push_hid, GH.set_hid]); refine GH.vis ?_ ?_ <;> first | assumption | ((try simp only [GH.pn, GH.sn]) <;> omega))) only [go_sem, ↓reduceIte, Nat.reduceEqDiff, Nat.reduceAdd, Int.reduceToNat, Int.reduceAdd, Int.reduceNeg, Int.reduceSub, Int.reduceMul, Int.reduceLT, Int.reduceLE, Int.reduceEq, ↓GH.gp_eq, ↓GH.gp_ne, ↓GH.gs_eq, ↓GH.gs_ne, GH.push_next, GH.set_next, hA1]
  refine CallV.calm rfl (h2 _) ?_
  rintro v g2 hx2 rfl
  simp +decide (disch := first | assumption | exact cellV_int _ _ | exact cellV_bool _ | omega | (simp only [GH.pn, GH.sn] <;> omega) | (with_reducible ((repeat (first | apply GH.ok_push | apply GH.ok_set)); assumption)) | ((try simp only [GH.push_hid, GH.set_hid]); refine GH.vis ?_ ?_ <;> first | assumption | ((try simp only [GH.pn, GH.sn]) <;> omega))) only [go_sem, ↓reduceIte, Nat.reduceEqDiff, Nat.reduceAdd, Int.reduceToNat, Int.reduceAdd, Int.reduceNeg, Int.reduceSub, Int.reduceMul, Int.reduceLT, Int.reduceLE, Int.reduceEq, ↓GH.gp_eq, ↓GH.gp_ne, ↓GH.gs_eq, ↓GH.gs_ne, GH.push_next, GH.set_next]
  intro hx0
  exact ⟨by have := hx2.next; omega, rfl⟩
theorem meeting_rets {X : Caller} (hX : Xok X) (n m00 m01 m02 m10 m11 m12 m20 m21 m22 x0 x1 x2 d y0 y1 y2 f : Int) (hx : Sm3 10000 x0 x1 x2) (hy : Sm3 10000 y0 y1 y2) (hd : Sm 10000 d) (hf : Sm 10000 f) (g : GH) :
    Rets Tryd.prog X 65 [mkV n m00 m01 m02 m10 m11 m12 m20 m21 m22, mxV x0 x1 x2 d, mxV y0 y1 y2 f] g (fun v g' lo => g.next ≤ lo ∧ v = mgV n m00 m01 m02 m10 m11 m12 m20 m21 m22 (x0 * f) (x1 * f) (x2 * f) (y0 * d) (y1 * d) (y2 * d)) := by
  have up : ∀ {a b : Int}, Sm 10000 a → Sm 10000 b → Sm 1000000000000 (a * b) := fun h1 h2 => (h1.mul h2).up (by decide)
  have ht1 := times_rets hX x0 x1 x2 f (up hx.1 hf) (up hx.2.1 hf) (up hx.2.2 hf)
  have ht2 := times_rets hX y0 y1 y2 d (up hy.1 hd) (up hy.2.1 hd) (up hy.2.2 hd)
  unfold vcV at ht1 ht2
  unfold mkV mxV mgV
  refine Rets.run hX.pres p65 (hX.free 65 (by decide) _ _) rfl fun ho => ?_
  simp +decide (disch := first | assumption | exact cellV_int _ _ | exact cellV_bool _ | omega | (simp only [GH.pn, GH.sn] <;> omega) | (with_reducible ((repeat (first | apply GH.ok_push | apply GH.ok_set)); assumption)) | ((try simp only [GH.push_hid, GH.set_hid]); refine GH.vis ?_ ?_ <;> first | assumption | ((try simp only [GH.pn, GH.sn]) <;> omega))) only [go_sem, ↓reduceIte, Nat.reduceEqDiff, Nat.reduceAdd, Int.reduceToNat, Int.reduceAdd, Int.reduceNeg, Int.reduceSub, Int.reduceMul, Int.reduceLT, Int.reduceLE, Int.reduceEq, ↓GH.gp_eq, ↓GH.gp_ne, ↓GH.gs_eq, ↓GH.gs_ne, GH.push_next, GH.set_next]
  refine CallD.name fun H hH => ?_
  have hnH : H.next = g.next + 1 + 1 + 1 + 1 := by rw [hH]; rfl
  have hA : H.get (g.next + 1) = cellsOb [.int .i64 x0, .int .i64 x1, .int .i64 x2, .int .i64 d] 69 := by rw [hH]; exact (by simp (disch := first | assumption | exact cellV_int _ _ | exact cellV_bool _ | omega | (simp only [GH.pn, GH.sn] <;> omega) | (with_reducible ((repeat (first | apply GH.ok_push | apply GH.ok_set)); assumption)) | ((try simp only [GH.push_hid, GH.set_hid]); refine GH.vis ?_ ?_ <;> first | assumption | ((try simp only [GH.pn, GH.sn]) <;> omega))) only [↓GH.gp_eq, ↓GH.gp_ne, ↓GH.gs_eq, ↓GH.gs_ne, GH.push_next, GH.set_next]; first | done | exact rfl)
  have hB : H.get (g.next + 1 + 1) = cellsOb [.int .i64 y0, .int .i64 y1, .int .i64 y2, .int .i64 f] 69 := by rw [hH]; exact (by simp (disch := first | assumption | exact cellV_int _ _ | exact cellV_bool _ | omega | (simp only [GH.pn, GH.sn] <;> omega) | (with_reducible ((repeat (first | apply GH.ok_push | apply GH.ok_set)); assumption)) | ((try simp only [GH.push_hid, GH.set_hid]); refine GH.vis ?_ ?_ <;> first | assumption | ((try simp only [GH.pn, GH.sn]) <;> omega))) only [↓GH.gp_eq, ↓GH.gp_ne, ↓GH.gs_eq, ↓GH.gs_ne, GH.push_next, GH.set_next]; first | done | exact rfl)
  have hC : H.get (g.next + 1 + 1 + 1) = cellsOb [.int .i64 0, .int .i64 0, .int .i64 0, .int .i64 0, .int .i64 0, .int .i64 0, .int .i64 0, .int .i64 0, .int .i64 0, .int .i64 0, .int .i64 0, .int .i64 0, .int .i64 0, .int .i64 0, .int .i64 0, .int .i64 0] 86 := by rw [hH]; exact (by simp (disch := first | assumption | exact cellV_int _ _ | exact cellV_bool _ | omega | (simp only [GH.pn, GH.sn] <;> omega) | (with_reducible ((repeat (first | apply GH.ok_push | apply GH.ok_set)); assumption)) | ((try simp only [GH.push_hid, GH.set_hid]); refine GH.vis ?_ ?_ <;> first | assumption | ((try simp only [GH.pn, GH.sn]) <;> omega))) only [↓GH.gp_eq, ↓GH.gp_ne, ↓GH.gs_eq, ↓GH.gs_ne, GH.push_next, GH.set_next]; first | done | exact rfl)
  have hokH : H.ok := by rw [hH]; exact GH.ok_push (GH.ok_push (GH.ok_push (GH.ok_push ho)))
  refine CallD.calmH (by simp [spansOf, spanAt, blt_d, beqd]) rfl (ht1 _) ?_
  rintro v g1 hx1 rfl
  have hn1 := hx1.next
  have hok1 := hx1.ok hokH
  have hA1 := (hx1.gets (g.next + 1) (by omega)).trans hA
  have hB1 := (hx1.gets (g.next + 1 + 1) (by omega)).trans hB
  have hC1 := (hx1.gets (g.next + 1 + 1 + 1) (by omega)).trans hC
  simp +decide (disch := first | assumption | exact cellV_int _ _ | exact cellV_bool _ | omega | (simp only [GH.pn, GH.sn] <;> omega) | (with_reducible ((repeat (first | apply GH.ok_push | apply GH.ok_set)); assumption)) | ((try simp only [GH.push_hid, GH.set_hid]); refine GH.vis ?_ ?_ <;> first | assumption | ((try simp only [GH.pn, GH.sn]) <;> omega))) only [go_sem, ↓reduceIte, Nat.reduceEqDiff, Nat.reduceAdd, Int.reduceToNat, Int.reduceAdd, Int.reduceNeg, Int.reduceSub, Int.reduceMul, Int.reduceLT, Int.reduceLE, Int.reduceEq, ↓GH.gp_eq, ↓GH.gp_ne, ↓GH.gs_eq, ↓GH.gs_ne, GH.push_next, GH.set_next, hA1, hB1]
  refine CallD.calmH (by simp [spansOf, spanAt, blt_d, beqd]) rfl (ht2 _) ?_
  rintro v g2 hx2 rfl
  have hn2 := hx2.next
  have hok2 := hx2.ok hok1
  have hC2 := (hx2.gets (g.next + 1 + 1 + 1) (by omega)).trans hC1
  have hvC2 := GH.seen hC2 Nat.one_ne_zero
  simp +decide (disch := first | assumption | exact cellV_int _ _ | exact cellV_bool _ | omega | (simp only [GH.pn, GH.sn] <;> omega) | (with_reducible ((repeat (first | apply GH.ok_push | apply GH.ok_set)); assumption)) | ((try simp only [GH.push_hid, GH.set_hid]); refine GH.vis ?_ ?_ <;> first | assumption | ((try simp only [GH.pn, GH.sn]) <;> omega))) only [go_sem, ↓reduceIte, Nat.reduceEqDiff, Nat.reduceAdd, Int.reduceToNat, Int.reduceAdd, Int.reduceNeg, Int.reduceSub, Int.reduceMul, Int.reduceLT, Int.reduceLE, Int.reduceEq, ↓GH.gp_eq, ↓GH.gp_ne, ↓GH.gs_eq, ↓GH.gs_ne, GH.push_next, GH.set_next, bldG, spl16, hC2]
  intro hx0
  exact ⟨by omega, rfl⟩
end Go.Proofs.YtngmaccaldhjcaaDoor
set_option maxRecDepth 100000
set_option maxHeartbeats 4000000
set_option linter.unusedSimpArgs false
set_option linter.unusedVariables false
namespace Go.Proofs.YtngmaccaldhjcaaDoor
open Go.Ds
def sgS (T : List (List Int)) (L : List Int) (d : Int) (M : List Int) (f : Int) : Int := gT T (ne L 0 * f) (ne L 1 * f) (ne L 2 * f) (ne L 0 * f) (ne L 1 * f) (ne L 2 * f) - gT T (ne M 0 * d) (ne M 1 * d) (ne M 2 * d) (ne L 0 * f) (ne L 1 * f) (ne L 2 * f)
def sgE (T : List (List Int)) (L : List Int) (d : Int) (M : List Int) (f : Int) : Int := gT T (ne L 0 * f) (ne L 1 * f) (ne L 2 * f) (ne M 0 * d) (ne M 1 * d) (ne M 2 * d) - gT T (ne M 0 * d) (ne M 1 * d) (ne M 2 * d) (ne M 0 * d) (ne M 1 * d) (ne M 2 * d)
/-- What Limit returns. -/
def limR (T : List (List Int)) (L : List Int) (d : Int) (M : List Int) (f : Int) : Value :=
  if err2 T L d M f = 2 then .tuple #[raV 0 0, .int .i64 2]
  else if L = M ∧ d = f then .tuple #[raV 0 0, .int .i64 10]
  else if sgS T L d M f < 0 ∨ (sgS T L d M f = 0 ∧ sgE T L d M f ≤ 0) then .tuple #[raV 0 0, .int .i64 9]
  else if 0 ≤ sgE T L d M f then .tuple #[raV 1 1, .int .i64 0]
  else .tuple #[raV (lowN (sgS T L d M f) (sgS T L d M f - sgE T L d M f)) (lowD (sgS T L d M f) (sgS T L d M f - sgE T L d M f)), .int .i64 0]
theorem same3 {L M : List Int} {n : Nat} {d f : Int} (h1 : L.length = n) (h2 : M.length = n) (h3 : n ≤ 3) : (L.getD 0 0 = M.getD 0 0 ∧ L.getD 1 0 = M.getD 1 0 ∧ L.getD 2 0 = M.getD 2 0 ∧ d = f) ↔ (L = M ∧ d = f) := by
  constructor
  · rintro ⟨a, b, c, e⟩
    refine ⟨List.ext_getElem (by omega) fun i hi hj => ?_, e⟩
    have q1 : L.getD i 0 = L[i] := by rw [List.getD_eq_getElem?_getD, List.getElem?_eq_getElem hi]; rfl
    have q2 : M.getD i 0 = M[i] := by rw [List.getD_eq_getElem?_getD, List.getElem?_eq_getElem hj]; rfl
    rw [← q1, ← q2]
    have : i = 0 ∨ i = 1 ∨ i = 2 := by omega
    rcases this with rfl | rfl | rfl <;> assumption
  · rintro ⟨rfl, rfl⟩
    exact ⟨rfl, rfl, rfl, rfl⟩
theorem sg_sm {T : List (List Int)} {L M : List Int} {d f : Int} (hT : tabB T = true) (hp : Sm3 100000000 (ne L 0 * f) (ne L 1 * f) (ne L 2 * f)) (hq : Sm3 100000000 (ne M 0 * d) (ne M 1 * d) (ne M 2 * d)) : Sm 3600000000000000000 (sgS T L d M f) ∧ Sm 3600000000000000000 (sgE T L d M f) := by
  have h1 : Sm 1800000000000000000 (gT T (ne L 0 * f) (ne L 1 * f) (ne L 2 * f) (ne L 0 * f) (ne L 1 * f) (ne L 2 * f)) := gain_sm (tab_sm9 hT) hp hp
  have h2 : Sm 1800000000000000000 (gT T (ne M 0 * d) (ne M 1 * d) (ne M 2 * d) (ne L 0 * f) (ne L 1 * f) (ne L 2 * f)) := gain_sm (tab_sm9 hT) hq hp
  have h3 : Sm 1800000000000000000 (gT T (ne L 0 * f) (ne L 1 * f) (ne L 2 * f) (ne M 0 * d) (ne M 1 * d) (ne M 2 * d)) := gain_sm (tab_sm9 hT) hp hq
  have h4 : Sm 1800000000000000000 (gT T (ne M 0 * d) (ne M 1 * d) (ne M 2 * d) (ne M 0 * d) (ne M 1 * d) (ne M 2 * d)) := gain_sm (tab_sm9 hT) hq hq
  unfold sgS sgE
  unfold Sm at *
  omega
theorem Limit_rets {X : Caller} (hX : Xok X) (T : List (List Int)) (hF : Few T) (L : List Int) (d : Int) (M : List Int) (f : Int) (t s r : Value) (g : GH) (ht : Sl2 g t T) (hs : SlR g s (ints L)) (hr : SlR g r (ints M)) :
    Rets Tryd.prog X 34 [t, paV s d, paV r f] g (fun v g' lo => g.next ≤ lo ∧ v = limR T L d M f) := by
  have hc := hs.cell
  have hcr := hr.cell
  unfold paV
  refine Rets.run hX.pres p34 (hX.free 34 (by decide) _ _) rfl fun ho => ?_
  have hk : Kept g ((((g.push (cellsOb [s, .int .i64 d] 25)).push (cellsOb [r, .int .i64 f] 25)).push (cellsOb [.int .i64 0, .int .i64 0] 32)).push (cellsOb [s, .int .i64 d, r, .int .i64 f] 25)) := (by (repeat' first | exact Kept.refl _ | assumption | refine Kept.push ?_ ?_ _ | refine Kept.setV ?_ ?_ ?_ _) <;> (first | assumption | exact cellV_int _ _ | exact cellV_bool _ | omega | (simp only [GH.pn, GH.sn] <;> omega) | (with_reducible ((repeat (first | apply GH.ok_push | apply GH.ok_set)); assumption)) | ((try simp only [GH.push_hid, GH.set_hid]); first | assumption | (refine GH.vis ?_ ?_ <;> first | assumption | ((try simp only [GH.pn, GH.sn]) <;> omega)))))
  have hg : ((((g.push (cellsOb [s, .int .i64 d] 25)).push (cellsOb [r, .int .i64 f] 25)).push (cellsOb [.int .i64 0, .int .i64 0] 32)).push (cellsOb [s, .int .i64 d, r, .int .i64 f] 25)).get (g.next + 1 + 1 + 1) = cellsOb [s, .int .i64 d, r, .int .i64 f] 25 := (by simp (disch := first | assumption | exact cellV_int _ _ | exact cellV_bool _ | omega | (simp only [GH.pn, GH.sn] <;> omega) | (with_reducible ((repeat (first | apply GH.ok_push | apply GH.ok_set)); assumption)) | ((try simp only [GH.push_hid, GH.set_hid]); first | assumption | (refine GH.vis ?_ ?_ <;> first | assumption | ((try simp only [GH.pn, GH.sn]) <;> omega)))) only [↓GH.gp_eq, ↓GH.gp_ne, ↓GH.gs_eq, ↓GH.gs_ne, GH.push_next, GH.set_next]; first | done | exact rfl)
  have hA : ((((g.push (cellsOb [s, .int .i64 d] 25)).push (cellsOb [r, .int .i64 f] 25)).push (cellsOb [.int .i64 0, .int .i64 0] 32)).push (cellsOb [s, .int .i64 d, r, .int .i64 f] 25)).get g.next = cellsOb [s, .int .i64 d] 25 := (by simp (disch := first | assumption | exact cellV_int _ _ | exact cellV_bool _ | omega | (simp only [GH.pn, GH.sn] <;> omega) | (with_reducible ((repeat (first | apply GH.ok_push | apply GH.ok_set)); assumption)) | ((try simp only [GH.push_hid, GH.set_hid]); first | assumption | (refine GH.vis ?_ ?_ <;> first | assumption | ((try simp only [GH.pn, GH.sn]) <;> omega)))) only [↓GH.gp_eq, ↓GH.gp_ne, ↓GH.gs_eq, ↓GH.gs_ne, GH.push_next, GH.set_next]; first | done | exact rfl)
  have hB : ((((g.push (cellsOb [s, .int .i64 d] 25)).push (cellsOb [r, .int .i64 f] 25)).push (cellsOb [.int .i64 0, .int .i64 0] 32)).push (cellsOb [s, .int .i64 d, r, .int .i64 f] 25)).get (g.next + 1) = cellsOb [r, .int .i64 f] 25 := (by simp (disch := first | assumption | exact cellV_int _ _ | exact cellV_bool _ | omega | (simp only [GH.pn, GH.sn] <;> omega) | (with_reducible ((repeat (first | apply GH.ok_push | apply GH.ok_set)); assumption)) | ((try simp only [GH.push_hid, GH.set_hid]); first | assumption | (refine GH.vis ?_ ?_ <;> first | assumption | ((try simp only [GH.pn, GH.sn]) <;> omega)))) only [↓GH.gp_eq, ↓GH.gp_ne, ↓GH.gs_eq, ↓GH.gs_ne, GH.push_next, GH.set_next]; first | done | exact rfl)
  have hC : ((((g.push (cellsOb [s, .int .i64 d] 25)).push (cellsOb [r, .int .i64 f] 25)).push (cellsOb [.int .i64 0, .int .i64 0] 32)).push (cellsOb [s, .int .i64 d, r, .int .i64 f] 25)).get (g.next + 1 + 1) = cellsOb [.int .i64 0, .int .i64 0] 32 := (by simp (disch := first | assumption | exact cellV_int _ _ | exact cellV_bool _ | omega | (simp only [GH.pn, GH.sn] <;> omega) | (with_reducible ((repeat (first | apply GH.ok_push | apply GH.ok_set)); assumption)) | ((try simp only [GH.push_hid, GH.set_hid]); first | assumption | (refine GH.vis ?_ ?_ <;> first | assumption | ((try simp only [GH.pn, GH.sn]) <;> omega)))) only [↓GH.gp_eq, ↓GH.gp_ne, ↓GH.gs_eq, ↓GH.gs_ne, GH.push_next, GH.set_next]; first | done | exact rfl)
  have hokH : ((((g.push (cellsOb [s, .int .i64 d] 25)).push (cellsOb [r, .int .i64 f] 25)).push (cellsOb [.int .i64 0, .int .i64 0] 32)).push (cellsOb [s, .int .i64 d, r, .int .i64 f] 25)).ok := GH.ok_push (GH.ok_push (GH.ok_push (GH.ok_push ho)))
  simp +decide (disch := first | assumption | exact cellV_int _ _ | exact cellV_bool _ | omega | (simp only [GH.pn, GH.sn] <;> omega) | (with_reducible ((repeat (first | apply GH.ok_push | apply GH.ok_set)); assumption)) | ((try simp only [GH.push_hid, GH.set_hid]); first | assumption | (refine GH.vis ?_ ?_ <;> first | assumption | ((try simp only [GH.pn, GH.sn]) <;> omega)))) only [go_sem, ↓reduceIte, Nat.reduceEqDiff, Nat.reduceAdd, Int.reduceToNat, Int.reduceAdd, Int.reduceNeg, Int.reduceSub, Int.reduceMul, Int.reduceLT, Int.reduceLE, Int.reduceEq, ↓GH.gp_eq, ↓GH.gp_ne, ↓GH.gs_eq, ↓GH.gs_ne, GH.push_next, GH.set_next, hc, hcr]
  obtain ⟨H, hH⟩ : ∃ H, ((((g.push (cellsOb [s, .int .i64 d] 25)).push (cellsOb [r, .int .i64 f] 25)).push (cellsOb [.int .i64 0, .int .i64 0] 32)).push (cellsOb [s, .int .i64 d, r, .int .i64 f] 25)) = H := ⟨_, rfl⟩
  have hnH : H.next = g.next + 1 + 1 + 1 + 1 := by rw [← hH]; rfl
  rw [hH] at hk hg hA hB hC hokH
  have hck := check2_rets hX T hF L d M f t s r (g.next + 1 + 1 + 1) 25 H (ht.kept hk) (hs.kept hk) (hr.kept hk) (by omega) hg
  rw [← hH] at hck
  refine CallD.calm hck ?_
  rw [hH]
  rintro v g1 hx1 rfl
  have hn1 := hx1.next
  have hok1 := hx1.ok hokH
  have hA1 := (hx1.gets g.next (by omega)).trans hA
  have hB1 := (hx1.gets (g.next + 1) (by omega)).trans hB
  have hC1 := (hx1.gets (g.next + 1 + 1) (by omega)).trans hC
  have hvC := GH.seen hC1 Nat.one_ne_zero
  have hk1 := hk.ext hx1
  unfold limR
  rcases err2_cases T L d M f with hE | ⟨hE, hT, hm1, hm2⟩
  · rw [hE]
    simp +decide (disch := first | assumption | exact cellV_int _ _ | exact cellV_bool _ | omega | (simp only [GH.pn, GH.sn] <;> omega) | (with_reducible ((repeat (first | apply GH.ok_push | apply GH.ok_set)); assumption)) | ((try simp only [GH.push_hid, GH.set_hid]); first | assumption | (refine GH.vis ?_ ?_ <;> first | assumption | ((try simp only [GH.pn, GH.sn]) <;> omega)))) only [go_sem, ↓reduceIte, Nat.reduceEqDiff, Nat.reduceAdd, Int.reduceToNat, Int.reduceAdd, Int.reduceNeg, Int.reduceSub, Int.reduceMul, Int.reduceLT, Int.reduceLE, Int.reduceEq, ↓GH.gp_eq, ↓GH.gp_ne, ↓GH.gs_eq, ↓GH.gs_ne, GH.push_next, GH.set_next, hC1]
    intro hx0
    exact ⟨by omega, rfl⟩
  · rw [hE, if_neg (show ¬ (0 : Int) = 2 by decide)]
    obtain ⟨a1, a2, a3, a4, a5, a6, a7, a8⟩ := mix_facts hm1
    obtain ⟨b1, b2, b3, b4, b5, b6, b7, b8⟩ := mix_facts hm2
    have hmo := mixtureOf_rets hX L (by omega) (by omega) d s
    have hmo2 := mixtureOf_rets hX M (by omega) (by omega) f r
    unfold paV mxV at hmo hmo2
    simp +decide (disch := first | assumption | exact cellV_int _ _ | exact cellV_bool _ | omega | (simp only [GH.pn, GH.sn] <;> omega) | (with_reducible ((repeat (first | apply GH.ok_push | apply GH.ok_set)); assumption)) | ((try simp only [GH.push_hid, GH.set_hid]); first | assumption | (refine GH.vis ?_ ?_ <;> first | assumption | ((try simp only [GH.pn, GH.sn]) <;> omega)))) only [go_sem, ↓reduceIte, Nat.reduceEqDiff, Nat.reduceAdd, Int.reduceToNat, Int.reduceAdd, Int.reduceNeg, Int.reduceSub, Int.reduceMul, Int.reduceLT, Int.reduceLE, Int.reduceEq, ↓GH.gp_eq, ↓GH.gp_ne, ↓GH.gs_eq, ↓GH.gs_ne, GH.push_next, GH.set_next, hA1, hB1]
    refine CallD.calm (hmo g1 (hs.kept hk1)) ?_
    rintro v g2 hx2 rfl
    have hn2 := hx2.next
    have hok2 := hx2.ok hok1
    have hB2 := (hx2.gets (g.next + 1) (by omega)).trans hB1
    have hC2 := (hx2.gets (g.next + 1 + 1) (by omega)).trans hC1
    have hk2 := hk1.ext hx2
    simp +decide (disch := first | assumption | exact cellV_int _ _ | exact cellV_bool _ | omega | (simp only [GH.pn, GH.sn] <;> omega) | (with_reducible ((repeat (first | apply GH.ok_push | apply GH.ok_set)); assumption)) | ((try simp only [GH.push_hid, GH.set_hid]); first | assumption | (refine GH.vis ?_ ?_ <;> first | assumption | ((try simp only [GH.pn, GH.sn]) <;> omega)))) only [go_sem, ↓reduceIte, Nat.reduceEqDiff, Nat.reduceAdd, Int.reduceToNat, Int.reduceAdd, Int.reduceNeg, Int.reduceSub, Int.reduceMul, Int.reduceLT, Int.reduceLE, Int.reduceEq, ↓GH.gp_eq, ↓GH.gp_ne, ↓GH.gs_eq, ↓GH.gs_ne, GH.push_next, GH.set_next, hB2]
    refine CallD.calm (hmo2 g2 (hr.kept hk2)) ?_
    rintro v g3 hx3 rfl
    have hn3 := hx3.next
    have hok3 := hx3.ok hok2
    have hC3 := (hx3.gets (g.next + 1 + 1) (by omega)).trans hC2
    have hvC3 := GH.seen hC3 Nat.one_ne_zero
    have hk3 := hk2.ext hx3
    have e4 := eqA4 (L.getD 0 0) (L.getD 1 0) (L.getD 2 0) d (M.getD 0 0) (M.getD 1 0) (M.getD 2 0) f
    by_cases hsm : L = M ∧ d = f
    · rw [decide_eq_true ((same3 a3 b3 a2).2 hsm)] at e4
      rw [if_pos hsm]
      simp +decide (disch := first | assumption | exact cellV_int _ _ | exact cellV_bool _ | omega | (simp only [GH.pn, GH.sn] <;> omega) | (with_reducible ((repeat (first | apply GH.ok_push | apply GH.ok_set)); assumption)) | ((try simp only [GH.push_hid, GH.set_hid]); first | assumption | (refine GH.vis ?_ ?_ <;> first | assumption | ((try simp only [GH.pn, GH.sn]) <;> omega)))) only [go_sem, ↓reduceIte, Nat.reduceEqDiff, Nat.reduceAdd, Int.reduceToNat, Int.reduceAdd, Int.reduceNeg, Int.reduceSub, Int.reduceMul, Int.reduceLT, Int.reduceLE, Int.reduceEq, ↓GH.gp_eq, ↓GH.gp_ne, ↓GH.gs_eq, ↓GH.gs_ne, GH.push_next, GH.set_next, e4, hC3]
      intro hx0
      exact ⟨by omega, rfl⟩
    · rw [decide_eq_false (fun h => hsm ((same3 a3 b3 a2).1 h))] at e4
      rw [if_neg hsm]
      simp +decide (disch := first | assumption | exact cellV_int _ _ | exact cellV_bool _ | omega | (simp only [GH.pn, GH.sn] <;> omega) | (with_reducible ((repeat (first | apply GH.ok_push | apply GH.ok_set)); assumption)) | ((try simp only [GH.push_hid, GH.set_hid]); first | assumption | (refine GH.vis ?_ ?_ <;> first | assumption | ((try simp only [GH.pn, GH.sn]) <;> omega)))) only [go_sem, ↓reduceIte, Nat.reduceEqDiff, Nat.reduceAdd, Int.reduceToNat, Int.reduceAdd, Int.reduceNeg, Int.reduceSub, Int.reduceMul, Int.reduceLT, Int.reduceLE, Int.reduceEq, ↓GH.gp_eq, ↓GH.gp_ne, ↓GH.gs_eq, ↓GH.gs_ne, GH.push_next, GH.set_next, e4]
      have hma := market_rets hX T hT t
      unfold mkT mkV at hma
      refine CallD.name fun G hG => ?_
      have hnG : G.next = g3.next + 1 + 1 := by rw [hG]; rfl
      have hokG : G.ok := by rw [hG]; exact GH.ok_set (GH.ok_set (GH.ok_push (GH.ok_push hok3)))
      have hP : G.get g3.next = cellsOb [.int .i64 (L.getD 0 0), .int .i64 (L.getD 1 0), .int .i64 (L.getD 2 0), .int .i64 d] 69 := by rw [hG]; exact (by simp (disch := first | assumption | exact cellV_int _ _ | exact cellV_bool _ | omega | (simp only [GH.pn, GH.sn] <;> omega) | (with_reducible ((repeat (first | apply GH.ok_push | apply GH.ok_set)); assumption)) | ((try simp only [GH.push_hid, GH.set_hid]); first | assumption | (refine GH.vis ?_ ?_ <;> first | assumption | ((try simp only [GH.pn, GH.sn]) <;> omega)))) only [↓GH.gp_eq, ↓GH.gp_ne, ↓GH.gs_eq, ↓GH.gs_ne, GH.push_next, GH.set_next]; first | done | exact rfl)
      have hQ : G.get (g3.next + 1) = cellsOb [.int .i64 (M.getD 0 0), .int .i64 (M.getD 1 0), .int .i64 (M.getD 2 0), .int .i64 f] 69 := by rw [hG]; exact (by simp (disch := first | assumption | exact cellV_int _ _ | exact cellV_bool _ | omega | (simp only [GH.pn, GH.sn] <;> omega) | (with_reducible ((repeat (first | apply GH.ok_push | apply GH.ok_set)); assumption)) | ((try simp only [GH.push_hid, GH.set_hid]); first | assumption | (refine GH.vis ?_ ?_ <;> first | assumption | ((try simp only [GH.pn, GH.sn]) <;> omega)))) only [↓GH.gp_eq, ↓GH.gp_ne, ↓GH.gs_eq, ↓GH.gs_ne, GH.push_next, GH.set_next]; first | done | exact rfl)
      have hkG : Kept g3 G := by rw [hG]; exact (by (repeat' first | exact Kept.refl _ | assumption | refine Kept.push ?_ ?_ _ | refine Kept.setV ?_ ?_ ?_ _) <;> (first | assumption | exact cellV_int _ _ | exact cellV_bool _ | omega | (simp only [GH.pn, GH.sn] <;> omega) | (with_reducible ((repeat (first | apply GH.ok_push | apply GH.ok_set)); assumption)) | ((try simp only [GH.push_hid, GH.set_hid]); first | assumption | (refine GH.vis ?_ ?_ <;> first | assumption | ((try simp only [GH.pn, GH.sn]) <;> omega)))))
      have hCG := (hkG.gets (g.next + 1 + 1) (by omega)).trans hC3
      refine CallD.calm (hma G (ht.kept (hk3.trans hkG))) ?_
      rintro v g5 hx5 rfl
      have hn5 := hx5.next
      have hok5 := hx5.ok hokG
      have hP5 := (hx5.gets g3.next (by omega)).trans hP
      have hQ5 := (hx5.gets (g3.next + 1) (by omega)).trans hQ
      have hC5 := (hx5.gets (g.next + 1 + 1) (by omega)).trans hCG
      have hsx : Sm3 10000 (L.getD 0 0) (L.getD 1 0) (L.getD 2 0) := ⟨mix_sm hm1 0, mix_sm hm1 1, mix_sm hm1 2⟩
      have hsy : Sm3 10000 (M.getD 0 0) (M.getD 1 0) (M.getD 2 0) := ⟨mix_sm hm2 0, mix_sm hm2 1, mix_sm hm2 2⟩
      have sd : Sm 10000 d := ⟨by omega, by omega⟩
      have sf : Sm 10000 f := ⟨by omega, by omega⟩
      have hme := meeting_rets hX T.length (te T 0 0) (te T 0 1) (te T 0 2) (te T 1 0) (te T 1 1) (te T 1 2) (te T 2 0) (te T 2 1) (te T 2 2) (L.getD 0 0) (L.getD 1 0) (L.getD 2 0) d (M.getD 0 0) (M.getD 1 0) (M.getD 2 0) f hsx hsy sd sf
      unfold mkV mxV mgV at hme
      simp +decide (disch := first | assumption | exact cellV_int _ _ | exact cellV_bool _ | omega | (simp only [GH.pn, GH.sn] <;> omega) | (with_reducible ((repeat (first | apply GH.ok_push | apply GH.ok_set)); assumption)) | ((try simp only [GH.push_hid, GH.set_hid]); first | assumption | (refine GH.vis ?_ ?_ <;> first | assumption | ((try simp only [GH.pn, GH.sn]) <;> omega)))) only [go_sem, ↓reduceIte, Nat.reduceEqDiff, Nat.reduceAdd, Int.reduceToNat, Int.reduceAdd, Int.reduceNeg, Int.reduceSub, Int.reduceMul, Int.reduceLT, Int.reduceLE, Int.reduceEq, ↓GH.gp_eq, ↓GH.gp_ne, ↓GH.gs_eq, ↓GH.gs_ne, GH.push_next, GH.set_next, hP5, hQ5]
      refine CallD.calm (hme _) ?_
      rintro v g6 hx6 rfl
      have hn6 := hx6.next
      have hok6 := hx6.ok hok5
      have hC6 := (hx6.gets (g.next + 1 + 1) (by omega)).trans hC5
      simp +decide (disch := first | assumption | exact cellV_int _ _ | exact cellV_bool _ | omega | (simp only [GH.pn, GH.sn] <;> omega) | (with_reducible ((repeat (first | apply GH.ok_push | apply GH.ok_set)); assumption)) | ((try simp only [GH.push_hid, GH.set_hid]); first | assumption | (refine GH.vis ?_ ?_ <;> first | assumption | ((try simp only [GH.pn, GH.sn]) <;> omega)))) only [go_sem, ↓reduceIte, Nat.reduceEqDiff, Nat.reduceAdd, Int.reduceToNat, Int.reduceAdd, Int.reduceNeg, Int.reduceSub, Int.reduceMul, Int.reduceLT, Int.reduceLE, Int.reduceEq, ↓GH.gp_eq, ↓GH.gp_ne, ↓GH.gs_eq, ↓GH.gs_ne, GH.push_next, GH.set_next, spl16]
      refine CallD.name fun F hF => ?_
      have hnF : F.next = g6.next + 1 := by rw [hF]; rfl
      have hokF : F.ok := by rw [hF]; exact GH.ok_set (GH.ok_push hok6)
      have hN : F.get g6.next = cellsOb [.int .i64 T.length , .int .i64 (te T 0 0) , .int .i64 (te T 0 1) , .int .i64 (te T 0 2) , .int .i64 (te T 1 0) , .int .i64 (te T 1 1) , .int .i64 (te T 1 2) , .int .i64 (te T 2 0) , .int .i64 (te T 2 1) , .int .i64 (te T 2 2), .int .i64 (L.getD 0 0 * f), .int .i64 (L.getD 1 0 * f), .int .i64 (L.getD 2 0 * f), .int .i64 (M.getD 0 0 * d), .int .i64 (M.getD 1 0 * d), .int .i64 (M.getD 2 0 * d)] 86 := by rw [hF]; exact (by simp (disch := first | assumption | exact cellV_int _ _ | exact cellV_bool _ | omega | (simp only [GH.pn, GH.sn] <;> omega) | (with_reducible ((repeat (first | apply GH.ok_push | apply GH.ok_set)); assumption)) | ((try simp only [GH.push_hid, GH.set_hid]); first | assumption | (refine GH.vis ?_ ?_ <;> first | assumption | ((try simp only [GH.pn, GH.sn]) <;> omega)))) only [↓GH.gp_eq, ↓GH.gp_ne, ↓GH.gs_eq, ↓GH.gs_ne, GH.push_next, GH.set_next]; first | done | exact rfl)
      have hkF : Kept g6 F := by rw [hF]; exact (by (repeat' first | exact Kept.refl _ | assumption | refine Kept.push ?_ ?_ _ | refine Kept.setV ?_ ?_ ?_ _) <;> (first | assumption | exact cellV_int _ _ | exact cellV_bool _ | omega | (simp only [GH.pn, GH.sn] <;> omega) | (with_reducible ((repeat (first | apply GH.ok_push | apply GH.ok_set)); assumption)) | ((try simp only [GH.push_hid, GH.set_hid]); first | assumption | (refine GH.vis ?_ ?_ <;> first | assumption | ((try simp only [GH.pn, GH.sn]) <;> omega)))))
      have hCF := (hkF.gets (g.next + 1 + 1) (by omega)).trans hC6
      have up : ∀ {a b : Int}, Sm 10000 a → Sm 10000 b → Sm 100000000 (a * b) := fun h1 h2 => (h1.mul h2).up (by decide)
      have hp : Sm3 100000000 (L.getD 0 0 * f) (L.getD 1 0 * f) (L.getD 2 0 * f) := ⟨up hsx.1 sf, up hsx.2.1 sf, up hsx.2.2 sf⟩
      have hq : Sm3 100000000 (M.getD 0 0 * d) (M.getD 1 0 * d) (M.getD 2 0 * d) := ⟨up hsy.1 sd, up hsy.2.1 sd, up hsy.2.2 sd⟩
      have hlS := leadS_rets hX T.length (te T 0 0) (te T 0 1) (te T 0 2) (te T 1 0) (te T 1 1) (te T 1 2) (te T 2 0) (te T 2 1) (te T 2 2) (L.getD 0 0 * f) (L.getD 1 0 * f) (L.getD 2 0 * f) (M.getD 0 0 * d) (M.getD 1 0 * d) (M.getD 2 0 * d) (tab_sm9 hT) hp hq
      have hlE := leadE_rets hX T.length (te T 0 0) (te T 0 1) (te T 0 2) (te T 1 0) (te T 1 1) (te T 1 2) (te T 2 0) (te T 2 1) (te T 2 2) (L.getD 0 0 * f) (L.getD 1 0 * f) (L.getD 2 0 * f) (M.getD 0 0 * d) (M.getD 1 0 * d) (M.getD 2 0 * d) (tab_sm9 hT) hp hq
      obtain ⟨smS, smE⟩ := sg_sm hT hp hq
      have eS : gainZ (te T 0 0) (te T 0 1) (te T 0 2) (te T 1 0) (te T 1 1) (te T 1 2) (te T 2 0) (te T 2 1) (te T 2 2) (L.getD 0 0 * f) (L.getD 1 0 * f) (L.getD 2 0 * f) (L.getD 0 0 * f) (L.getD 1 0 * f) (L.getD 2 0 * f) - gainZ (te T 0 0) (te T 0 1) (te T 0 2) (te T 1 0) (te T 1 1) (te T 1 2) (te T 2 0) (te T 2 1) (te T 2 2) (M.getD 0 0 * d) (M.getD 1 0 * d) (M.getD 2 0 * d) (L.getD 0 0 * f) (L.getD 1 0 * f) (L.getD 2 0 * f) = sgS T L d M f := rfl
      have eE : gainZ (te T 0 0) (te T 0 1) (te T 0 2) (te T 1 0) (te T 1 1) (te T 1 2) (te T 2 0) (te T 2 1) (te T 2 2) (L.getD 0 0 * f) (L.getD 1 0 * f) (L.getD 2 0 * f) (M.getD 0 0 * d) (M.getD 1 0 * d) (M.getD 2 0 * d) - gainZ (te T 0 0) (te T 0 1) (te T 0 2) (te T 1 0) (te T 1 1) (te T 1 2) (te T 2 0) (te T 2 1) (te T 2 2) (M.getD 0 0 * d) (M.getD 1 0 * d) (M.getD 2 0 * d) (M.getD 0 0 * d) (M.getD 1 0 * d) (M.getD 2 0 * d) = sgE T L d M f := rfl
      rw [eS] at hlS
      rw [eE] at hlE
      obtain ⟨S, hS⟩ : ∃ S, sgS T L d M f = S := ⟨_, rfl⟩
      obtain ⟨E, hEE⟩ : ∃ E, sgE T L d M f = E := ⟨_, rfl⟩
      rw [hS] at hlS smS ⊢
      rw [hEE] at hlE smE ⊢
      unfold mgV at hlS hlE
      refine CallD.calm (hlS _) ?_
      rintro v g7 hx7 rfl
      have hn7 := hx7.next
      have hok7 := hx7.ok hokF
      have hN7 := (hx7.gets g6.next (by omega)).trans hN
      have hC7 := (hx7.gets (g.next + 1 + 1) (by omega)).trans hCF
      simp +decide (disch := first | assumption | exact cellV_int _ _ | exact cellV_bool _ | omega | (simp only [GH.pn, GH.sn] <;> omega) | (with_reducible ((repeat (first | apply GH.ok_push | apply GH.ok_set)); assumption)) | ((try simp only [GH.push_hid, GH.set_hid]); first | assumption | (refine GH.vis ?_ ?_ <;> first | assumption | ((try simp only [GH.pn, GH.sn]) <;> omega)))) only [go_sem, ↓reduceIte, Nat.reduceEqDiff, Nat.reduceAdd, Int.reduceToNat, Int.reduceAdd, Int.reduceNeg, Int.reduceSub, Int.reduceMul, Int.reduceLT, Int.reduceLE, Int.reduceEq, ↓GH.gp_eq, ↓GH.gp_ne, ↓GH.gs_eq, ↓GH.gs_ne, GH.push_next, GH.set_next, hN7]
      refine CallD.calm (hlE _) ?_
      rintro v g8 hx8 rfl
      have hn8 := hx8.next
      have hok8 := hx8.ok hok7
      have hC8 := (hx8.gets (g.next + 1 + 1) (by omega)).trans hC7
      have hvC8 := GH.seen hC8 Nat.one_ne_zero
      unfold Sm at smS smE
      by_cases q1 : S < 0
      · rw [if_pos (.inl q1)]
        simp +decide (disch := first | assumption | exact cellV_int _ _ | exact cellV_bool _ | omega | (simp only [GH.pn, GH.sn] <;> omega) | (with_reducible ((repeat (first | apply GH.ok_push | apply GH.ok_set)); assumption)) | ((try simp only [GH.push_hid, GH.set_hid]); first | assumption | (refine GH.vis ?_ ?_ <;> first | assumption | ((try simp only [GH.pn, GH.sn]) <;> omega)))) only [go_sem, ↓reduceIte, Nat.reduceEqDiff, Nat.reduceAdd, Int.reduceToNat, Int.reduceAdd, Int.reduceNeg, Int.reduceSub, Int.reduceMul, Int.reduceLT, Int.reduceLE, Int.reduceEq, ↓GH.gp_eq, ↓GH.gp_ne, ↓GH.gs_eq, ↓GH.gs_ne, GH.push_next, GH.set_next, q1, hC8]
        intro hx0
        exact ⟨by omega, rfl⟩
      · by_cases q2 : S = 0
        · by_cases q3 : E ≤ 0
          · rw [if_pos (.inr ⟨q2, q3⟩)]
            simp +decide (disch := first | assumption | exact cellV_int _ _ | exact cellV_bool _ | omega | (simp only [GH.pn, GH.sn] <;> omega) | (with_reducible ((repeat (first | apply GH.ok_push | apply GH.ok_set)); assumption)) | ((try simp only [GH.push_hid, GH.set_hid]); first | assumption | (refine GH.vis ?_ ?_ <;> first | assumption | ((try simp only [GH.pn, GH.sn]) <;> omega)))) only [go_sem, ↓reduceIte, Nat.reduceEqDiff, Nat.reduceAdd, Int.reduceToNat, Int.reduceAdd, Int.reduceNeg, Int.reduceSub, Int.reduceMul, Int.reduceLT, Int.reduceLE, Int.reduceEq, ↓GH.gp_eq, ↓GH.gp_ne, ↓GH.gs_eq, ↓GH.gs_ne, GH.push_next, GH.set_next, q1, q2, q3, hC8]
            intro hx0
            exact ⟨by omega, rfl⟩
          · rw [if_neg (by omega), if_pos (by omega)]
            have q4 : 0 ≤ E := by omega
            simp +decide (disch := first | assumption | exact cellV_int _ _ | exact cellV_bool _ | omega | (simp only [GH.pn, GH.sn] <;> omega) | (with_reducible ((repeat (first | apply GH.ok_push | apply GH.ok_set)); assumption)) | ((try simp only [GH.push_hid, GH.set_hid]); first | assumption | (refine GH.vis ?_ ?_ <;> first | assumption | ((try simp only [GH.pn, GH.sn]) <;> omega)))) only [go_sem, ↓reduceIte, Nat.reduceEqDiff, Nat.reduceAdd, Int.reduceToNat, Int.reduceAdd, Int.reduceNeg, Int.reduceSub, Int.reduceMul, Int.reduceLT, Int.reduceLE, Int.reduceEq, ↓GH.gp_eq, ↓GH.gp_ne, ↓GH.gs_eq, ↓GH.gs_ne, GH.push_next, GH.set_next, q1, q2, q3, q4]
            refine CallD.calm (lowest_rets hX 1 1 ⟨by decide, by decide⟩ (by decide) _) ?_
            rintro v g9 hx9 rfl
            have hn9 := hx9.next
            have hC9 := (hx9.gets (g.next + 1 + 1) (by omega)).trans hC8
            have hvC9 := GH.seen hC9 Nat.one_ne_zero
            rw [show lowN 1 1 = 1 from rfl, show lowD 1 1 = 1 from rfl]
            unfold raV
            simp +decide (disch := first | assumption | exact cellV_int _ _ | exact cellV_bool _ | omega | (simp only [GH.pn, GH.sn] <;> omega) | (with_reducible ((repeat (first | apply GH.ok_push | apply GH.ok_set)); assumption)) | ((try simp only [GH.push_hid, GH.set_hid]); first | assumption | (refine GH.vis ?_ ?_ <;> first | assumption | ((try simp only [GH.pn, GH.sn]) <;> omega)))) only [go_sem, ↓reduceIte, Nat.reduceEqDiff, Nat.reduceAdd, Int.reduceToNat, Int.reduceAdd, Int.reduceNeg, Int.reduceSub, Int.reduceMul, Int.reduceLT, Int.reduceLE, Int.reduceEq, ↓GH.gp_eq, ↓GH.gp_ne, ↓GH.gs_eq, ↓GH.gs_ne, GH.push_next, GH.set_next, hC9]
            intro hx0
            exact ⟨by omega, rfl⟩
        · rw [if_neg (by omega)]
          by_cases q4 : 0 ≤ E
          · rw [if_pos q4]
            simp +decide (disch := first | assumption | exact cellV_int _ _ | exact cellV_bool _ | omega | (simp only [GH.pn, GH.sn] <;> omega) | (with_reducible ((repeat (first | apply GH.ok_push | apply GH.ok_set)); assumption)) | ((try simp only [GH.push_hid, GH.set_hid]); first | assumption | (refine GH.vis ?_ ?_ <;> first | assumption | ((try simp only [GH.pn, GH.sn]) <;> omega)))) only [go_sem, ↓reduceIte, Nat.reduceEqDiff, Nat.reduceAdd, Int.reduceToNat, Int.reduceAdd, Int.reduceNeg, Int.reduceSub, Int.reduceMul, Int.reduceLT, Int.reduceLE, Int.reduceEq, ↓GH.gp_eq, ↓GH.gp_ne, ↓GH.gs_eq, ↓GH.gs_ne, GH.push_next, GH.set_next, q1, q2, q4]
            refine CallD.calm (lowest_rets hX 1 1 ⟨by decide, by decide⟩ (by decide) _) ?_
            rintro v g9 hx9 rfl
            have hn9 := hx9.next
            have hC9 := (hx9.gets (g.next + 1 + 1) (by omega)).trans hC8
            have hvC9 := GH.seen hC9 Nat.one_ne_zero
            rw [show lowN 1 1 = 1 from rfl, show lowD 1 1 = 1 from rfl]
            unfold raV
            simp +decide (disch := first | assumption | exact cellV_int _ _ | exact cellV_bool _ | omega | (simp only [GH.pn, GH.sn] <;> omega) | (with_reducible ((repeat (first | apply GH.ok_push | apply GH.ok_set)); assumption)) | ((try simp only [GH.push_hid, GH.set_hid]); first | assumption | (refine GH.vis ?_ ?_ <;> first | assumption | ((try simp only [GH.pn, GH.sn]) <;> omega)))) only [go_sem, ↓reduceIte, Nat.reduceEqDiff, Nat.reduceAdd, Int.reduceToNat, Int.reduceAdd, Int.reduceNeg, Int.reduceSub, Int.reduceMul, Int.reduceLT, Int.reduceLE, Int.reduceEq, ↓GH.gp_eq, ↓GH.gp_ne, ↓GH.gs_eq, ↓GH.gs_ne, GH.push_next, GH.set_next, hC9]
            intro hx0
            exact ⟨by omega, rfl⟩
          · rw [if_neg q4]
            simp +decide (disch := first | assumption | exact cellV_int _ _ | exact cellV_bool _ | omega | (simp only [GH.pn, GH.sn] <;> omega) | (with_reducible ((repeat (first | apply GH.ok_push | apply GH.ok_set)); assumption)) | ((try simp only [GH.push_hid, GH.set_hid]); first | assumption | (refine GH.vis ?_ ?_ <;> first | assumption | ((try simp only [GH.pn, GH.sn]) <;> omega)))) only [go_sem, ↓reduceIte, Nat.reduceEqDiff, Nat.reduceAdd, Int.reduceToNat, Int.reduceAdd, Int.reduceNeg, Int.reduceSub, Int.reduceMul, Int.reduceLT, Int.reduceLE, Int.reduceEq, ↓GH.gp_eq, ↓GH.gp_ne, ↓GH.gs_eq, ↓GH.gs_ne, GH.push_next, GH.set_next, q1, q2, q4]
            refine CallD.calm (lowest_rets hX S (S - E) ⟨by omega, by omega⟩ (by omega) _) ?_
            rintro v g9 hx9 rfl
            have hn9 := hx9.next
            have hC9 := (hx9.gets (g.next + 1 + 1) (by omega)).trans hC8
            have hvC9 := GH.seen hC9 Nat.one_ne_zero
            unfold raV
            simp +decide (disch := first | assumption | exact cellV_int _ _ | exact cellV_bool _ | omega | (simp only [GH.pn, GH.sn] <;> omega) | (with_reducible ((repeat (first | apply GH.ok_push | apply GH.ok_set)); assumption)) | ((try simp only [GH.push_hid, GH.set_hid]); first | assumption | (refine GH.vis ?_ ?_ <;> first | assumption | ((try simp only [GH.pn, GH.sn]) <;> omega)))) only [go_sem, ↓reduceIte, Nat.reduceEqDiff, Nat.reduceAdd, Int.reduceToNat, Int.reduceAdd, Int.reduceNeg, Int.reduceSub, Int.reduceMul, Int.reduceLT, Int.reduceLE, Int.reduceEq, ↓GH.gp_eq, ↓GH.gp_ne, ↓GH.gs_eq, ↓GH.gs_ne, GH.push_next, GH.set_next, hC9]
            intro hx0
            exact ⟨by omega, rfl⟩
end Go.Proofs.YtngmaccaldhjcaaDoor
