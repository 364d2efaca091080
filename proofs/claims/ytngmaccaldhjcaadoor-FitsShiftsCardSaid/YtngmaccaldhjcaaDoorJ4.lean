import Derived.Test.YtngmaccaldhjcaaDoorJ3
import Derived.Test.YtngmaccaldhjcaaDoorKe
import Derived.Test.YtngmaccaldhjcaaDoorDtO
set_option linter.all false
set_option linter.unusedSimpArgs false
set_option linter.unnecessarySimpa false
set_option linter.unusedVariables false
set_option linter.unusedSectionVars false
set_option maxRecDepth 100000
set_option maxHeartbeats 4000000
set_option linter.unusedSimpArgs false
set_option linter.unusedVariables false
namespace Go.Proofs.YtngmaccaldhjcaaDoor
open Go.Ds
def fewT (T : List (List Int)) : Bool := decide (T.length ≤ 20) && T.all (fun R => decide (R.length ≤ 20))
theorem fewT_Few {T : List (List Int)} (h : fewT T = true) : Few T := by
  unfold fewT at h
  simp only [Bool.and_eq_true, decide_eq_true_eq, List.all_eq_true] at h
  exact ⟨by omega, fun R hR => by have := h.2 R hR; omega⟩
theorem few0_rets {X : Caller} (hX : Xok X) (T : List (List Int)) (t : Value) (g : GH) (ht : Sl2 g t T) :
    Rets Tryd.prog X 15 [t, .slice none 0 0] g (fun v g' lo => g.next ≤ lo ∧ v = .bool (fewT T)) := by
  have hl := ht.len
  refine Rets.run hX.pres p15 (hX.free 15 (by decide) _ _) rfl fun ho => ?_
  by_cases c0 : (20 : Int) < T.length
  · simp +decide (disch := first | assumption | (apply GH.ok_push; assumption) | exact cellV_int _ _ | exact cellV_bool _ | omega) only [go_sem, ↓reduceIte, Nat.reduceEqDiff, Nat.reduceAdd, Int.reduceToNat, hl, c0]
    intro hx
    refine ⟨Nat.le_refl _, ?_⟩
    have : fewT T = false := by unfold fewT; rw [decide_eq_false (by omega)]; rfl
    simp [this]
  · simp +decide (disch := first | assumption | (apply GH.ok_push; assumption) | exact cellV_int _ _ | exact cellV_bool _ | omega) only [go_sem, ↓reduceIte, Nat.reduceEqDiff, Nat.reduceAdd, Int.reduceToNat, hl, c0]
    refine Wk.loops (fun m e g' lo => g' = g ∧ g.next ≤ lo ∧ ∃ i : Nat, i + m = T.length ∧ (ev e (.s 0) = t ∧ ev e (.s 1) = .slice none 0 0 ∧ ev e (.s 5) = .int .i64 i) ∧ (T.take i).all (fun R => decide (R.length ≤ 20)) = true)
      (fun e g' lo => g' = g ∧ g.next ≤ lo ∧ ev e (.s 1) = .slice none 0 0 ∧ fewT T = true) (n := T.length) ?_ ?_ ?_
    · exact ⟨rfl, Nat.le_refl _, 0, by omega, (by simp +decide (disch := first | assumption | (apply GH.ok_push; assumption) | exact cellV_int _ _ | exact cellV_bool _ | omega) only [go_sem, ↓reduceIte, Nat.reduceEqDiff, Nat.reduceAdd, Int.reduceToNat]; first | done | exact rfl), rfl⟩
    · rintro e g' lo - - ⟨rfl, hlo, he, h⟩
      rw [h]
      simp +decide (disch := first | assumption | exact cellV_int _ _ | exact cellV_bool _ | omega | (simp only [GH.pn, GH.sn] <;> omega) | (with_reducible ((repeat (first | apply GH.ok_push | apply GH.ok_set)); assumption)) | ((try simp only [GH.push_hid, GH.set_hid]); refine GH.vis ?_ ?_ <;> first | assumption | ((try simp only [GH.pn, GH.sn]) <;> omega))) only [go_sem, ↓reduceIte, Nat.reduceEqDiff, Nat.reduceAdd, Int.reduceToNat, Int.reduceAdd, Int.reduceNeg, Int.reduceSub, Int.reduceMul, Int.reduceLT, Int.reduceLE, Int.reduceEq, ↓GH.gp_eq, ↓GH.gp_ne, ↓GH.gs_eq, ↓GH.gs_ne, GH.push_next, GH.set_next, he]
      repeat ((first | refine Wk.once ?_ | refine Wk.more (Wk.once ?_) | refine Wk.leave ?_); simp +decide (disch := first | assumption | exact cellV_int _ _ | exact cellV_bool _ | omega | (simp only [GH.pn, GH.sn] <;> omega) | (with_reducible ((repeat (first | apply GH.ok_push | apply GH.ok_set)); assumption)) | ((try simp only [GH.push_hid, GH.set_hid]); refine GH.vis ?_ ?_ <;> first | assumption | ((try simp only [GH.pn, GH.sn]) <;> omega))) only [go_sem, ↓reduceIte, Nat.reduceEqDiff, Nat.reduceAdd, Int.reduceToNat, Int.reduceAdd, Int.reduceNeg, Int.reduceSub, Int.reduceMul, Int.reduceLT, Int.reduceLE, Int.reduceEq, ↓GH.gp_eq, ↓GH.gp_ne, ↓GH.gs_eq, ↓GH.gs_ne, GH.push_next, GH.set_next, he])
      intro hx
      exact ⟨hlo, rfl⟩
    · rintro m e g' lo ho' hl' ih out ⟨rfl, hlo, i, hi, he, hp⟩
      by_cases ci : i < T.length
      · have ci' : (i : Int) < T.length := by omega
        obtain ⟨v, j1, o1, hj1, hp1, hp2, hv⟩ := ht.ptr ci
        have hp1 := hp1 (i : Int) rfl
        have hTi := getD_get [] ci
        obtain ⟨R, hR'⟩ : ∃ R, T.getD i [] = R := ⟨_, rfl⟩
        rw [hR'] at hv hTi
        have hvl := hv.len
        rw [ints_len] at hvl
        by_cases cl : (20 : Int) < R.length
        · simp +decide (disch := first | assumption | (apply GH.ok_push; assumption) | exact cellV_int _ _ | exact cellV_bool _ | omega) only [go_sem, ↓reduceIte, Nat.reduceEqDiff, Nat.reduceAdd, Int.reduceToNat, he, hl, hp1, hp2, hvl, cl, ci']
          intro hx
          refine ⟨hlo, ?_⟩
          have : fewT T = false := by
            unfold fewT
            rw [all_bad hTi (by simp; omega), Bool.and_false]
          simp [this]
        · simp +decide (disch := first | assumption | (apply GH.ok_push; assumption) | exact cellV_int _ _ | exact cellV_bool _ | omega) only [go_sem, ↓reduceIte, Nat.reduceEqDiff, Nat.reduceAdd, Int.reduceToNat, he, hl, hp1, hp2, hvl, cl, ci']
          refine ih (m - 1) _ _ _ (by omega) ⟨rfl, hlo, i + 1, by omega, (by simp +decide (disch := first | assumption | (apply GH.ok_push; assumption) | exact cellV_int _ _ | exact cellV_bool _ | omega) only [go_sem, ↓reduceIte, Nat.reduceEqDiff, Nat.reduceAdd, Int.reduceToNat, he]; first | done | exact rfl), ?_⟩
          rw [all_snoc _ T i R hTi, hp]
          first | (simp; done) | (simp; omega)
      · have ci' : ¬ (i : Int) < T.length := by omega
        simp +decide (disch := first | assumption | (apply GH.ok_push; assumption) | exact cellV_int _ _ | exact cellV_bool _ | omega) only [go_sem, ↓reduceIte, Nat.reduceEqDiff, Nat.reduceAdd, Int.reduceToNat, he, hl, ci']
        rw [List.take_of_length_le (by omega)] at hp
        refine out _ _ _ ⟨rfl, hlo, (by simp +decide (disch := first | assumption | (apply GH.ok_push; assumption) | exact cellV_int _ _ | exact cellV_bool _ | omega) only [go_sem, ↓reduceIte, Nat.reduceEqDiff, Nat.reduceAdd, Int.reduceToNat, he]; first | done | exact rfl), ?_⟩
        unfold fewT
        rw [decide_eq_true (by omega), hp]; rfl
theorem few1_rets {X : Caller} (hX : Xok X) (T : List (List Int)) (L : List Int) (s : Value) (d : Int) (t : Value) (g : GH) (ht : Sl2 g t T) (hs : SlR g s (ints L)) (j : Nat) (ty : TypeId) (hj : j < g.next) (hg : g.get j = cellsOb [s, .int .i64 d] ty) :
    Rets Tryd.prog X 15 [t, .slice (some ⟨j, 0, none⟩) 1 1] g (fun v g' lo => g.next ≤ lo ∧ v = .bool (fewT T && decide (L.length ≤ 20))) := by
  have hia : iaddrSF 2 (.slice (some ⟨j, 0, none⟩) 1 1) (.int .i64 0) = some (.pointer (some ⟨j, 0, none⟩)) := rfl
  have hls := hs.len
  rw [ints_len] at hls
  have hl := ht.len
  refine Rets.run hX.pres p15 (hX.free 15 (by decide) _ _) rfl fun ho => ?_
  by_cases c0 : (20 : Int) < T.length
  · simp +decide (disch := first | assumption | (apply GH.ok_push; assumption) | exact cellV_int _ _ | exact cellV_bool _ | omega) only [go_sem, ↓reduceIte, Nat.reduceEqDiff, Nat.reduceAdd, Int.reduceToNat, hl, c0]
    intro hx
    refine ⟨Nat.le_refl _, ?_⟩
    have : fewT T = false := by unfold fewT; rw [decide_eq_false (by omega)]; rfl
    simp [this]
  · simp +decide (disch := first | assumption | (apply GH.ok_push; assumption) | exact cellV_int _ _ | exact cellV_bool _ | omega) only [go_sem, ↓reduceIte, Nat.reduceEqDiff, Nat.reduceAdd, Int.reduceToNat, hl, c0]
    refine Wk.loops (fun m e g' lo => g' = g ∧ g.next ≤ lo ∧ ∃ i : Nat, i + m = T.length ∧ (ev e (.s 0) = t ∧ ev e (.s 1) = .slice (some ⟨j, 0, none⟩) 1 1 ∧ ev e (.s 5) = .int .i64 i) ∧ (T.take i).all (fun R => decide (R.length ≤ 20)) = true)
      (fun e g' lo => g' = g ∧ g.next ≤ lo ∧ ev e (.s 1) = .slice (some ⟨j, 0, none⟩) 1 1 ∧ fewT T = true) (n := T.length) ?_ ?_ ?_
    · exact ⟨rfl, Nat.le_refl _, 0, by omega, (by simp +decide (disch := first | assumption | (apply GH.ok_push; assumption) | exact cellV_int _ _ | exact cellV_bool _ | omega) only [go_sem, ↓reduceIte, Nat.reduceEqDiff, Nat.reduceAdd, Int.reduceToNat]; first | done | exact rfl), rfl⟩
    · rintro e g' lo - - ⟨rfl, hlo, he, h⟩
      rw [h, Bool.true_and]
      by_cases q1 : (20 : Int) < L.length
      · simp +decide (disch := first | assumption | exact cellV_int _ _ | exact cellV_bool _ | omega | (simp only [GH.pn, GH.sn] <;> omega) | (with_reducible ((repeat (first | apply GH.ok_push | apply GH.ok_set)); assumption)) | ((try simp only [GH.push_hid, GH.set_hid]); refine GH.vis ?_ ?_ <;> first | assumption | ((try simp only [GH.pn, GH.sn]) <;> omega))) only [go_sem, ↓reduceIte, Nat.reduceEqDiff, Nat.reduceAdd, Int.reduceToNat, Int.reduceAdd, Int.reduceNeg, Int.reduceSub, Int.reduceMul, Int.reduceLT, Int.reduceLE, Int.reduceEq, ↓GH.gp_eq, ↓GH.gp_ne, ↓GH.gs_eq, ↓GH.gs_ne, GH.push_next, GH.set_next, he]
        repeat ((first | refine Wk.once ?_ | refine Wk.more (Wk.once ?_) | refine Wk.leave ?_); simp +decide (disch := first | assumption | exact cellV_int _ _ | exact cellV_bool _ | omega | (simp only [GH.pn, GH.sn] <;> omega) | (with_reducible ((repeat (first | apply GH.ok_push | apply GH.ok_set)); assumption)) | ((try simp only [GH.push_hid, GH.set_hid]); refine GH.vis ?_ ?_ <;> first | assumption | ((try simp only [GH.pn, GH.sn]) <;> omega))) only [go_sem, ↓reduceIte, Nat.reduceEqDiff, Nat.reduceAdd, Int.reduceToNat, Int.reduceAdd, Int.reduceNeg, Int.reduceSub, Int.reduceMul, Int.reduceLT, Int.reduceLE, Int.reduceEq, ↓GH.gp_eq, ↓GH.gp_ne, ↓GH.gs_eq, ↓GH.gs_ne, GH.push_next, GH.set_next, he, hia, hg, hls, q1])
        intro hx
        refine ⟨hlo, ?_⟩
        first | rfl | (rw [decide_eq_false (show ¬ L.length ≤ 20 by omega)])
      · simp +decide (disch := first | assumption | exact cellV_int _ _ | exact cellV_bool _ | omega | (simp only [GH.pn, GH.sn] <;> omega) | (with_reducible ((repeat (first | apply GH.ok_push | apply GH.ok_set)); assumption)) | ((try simp only [GH.push_hid, GH.set_hid]); refine GH.vis ?_ ?_ <;> first | assumption | ((try simp only [GH.pn, GH.sn]) <;> omega))) only [go_sem, ↓reduceIte, Nat.reduceEqDiff, Nat.reduceAdd, Int.reduceToNat, Int.reduceAdd, Int.reduceNeg, Int.reduceSub, Int.reduceMul, Int.reduceLT, Int.reduceLE, Int.reduceEq, ↓GH.gp_eq, ↓GH.gp_ne, ↓GH.gs_eq, ↓GH.gs_ne, GH.push_next, GH.set_next, he]
        repeat ((first | refine Wk.once ?_ | refine Wk.more (Wk.once ?_) | refine Wk.leave ?_); simp +decide (disch := first | assumption | exact cellV_int _ _ | exact cellV_bool _ | omega | (simp only [GH.pn, GH.sn] <;> omega) | (with_reducible ((repeat (first | apply GH.ok_push | apply GH.ok_set)); assumption)) | ((try simp only [GH.push_hid, GH.set_hid]); refine GH.vis ?_ ?_ <;> first | assumption | ((try simp only [GH.pn, GH.sn]) <;> omega))) only [go_sem, ↓reduceIte, Nat.reduceEqDiff, Nat.reduceAdd, Int.reduceToNat, Int.reduceAdd, Int.reduceNeg, Int.reduceSub, Int.reduceMul, Int.reduceLT, Int.reduceLE, Int.reduceEq, ↓GH.gp_eq, ↓GH.gp_ne, ↓GH.gs_eq, ↓GH.gs_ne, GH.push_next, GH.set_next, he, hia, hg, hls, q1])
        intro hx
        refine ⟨hlo, ?_⟩
        first | rfl | (rw [decide_eq_true (show L.length ≤ 20 by omega)])
    · rintro m e g' lo ho' hl' ih out ⟨rfl, hlo, i, hi, he, hp⟩
      by_cases ci : i < T.length
      · have ci' : (i : Int) < T.length := by omega
        obtain ⟨v, j1, o1, hj1, hp1, hp2, hv⟩ := ht.ptr ci
        have hp1 := hp1 (i : Int) rfl
        have hTi := getD_get [] ci
        obtain ⟨R, hR'⟩ : ∃ R, T.getD i [] = R := ⟨_, rfl⟩
        rw [hR'] at hv hTi
        have hvl := hv.len
        rw [ints_len] at hvl
        by_cases cl : (20 : Int) < R.length
        · simp +decide (disch := first | assumption | (apply GH.ok_push; assumption) | exact cellV_int _ _ | exact cellV_bool _ | omega) only [go_sem, ↓reduceIte, Nat.reduceEqDiff, Nat.reduceAdd, Int.reduceToNat, he, hl, hp1, hp2, hvl, cl, ci']
          intro hx
          refine ⟨hlo, ?_⟩
          have : fewT T = false := by
            unfold fewT
            rw [all_bad hTi (by simp; omega), Bool.and_false]
          simp [this]
        · simp +decide (disch := first | assumption | (apply GH.ok_push; assumption) | exact cellV_int _ _ | exact cellV_bool _ | omega) only [go_sem, ↓reduceIte, Nat.reduceEqDiff, Nat.reduceAdd, Int.reduceToNat, he, hl, hp1, hp2, hvl, cl, ci']
          refine ih (m - 1) _ _ _ (by omega) ⟨rfl, hlo, i + 1, by omega, (by simp +decide (disch := first | assumption | (apply GH.ok_push; assumption) | exact cellV_int _ _ | exact cellV_bool _ | omega) only [go_sem, ↓reduceIte, Nat.reduceEqDiff, Nat.reduceAdd, Int.reduceToNat, he]; first | done | exact rfl), ?_⟩
          rw [all_snoc _ T i R hTi, hp]
          first | (simp; done) | (simp; omega)
      · have ci' : ¬ (i : Int) < T.length := by omega
        simp +decide (disch := first | assumption | (apply GH.ok_push; assumption) | exact cellV_int _ _ | exact cellV_bool _ | omega) only [go_sem, ↓reduceIte, Nat.reduceEqDiff, Nat.reduceAdd, Int.reduceToNat, he, hl, ci']
        rw [List.take_of_length_le (by omega)] at hp
        refine out _ _ _ ⟨rfl, hlo, (by simp +decide (disch := first | assumption | (apply GH.ok_push; assumption) | exact cellV_int _ _ | exact cellV_bool _ | omega) only [go_sem, ↓reduceIte, Nat.reduceEqDiff, Nat.reduceAdd, Int.reduceToNat, he]; first | done | exact rfl), ?_⟩
        unfold fewT
        rw [decide_eq_true (by omega), hp]; rfl
theorem few2_rets {X : Caller} (hX : Xok X) (T : List (List Int)) (L : List Int) (s : Value) (d : Int) (M : List Int) (r : Value) (f : Int) (t : Value) (g : GH) (ht : Sl2 g t T) (hs : SlR g s (ints L)) (hr : SlR g r (ints M)) (j : Nat) (ty : TypeId) (hj : j < g.next) (hg : g.get j = cellsOb [s, .int .i64 d, r, .int .i64 f] ty) :
    Rets Tryd.prog X 15 [t, .slice (some ⟨j, 0, none⟩) 2 2] g (fun v g' lo => g.next ≤ lo ∧ v = .bool (fewT T && decide (L.length ≤ 20) && decide (M.length ≤ 20))) := by
  have hia : iaddrSF 2 (.slice (some ⟨j, 0, none⟩) 2 2) (.int .i64 0) = some (.pointer (some ⟨j, 0, none⟩)) := rfl
  have hib : iaddrSF 2 (.slice (some ⟨j, 0, none⟩) 2 2) (.int .i64 1) = some (.pointer (some ⟨j, 2, none⟩)) := by
    show some (Value.pointer (some ((⟨j, 0, none⟩ : Addr).add 2))) = _
    unfold Addr.add; rfl
  have hls := hs.len
  rw [ints_len] at hls
  have hlr := hr.len
  rw [ints_len] at hlr
  have hl := ht.len
  refine Rets.run hX.pres p15 (hX.free 15 (by decide) _ _) rfl fun ho => ?_
  by_cases c0 : (20 : Int) < T.length
  · simp +decide (disch := first | assumption | (apply GH.ok_push; assumption) | exact cellV_int _ _ | exact cellV_bool _ | omega) only [go_sem, ↓reduceIte, Nat.reduceEqDiff, Nat.reduceAdd, Int.reduceToNat, hl, c0]
    intro hx
    refine ⟨Nat.le_refl _, ?_⟩
    have : fewT T = false := by unfold fewT; rw [decide_eq_false (by omega)]; rfl
    simp [this]
  · simp +decide (disch := first | assumption | (apply GH.ok_push; assumption) | exact cellV_int _ _ | exact cellV_bool _ | omega) only [go_sem, ↓reduceIte, Nat.reduceEqDiff, Nat.reduceAdd, Int.reduceToNat, hl, c0]
    refine Wk.loops (fun m e g' lo => g' = g ∧ g.next ≤ lo ∧ ∃ i : Nat, i + m = T.length ∧ (ev e (.s 0) = t ∧ ev e (.s 1) = .slice (some ⟨j, 0, none⟩) 2 2 ∧ ev e (.s 5) = .int .i64 i) ∧ (T.take i).all (fun R => decide (R.length ≤ 20)) = true)
      (fun e g' lo => g' = g ∧ g.next ≤ lo ∧ ev e (.s 1) = .slice (some ⟨j, 0, none⟩) 2 2 ∧ fewT T = true) (n := T.length) ?_ ?_ ?_
    · exact ⟨rfl, Nat.le_refl _, 0, by omega, (by simp +decide (disch := first | assumption | (apply GH.ok_push; assumption) | exact cellV_int _ _ | exact cellV_bool _ | omega) only [go_sem, ↓reduceIte, Nat.reduceEqDiff, Nat.reduceAdd, Int.reduceToNat]; first | done | exact rfl), rfl⟩
    · rintro e g' lo - - ⟨rfl, hlo, he, h⟩
      rw [h, Bool.true_and]
      by_cases q1 : (20 : Int) < L.length
      · simp +decide (disch := first | assumption | exact cellV_int _ _ | exact cellV_bool _ | omega | (simp only [GH.pn, GH.sn] <;> omega) | (with_reducible ((repeat (first | apply GH.ok_push | apply GH.ok_set)); assumption)) | ((try simp only [GH.push_hid, GH.set_hid]); refine GH.vis ?_ ?_ <;> first | assumption | ((try simp only [GH.pn, GH.sn]) <;> omega))) only [go_sem, ↓reduceIte, Nat.reduceEqDiff, Nat.reduceAdd, Int.reduceToNat, Int.reduceAdd, Int.reduceNeg, Int.reduceSub, Int.reduceMul, Int.reduceLT, Int.reduceLE, Int.reduceEq, ↓GH.gp_eq, ↓GH.gp_ne, ↓GH.gs_eq, ↓GH.gs_ne, GH.push_next, GH.set_next, he]
        repeat ((first | refine Wk.once ?_ | refine Wk.more (Wk.once ?_) | refine Wk.leave ?_); simp +decide (disch := first | assumption | exact cellV_int _ _ | exact cellV_bool _ | omega | (simp only [GH.pn, GH.sn] <;> omega) | (with_reducible ((repeat (first | apply GH.ok_push | apply GH.ok_set)); assumption)) | ((try simp only [GH.push_hid, GH.set_hid]); refine GH.vis ?_ ?_ <;> first | assumption | ((try simp only [GH.pn, GH.sn]) <;> omega))) only [go_sem, ↓reduceIte, Nat.reduceEqDiff, Nat.reduceAdd, Int.reduceToNat, Int.reduceAdd, Int.reduceNeg, Int.reduceSub, Int.reduceMul, Int.reduceLT, Int.reduceLE, Int.reduceEq, ↓GH.gp_eq, ↓GH.gp_ne, ↓GH.gs_eq, ↓GH.gs_ne, GH.push_next, GH.set_next, he, hia, hib, hg, hls, q1])
        intro hx
        refine ⟨hlo, ?_⟩
        first | rfl | (rw [decide_eq_false (show ¬ L.length ≤ 20 by omega)]; rfl)
      · by_cases q2 : (20 : Int) < M.length
        · simp +decide (disch := first | assumption | exact cellV_int _ _ | exact cellV_bool _ | omega | (simp only [GH.pn, GH.sn] <;> omega) | (with_reducible ((repeat (first | apply GH.ok_push | apply GH.ok_set)); assumption)) | ((try simp only [GH.push_hid, GH.set_hid]); refine GH.vis ?_ ?_ <;> first | assumption | ((try simp only [GH.pn, GH.sn]) <;> omega))) only [go_sem, ↓reduceIte, Nat.reduceEqDiff, Nat.reduceAdd, Int.reduceToNat, Int.reduceAdd, Int.reduceNeg, Int.reduceSub, Int.reduceMul, Int.reduceLT, Int.reduceLE, Int.reduceEq, ↓GH.gp_eq, ↓GH.gp_ne, ↓GH.gs_eq, ↓GH.gs_ne, GH.push_next, GH.set_next, he]
          repeat ((first | refine Wk.once ?_ | refine Wk.more (Wk.once ?_) | refine Wk.leave ?_); simp +decide (disch := first | assumption | exact cellV_int _ _ | exact cellV_bool _ | omega | (simp only [GH.pn, GH.sn] <;> omega) | (with_reducible ((repeat (first | apply GH.ok_push | apply GH.ok_set)); assumption)) | ((try simp only [GH.push_hid, GH.set_hid]); refine GH.vis ?_ ?_ <;> first | assumption | ((try simp only [GH.pn, GH.sn]) <;> omega))) only [go_sem, ↓reduceIte, Nat.reduceEqDiff, Nat.reduceAdd, Int.reduceToNat, Int.reduceAdd, Int.reduceNeg, Int.reduceSub, Int.reduceMul, Int.reduceLT, Int.reduceLE, Int.reduceEq, ↓GH.gp_eq, ↓GH.gp_ne, ↓GH.gs_eq, ↓GH.gs_ne, GH.push_next, GH.set_next, he, hia, hib, hg, hls, hlr, q1, q2])
          intro hx
          refine ⟨hlo, ?_⟩
          first | rfl | (rw [decide_eq_false (show ¬ M.length ≤ 20 by omega)]; simp)
        · simp +decide (disch := first | assumption | exact cellV_int _ _ | exact cellV_bool _ | omega | (simp only [GH.pn, GH.sn] <;> omega) | (with_reducible ((repeat (first | apply GH.ok_push | apply GH.ok_set)); assumption)) | ((try simp only [GH.push_hid, GH.set_hid]); refine GH.vis ?_ ?_ <;> first | assumption | ((try simp only [GH.pn, GH.sn]) <;> omega))) only [go_sem, ↓reduceIte, Nat.reduceEqDiff, Nat.reduceAdd, Int.reduceToNat, Int.reduceAdd, Int.reduceNeg, Int.reduceSub, Int.reduceMul, Int.reduceLT, Int.reduceLE, Int.reduceEq, ↓GH.gp_eq, ↓GH.gp_ne, ↓GH.gs_eq, ↓GH.gs_ne, GH.push_next, GH.set_next, he]
          repeat ((first | refine Wk.once ?_ | refine Wk.more (Wk.once ?_) | refine Wk.leave ?_); simp +decide (disch := first | assumption | exact cellV_int _ _ | exact cellV_bool _ | omega | (simp only [GH.pn, GH.sn] <;> omega) | (with_reducible ((repeat (first | apply GH.ok_push | apply GH.ok_set)); assumption)) | ((try simp only [GH.push_hid, GH.set_hid]); refine GH.vis ?_ ?_ <;> first | assumption | ((try simp only [GH.pn, GH.sn]) <;> omega))) only [go_sem, ↓reduceIte, Nat.reduceEqDiff, Nat.reduceAdd, Int.reduceToNat, Int.reduceAdd, Int.reduceNeg, Int.reduceSub, Int.reduceMul, Int.reduceLT, Int.reduceLE, Int.reduceEq, ↓GH.gp_eq, ↓GH.gp_ne, ↓GH.gs_eq, ↓GH.gs_ne, GH.push_next, GH.set_next, he, hia, hib, hg, hls, hlr, q1, q2])
          intro hx
          refine ⟨hlo, ?_⟩
          first | rfl | (rw [decide_eq_true (show L.length ≤ 20 by omega), decide_eq_true (show M.length ≤ 20 by omega)]; rfl)
    · rintro m e g' lo ho' hl' ih out ⟨rfl, hlo, i, hi, he, hp⟩
      by_cases ci : i < T.length
      · have ci' : (i : Int) < T.length := by omega
        obtain ⟨v, j1, o1, hj1, hp1, hp2, hv⟩ := ht.ptr ci
        have hp1 := hp1 (i : Int) rfl
        have hTi := getD_get [] ci
        obtain ⟨R, hR'⟩ : ∃ R, T.getD i [] = R := ⟨_, rfl⟩
        rw [hR'] at hv hTi
        have hvl := hv.len
        rw [ints_len] at hvl
        by_cases cl : (20 : Int) < R.length
        · simp +decide (disch := first | assumption | (apply GH.ok_push; assumption) | exact cellV_int _ _ | exact cellV_bool _ | omega) only [go_sem, ↓reduceIte, Nat.reduceEqDiff, Nat.reduceAdd, Int.reduceToNat, he, hl, hp1, hp2, hvl, cl, ci']
          intro hx
          refine ⟨hlo, ?_⟩
          have : fewT T = false := by
            unfold fewT
            rw [all_bad hTi (by simp; omega), Bool.and_false]
          simp [this]
        · simp +decide (disch := first | assumption | (apply GH.ok_push; assumption) | exact cellV_int _ _ | exact cellV_bool _ | omega) only [go_sem, ↓reduceIte, Nat.reduceEqDiff, Nat.reduceAdd, Int.reduceToNat, he, hl, hp1, hp2, hvl, cl, ci']
          refine ih (m - 1) _ _ _ (by omega) ⟨rfl, hlo, i + 1, by omega, (by simp +decide (disch := first | assumption | (apply GH.ok_push; assumption) | exact cellV_int _ _ | exact cellV_bool _ | omega) only [go_sem, ↓reduceIte, Nat.reduceEqDiff, Nat.reduceAdd, Int.reduceToNat, he]; first | done | exact rfl), ?_⟩
          rw [all_snoc _ T i R hTi, hp]
          first | (simp; done) | (simp; omega)
      · have ci' : ¬ (i : Int) < T.length := by omega
        simp +decide (disch := first | assumption | (apply GH.ok_push; assumption) | exact cellV_int _ _ | exact cellV_bool _ | omega) only [go_sem, ↓reduceIte, Nat.reduceEqDiff, Nat.reduceAdd, Int.reduceToNat, he, hl, ci']
        rw [List.take_of_length_le (by omega)] at hp
        refine out _ _ _ ⟨rfl, hlo, (by simp +decide (disch := first | assumption | (apply GH.ok_push; assumption) | exact cellV_int _ _ | exact cellV_bool _ | omega) only [go_sem, ↓reduceIte, Nat.reduceEqDiff, Nat.reduceAdd, Int.reduceToNat, he]; first | done | exact rfl), ?_⟩
        unfold fewT
        rw [decide_eq_true (by omega), hp]; rfl
end Go.Proofs.YtngmaccaldhjcaaDoor
set_option maxRecDepth 100000
set_option maxHeartbeats 4000000
set_option linter.unusedSimpArgs false
set_option linter.unusedVariables false
namespace Go.Proofs.YtngmaccaldhjcaaDoor
open Go.Ds
/-! ## Lists of lists that are appended to -/
def Own2 (g : GH) (o : Value) (LL : List (List Int)) (base : Nat) : Prop := ∃ vs : List Value, Own g o vs 23 base ∧ vs.length = LL.length ∧ ∀ (i : Nat) v L, vs[i]? = some v → LL[i]? = some L → SlR g v (ints L)
theorem Own2.nil {g : GH} {base : Nat} : Own2 g (.slice none 0 0) [] base := ⟨[], Own.nil, rfl, fun i v L h => by simp at h⟩
theorem Own2.read {g : GH} {o : Value} {LL : List (List Int)} {base : Nat} (h : Own2 g o LL base) : Sl2 g o LL := by
  obtain ⟨vs, h1, h2, h3⟩ := h
  exact ⟨vs, h1.read, h2, h3⟩
theorem Own2.kept {g g' : GH} {o : Value} {LL : List (List Int)} {base : Nat} (h : Own2 g o LL base) (k : Kept g g') : Own2 g' o LL base := by
  obtain ⟨vs, h1, h2, h3⟩ := h
  exact ⟨vs, h1.kept k, h2, fun i v L a b => (h3 i v L a b).kept k⟩
theorem Own2.grew {g g' : GH} {s' u : Value} {LL : List (List Int)} {M : List Int} {vs : List Value} {base : Nat} (h2 : vs.length = LL.length) (h3 : ∀ (i : Nat) v L, vs[i]? = some v → LL[i]? = some L → SlR g v (ints L)) (hu : SlR g u (ints M)) (hgr : Grew2 g g' s' (vs ++ [u]) 23 base) : Own2 g' s' (LL ++ [M]) base := by
  refine ⟨vs ++ [u], hgr.own, by simp [h2], fun i v L hv hL => hgr.read _ _ ?_⟩
  by_cases c : i < vs.length
  · rw [List.getElem?_append_left c] at hv
    rw [List.getElem?_append_left (by omega)] at hL
    exact h3 i v L hv hL
  · rw [List.getElem?_append_right (by omega)] at hv
    rw [List.getElem?_append_right (by omega)] at hL
    have hi : i = vs.length := by
      have := (List.getElem?_eq_some_iff.1 hv).1
      simp at this; omega
    subst hi
    rw [show vs.length - LL.length = 0 by omega] at hL
    simp at hv hL
    subst hv; subst hL
    exact hu

theorem own_rets {X : Caller} (hX : Xok X) (T : List (List Int)) (hF : fewT T = true) (t : Value) (g : GH) (ht : Sl2 g t T) :
    Rets Tryd.prog X 17 [t] g (fun v g' lo => g.next ≤ lo ∧ Sl2 g' v T) := by
  have hl := ht.len
  have hFe := hF
  unfold fewT at hF
  simp only [Bool.and_eq_true, decide_eq_true_eq, List.all_eq_true] at hF
  refine Rets.run hX.pres p17 (hX.free 17 (by decide) _ _) rfl fun ho => ?_
  simp +decide (disch := first | assumption | (apply GH.ok_push; assumption) | exact cellV_int _ _ | exact cellV_bool _ | omega) only [go_sem, ↓reduceIte, Nat.reduceEqDiff, Nat.reduceAdd, Int.reduceToNat]
  refine Wk.loops (fun m e g' lo => g.next ≤ lo ∧ Kept g g' ∧ ∃ i : Nat, i + m = T.length ∧ (ev e (.s 0) = t ∧ ev e (.s 4) = .int .i64 i) ∧ ∃ o, ev e (.s 3) = o ∧ Own2 g' o (T.take i) g.next)
    (fun e g' lo => g.next ≤ lo ∧ ∃ o, ev e (.s 3) = o ∧ Sl2 g' o T) (n := T.length) ?_ ?_ ?_
  · exact ⟨Nat.le_refl _, Kept.refl _, 0, by omega, (by simp +decide (disch := first | assumption | (apply GH.ok_push; assumption) | exact cellV_int _ _ | exact cellV_bool _ | omega) only [go_sem, ↓reduceIte, Nat.reduceEqDiff, Nat.reduceAdd, Int.reduceToNat]; first | done | exact rfl), .slice none 0 0, (by simp +decide (disch := first | assumption | (apply GH.ok_push; assumption) | exact cellV_int _ _ | exact cellV_bool _ | omega) only [go_sem, ↓reduceIte, Nat.reduceEqDiff, Nat.reduceAdd, Int.reduceToNat]; first | done | exact rfl), Own2.nil⟩
  · rintro e g' lo - - ⟨hlo, o, he, h⟩
    simp +decide (disch := first | assumption | (apply GH.ok_push; assumption) | exact cellV_int _ _ | exact cellV_bool _ | omega) only [go_sem, ↓reduceIte, Nat.reduceEqDiff, Nat.reduceAdd, Int.reduceToNat, he]
    intro hx
    exact ⟨hlo, h⟩
  · rintro m e g' lo ho' hl' ih out ⟨hlo, hk, i, hi, he, o, h3, hown⟩
    have hgk := hk.next
    by_cases ci : i < T.length
    · have ci' : (i : Int) < T.length := by omega
      obtain ⟨u, j1, o1, hj1, hp1, hp2, hu⟩ := (ht.kept hk).ptr ci
      have hp1 := hp1 (i : Int) rfl
      have hob : obLoad none (g'.get j1) o1 = some u := by rw [← load_eq none g' j1 o1 0]; exact hp2 0
      have hTi := getD_get [] ci
      obtain ⟨M, hM⟩ : ∃ M, T.getD i [] = M := ⟨_, rfl⟩
      rw [hM] at hu hTi
      have hM20 := hF.2 M (List.mem_of_getElem? hTi)
      have htk := take_snoc' T i M hTi
      have hcell := hu.cell
      have hkp := (Kept.refl g').push ho' (cellsOb [] 3)
      simp +decide (disch := first | assumption | exact cellV_int _ _ | exact cellV_bool _ | omega | (simp only [GH.pn, GH.sn] <;> omega) | (with_reducible ((repeat (first | apply GH.ok_push | apply GH.ok_set)); assumption)) | ((try simp only [GH.push_hid, GH.set_hid]); refine GH.vis ?_ ?_ <;> first | assumption | ((try simp only [GH.pn, GH.sn]) <;> omega))) only [go_sem, ↓reduceIte, Nat.reduceEqDiff, Nat.reduceAdd, Int.reduceToNat, Int.reduceAdd, Int.reduceNeg, Int.reduceSub, Int.reduceMul, Int.reduceLT, Int.reduceLE, Int.reduceEq, ↓GH.gp_eq, ↓GH.gp_ne, ↓GH.gs_eq, ↓GH.gs_ne, GH.push_next, GH.set_next, he, h3, hl, ci', hp1, hob]
      refine AppD.copy (vs := []) (new := ints M) (j := g'.next) (cells := []) (t' := 3) (by rw [GH.get_push ho', if_pos rfl]) rfl (Nat.le_refl _) (Nat.lt_succ_self _) (hu.kept hkp) (by rw [ints_len]; simp; omega) (GH.ok_push ho') ?_
      intro own g2 sp wr hk2 hok2 hcp
      rw [List.nil_append] at hcp
      have hk2' := hkp.trans hk2
      have hkn2 := hk2'.next
      have hcell2 := hcp.cell
      simp +decide (disch := first | assumption | (apply GH.ok_push; assumption) | exact cellV_int _ _ | exact cellV_bool _ | omega) only [go_sem, ↓reduceIte, Nat.reduceEqDiff, Nat.reduceAdd, Int.reduceToNat, he, h3, hcell2]
      have hkp3 := hk2'.push hok2 (cellsOb [own] 23)
      obtain ⟨vs, q1, q2, q3⟩ := hown.kept hkp3
      have hvl : vs.length ≤ 20 := by rw [q2, List.length_take]; omega
      refine AppD.own2 (lw := g.next) q1 (SlR.one hok2 _ _) (by simp) (by simp [hcell2]) (by simp; omega) (by simp [GH.push]; omega) hlo (by omega) (GH.ok_push hok2) (fun s' g3 lo3 sp wr hgr hlo3 => ?_)
      simp +decide (disch := first | assumption | (apply GH.ok_push; assumption) | exact cellV_int _ _ | exact cellV_bool _ | omega) only [go_sem, ↓reduceIte, Nat.reduceEqDiff, Nat.reduceAdd, Int.reduceToNat, he]
      refine ih (m - 1) _ _ _ (by omega) ⟨hlo3, (hk.trans hkp3).grew2 hgr (Nat.le_refl _), i + 1, by omega, (by simp +decide (disch := first | assumption | (apply GH.ok_push; assumption) | exact cellV_int _ _ | exact cellV_bool _ | omega) only [go_sem, ↓reduceIte, Nat.reduceEqDiff, Nat.reduceAdd, Int.reduceToNat, he]; first | done | exact rfl), s', (by simp +decide (disch := first | assumption | (apply GH.ok_push; assumption) | exact cellV_int _ _ | exact cellV_bool _ | omega) only [go_sem, ↓reduceIte, Nat.reduceEqDiff, Nat.reduceAdd, Int.reduceToNat]; first | done | exact rfl), ?_⟩
      rw [htk]
      exact Own2.grew q2 q3 (hcp.push hok2 _) hgr
    · have ci' : ¬ (i : Int) < T.length := by omega
      rw [List.take_of_length_le (by omega)] at hown
      simp +decide (disch := first | assumption | (apply GH.ok_push; assumption) | exact cellV_int _ _ | exact cellV_bool _ | omega) only [go_sem, ↓reduceIte, Nat.reduceEqDiff, Nat.reduceAdd, Int.reduceToNat, he, h3, hl, ci']
      exact out _ _ _ ⟨hlo, o, (by simp +decide (disch := first | assumption | (apply GH.ok_push; assumption) | exact cellV_int _ _ | exact cellV_bool _ | omega) only [go_sem, ↓reduceIte, Nat.reduceEqDiff, Nat.reduceAdd, Int.reduceToNat, h3]; first | done | exact rfl), hown.read⟩
/-- The same rows? -/
theorem rows_rets {X : Caller} (hX : Xok X) (A B : List (List Int)) (hA : A.length < 1000000) (hB : B.length < 1000000) (hA2 : ∀ R ∈ A, R.length < 1000000) (hB2 : ∀ R ∈ B, R.length < 1000000) (s t : Value) (g : GH) (hs : Sl2 g s A) (ht : Sl2 g t B) :
    Rets Tryd.prog X 26 [s, t] g (fun v g' lo => g.next ≤ lo ∧ v = .bool (decide (A = B))) := by
  have hls := hs.len
  have hlt := ht.len
  refine Rets.run hX.pres p26 (hX.free 26 (by decide) _ _) rfl fun ho => ?_
  by_cases c : (A.length : Int) = B.length
  case neg =>
    simp +decide (disch := first | assumption | (apply GH.ok_push; assumption) | exact cellV_int _ _ | exact cellV_bool _ | omega) only [go_sem, ↓reduceIte, Nat.reduceEqDiff, Nat.reduceAdd, Int.reduceToNat, hls, hlt, c]
    intro hx
    exact ⟨Nat.le_refl _, by rw [decide_eq_false fun h => c (by rw [h])]⟩
  case pos =>
    simp +decide (disch := first | assumption | (apply GH.ok_push; assumption) | exact cellV_int _ _ | exact cellV_bool _ | omega) only [go_sem, ↓reduceIte, Nat.reduceEqDiff, Nat.reduceAdd, Int.reduceToNat, hls, hlt, c]
    refine Wk.loops (fun m e g' lo => g' = g ∧ g.next ≤ lo ∧ ∃ i : Nat, i + m = A.length ∧ (ev e (.s 0) = s ∧ ev e (.s 1) = t ∧ ev e (.s 5) = .int .i64 i) ∧ A.take i = B.take i)
      (fun e g' lo => g' = g ∧ g.next ≤ lo ∧ A = B) (n := A.length) ?_ ?_ ?_
    · exact ⟨rfl, Nat.le_refl _, 0, by omega, (by simp +decide (disch := first | assumption | (apply GH.ok_push; assumption) | exact cellV_int _ _ | exact cellV_bool _ | omega) only [go_sem, ↓reduceIte, Nat.reduceEqDiff, Nat.reduceAdd, Int.reduceToNat]; first | done | exact rfl), rfl⟩
    · rintro e g' lo - - ⟨rfl, hlo, h⟩
      simp +decide (disch := first | assumption | (apply GH.ok_push; assumption) | exact cellV_int _ _ | exact cellV_bool _ | omega) only [go_sem, ↓reduceIte, Nat.reduceEqDiff, Nat.reduceAdd, Int.reduceToNat]
      intro hx
      exact ⟨hlo, by simp [h]⟩
    · rintro m e g' lo ho' hl' ih out ⟨rfl, hlo, i, hi, he, hp⟩
      by_cases ci : i < A.length
      · have ci' : (i : Int) < B.length := by omega
        obtain ⟨v, j1, o1, hj1, hp1, hp2, hv⟩ := hs.ptr ci
        have hp1 := hp1 (i : Int) rfl
        obtain ⟨w, j2, o2, hj2, hq1, hq2, hw⟩ := ht.ptr (i := i) (by omega)
        have hq1 := hq1 (i : Int) rfl
        have hAi := getD_get [] ci
        have hBi := getD_get [] (show i < B.length by omega)
        obtain ⟨R, hR⟩ : ∃ R, A.getD i [] = R := ⟨_, rfl⟩
        obtain ⟨S, hS⟩ : ∃ S, B.getD i [] = S := ⟨_, rfl⟩
        rw [hR] at hv hAi
        rw [hS] at hw hBi
        have hRl := hA2 R (List.mem_of_getElem? hAi)
        have hSl := hB2 S (List.mem_of_getElem? hBi)
        have hvl := hv.len
        have hwl := hw.len
        rw [ints_len] at hvl hwl
        have bad : R ≠ S → A ≠ B := fun h1 h2 => by
          subst h2
          rw [hAi] at hBi
          exact h1 (Option.some.inj hBi)
        by_cases cl : (R.length : Int) = S.length
        case neg =>
          simp +decide (disch := first | assumption | (apply GH.ok_push; assumption) | exact cellV_int _ _ | exact cellV_bool _ | omega) only [go_sem, ↓reduceIte, Nat.reduceEqDiff, Nat.reduceAdd, Int.reduceToNat, he, hls, hlt, c, ci', hp1, hp2, hq1, hq2, hvl, hwl, cl]
          intro hx
          exact ⟨hlo, by rw [decide_eq_false (bad fun h => cl (by rw [h]))]⟩
        case pos =>
          simp +decide (disch := first | assumption | (apply GH.ok_push; assumption) | exact cellV_int _ _ | exact cellV_bool _ | omega) only [go_sem, ↓reduceIte, Nat.reduceEqDiff, Nat.reduceAdd, Int.reduceToNat, he, hls, hlt, c, ci', hp1, hp2, hq1, hq2, hvl, hwl, cl]
          refine Wk.loops (fun m2 e2 g2 lo2 => g2 = g' ∧ g'.next ≤ lo2 ∧ ∃ k : Nat, k + m2 = R.length ∧ (ev e2 (.s 0) = s ∧ ev e2 (.s 1) = t ∧ ev e2 (.s 5) = .int .i64 i ∧ ev e2 (.s 6) = .int .i64 k) ∧ R.take k = S.take k)
            (fun e2 g2 lo2 => g2 = g' ∧ g'.next ≤ lo2 ∧ (ev e2 (.s 0) = s ∧ ev e2 (.s 1) = t ∧ ev e2 (.s 5) = .int .i64 i) ∧ R = S) (n := R.length) ?_ ?_ ?_
          · exact ⟨rfl, hlo, 0, by omega, (by simp +decide (disch := first | assumption | (apply GH.ok_push; assumption) | exact cellV_int _ _ | exact cellV_bool _ | omega) only [go_sem, ↓reduceIte, Nat.reduceEqDiff, Nat.reduceAdd, Int.reduceToNat, he]; first | done | exact rfl), rfl⟩
          · rintro e2 g2 lo2 - - ⟨rfl, hlo2, he2, h2⟩
            simp +decide (disch := first | assumption | (apply GH.ok_push; assumption) | exact cellV_int _ _ | exact cellV_bool _ | omega) only [go_sem, ↓reduceIte, Nat.reduceEqDiff, Nat.reduceAdd, Int.reduceToNat, he2]
            refine ih (m - 1) _ _ _ (by omega) ⟨rfl, hlo2, i + 1, by omega, (by simp +decide (disch := first | assumption | (apply GH.ok_push; assumption) | exact cellV_int _ _ | exact cellV_bool _ | omega) only [go_sem, ↓reduceIte, Nat.reduceEqDiff, Nat.reduceAdd, Int.reduceToNat, he2]; first | done | exact rfl), ?_⟩
            rw [take_snoc' A i R hAi, take_snoc' B i S hBi, hp, h2]
          · rintro m2 e2 g2 lo2 ho2 hl2 ih2 out2 ⟨rfl, hlo2, k, hk, he2, hp3⟩
            by_cases ck : k < R.length
            · have ck' : (k : Int) < S.length := by omega
              obtain ⟨j3, o3, hj3, hu1, hu2⟩ := hv.ptr (ints_get (D := R) (i := k) ck)
              have hu1 := hu1 (k : Int) rfl
              obtain ⟨j4, o4, hj4, hw1, hw2⟩ := hw.ptr (ints_get (D := S) (i := k) (by omega))
              have hw1 := hw1 (k : Int) rfl
              by_cases d : R.getD k 0 = S.getD k 0
              · simp +decide (disch := first | assumption | (apply GH.ok_push; assumption) | exact cellV_int _ _ | exact cellV_bool _ | omega) only [go_sem, ↓reduceIte, Nat.reduceEqDiff, Nat.reduceAdd, Int.reduceToNat, he2, hp1, hp2, hq1, hq2, hvl, cl, ck', hu1, hu2, hw1, hw2, d]
                refine ih2 (m2 - 1) _ _ _ (by omega) ⟨rfl, hlo2, k + 1, by omega, (by simp +decide (disch := first | assumption | (apply GH.ok_push; assumption) | exact cellV_int _ _ | exact cellV_bool _ | omega) only [go_sem, ↓reduceIte, Nat.reduceEqDiff, Nat.reduceAdd, Int.reduceToNat, he2]; first | done | exact rfl), ?_⟩
                rw [take_snoc R k ck, take_snoc S k (by omega), hp3, d]
              · simp +decide (disch := first | assumption | (apply GH.ok_push; assumption) | exact cellV_int _ _ | exact cellV_bool _ | omega) only [go_sem, ↓reduceIte, Nat.reduceEqDiff, Nat.reduceAdd, Int.reduceToNat, he2, hp1, hp2, hq1, hq2, hvl, cl, ck', hu1, hu2, hw1, hw2, d]
                intro hx
                exact ⟨hlo2, by rw [decide_eq_false (bad fun h => d (by rw [h]))]⟩
            · have ck' : ¬ (k : Int) < S.length := by omega
              simp +decide (disch := first | assumption | (apply GH.ok_push; assumption) | exact cellV_int _ _ | exact cellV_bool _ | omega) only [go_sem, ↓reduceIte, Nat.reduceEqDiff, Nat.reduceAdd, Int.reduceToNat, he2, hp1, hp2, hvl, cl, ck']
              rw [List.take_of_length_le (by omega), List.take_of_length_le (by omega)] at hp3
              exact out2 _ _ _ ⟨rfl, hlo2, (by simp +decide (disch := first | assumption | (apply GH.ok_push; assumption) | exact cellV_int _ _ | exact cellV_bool _ | omega) only [go_sem, ↓reduceIte, Nat.reduceEqDiff, Nat.reduceAdd, Int.reduceToNat, he2]; first | done | exact rfl), hp3⟩
      · have ci' : ¬ (i : Int) < B.length := by omega
        simp +decide (disch := first | assumption | (apply GH.ok_push; assumption) | exact cellV_int _ _ | exact cellV_bool _ | omega) only [go_sem, ↓reduceIte, Nat.reduceEqDiff, Nat.reduceAdd, Int.reduceToNat, he, hls, c, ci']
        rw [List.take_of_length_le (by omega), List.take_of_length_le (by omega)] at hp
        exact out _ _ _ ⟨rfl, hlo, hp⟩
end Go.Proofs.YtngmaccaldhjcaaDoor
set_option maxRecDepth 100000
set_option maxHeartbeats 4000000
set_option linter.unusedSimpArgs false
set_option linter.unusedVariables false
namespace Go.Proofs.YtngmaccaldhjcaaDoor
open Go.Ds
/-! ## Sets by their members -/
def maskP (p : Nat → Bool) : Nat → Nat
  | 0 => 0
  | i + 1 => maskP p i + if p i = true then 2 ^ i else 0
theorem maskP_same {p q : Nat → Bool} : ∀ n, (∀ i, i < n → p i = q i) → maskP p n = maskP q n
  | 0, _ => rfl
  | n + 1, h => by unfold maskP; rw [maskP_same n fun i hi => h i (by omega), h n (by omega)]
theorem maskP_none {p : Nat → Bool} : ∀ n, (∀ i, i < n → p i = false) → maskP p n = 0
  | 0, _ => rfl
  | n + 1, h => by unfold maskP; rw [maskP_none n fun i hi => h i (by omega), h n (by omega)]; rfl
theorem maskP_pos {p : Nat → Bool} : ∀ n i, i < n → p i = true → 1 ≤ maskP p n
  | 0, i, h, _ => by omega
  | n + 1, i, h, hp => by
    unfold maskP
    by_cases c : i = n
    · subst c
      rw [if_pos hp]
      have := Nat.two_pow_pos i
      omega
    · have := maskP_pos n i (by omega) hp
      omega
theorem fashF_mask (x : Nat → Int) : ∀ n, fashF x n = maskP (fun i => decide (0 < x i)) n
  | 0 => rfl
  | n + 1 => by
    unfold fashF maskP
    rw [fashF_mask x n]
    by_cases c : 0 < x n
    · rw [if_pos c, if_pos (decide_eq_true c)]
    · rw [if_neg c, if_neg (by simpa using c)]
theorem best_mask (f : Nat → Int) : ∀ n, 1 ≤ n → ∃ mx, (∀ i, i < n → f i ≤ mx) ∧ (∃ i, i < n ∧ f i = mx) ∧ bestS f n = (maskP (fun i => decide (f i = mx)) n, mx)
  | 0, h => by omega
  | n + 1, _ => by
    by_cases c0 : n = 0
    · subst c0
      refine ⟨f 0, fun i hi => by rw [show i = 0 by omega]; exact Int.le_refl _, ⟨0, by omega, rfl⟩, ?_⟩
      unfold bestS stepB maskP
      rw [if_pos (.inl rfl)]
      simp [maskP]
    · obtain ⟨mx, h1, ⟨j, hj, h2⟩, h3⟩ := best_mask f n (by omega)
      have hp := maskP_pos (p := fun i => decide (f i = mx)) n j hj (by simpa using h2)
      have e : bestS f (n + 1) = stepB (bestS f n) n (f n) := rfl
      rw [e, h3]
      unfold stepB
      by_cases c1 : mx < f n
      · rw [if_pos (.inr c1)]
        refine ⟨f n, fun i hi => ?_, ⟨n, by omega, rfl⟩, ?_⟩
        · by_cases ci : i = n
          · rw [ci]; exact Int.le_refl _
          · have := h1 i (by omega); omega
        · unfold maskP
          rw [maskP_none n fun i hi => by have := h1 i hi; simp; omega]
          simp
      · rw [if_neg (by show ¬ (maskP _ n = 0 ∨ mx < f n); omega)]
        refine ⟨mx, fun i hi => ?_, ⟨j, by omega, h2⟩, ?_⟩
        · by_cases ci : i = n
          · rw [ci]; omega
          · exact h1 i (by omega)
        · by_cases c2 : f n = mx
          · rw [if_pos (show f n = mx from c2)]
            show (maskP _ n + 2 ^ n, mx) = (maskP _ n + (if decide (f n = mx) = true then 2 ^ n else 0), mx)
            rw [if_pos (decide_eq_true c2)]
          · rw [if_neg (show ¬ f n = mx from c2)]
            show (maskP _ n, mx) = (maskP _ n + (if decide (f n = mx) = true then 2 ^ n else 0), mx)
            rw [if_neg (by simpa using c2)]
            rfl
theorem maskP_bit (p : Nat → Bool) {n i : Nat} (hn : n ≤ 3) (hi : i < n) : (maskP p n / 2 ^ i % 2 = 1) ↔ p i = true := by
  have key : ∀ a b c : Bool, ∀ n, n ≤ 3 → ∀ i, i < n → ((maskP (fun j => if j = 0 then a else if j = 1 then b else c) n / 2 ^ i % 2 = 1) ↔ (if i = 0 then a else if i = 1 then b else c) = true) := by decide
  have h := key (p 0) (p 1) (p 2) n hn i hi
  have e : maskP p n = maskP (fun j => if j = 0 then p 0 else if j = 1 then p 1 else p 2) n := maskP_same n fun j hj => by
    obtain rfl | rfl | rfl : j = 0 ∨ j = 1 ∨ j = 2 := by omega
    all_goals rfl
  rw [e, h]
  obtain rfl | rfl | rfl : i = 0 ∨ i = 1 ∨ i = 2 := by omega
  all_goals rfl
theorem andn_mask (p q : Nat → Bool) {n : Nat} (hn : n ≤ 3) : andn (maskP p 3) (maskP q n) = 0 ↔ ∀ i, i < 3 → p i = true → i < n ∧ q i = true := by
  have key : ∀ a b c d e f : Bool, ∀ n, n ≤ 3 → (andn (maskP (fun j => if j = 0 then a else if j = 1 then b else c) 3) (maskP (fun j => if j = 0 then d else if j = 1 then e else f) n) = 0 ↔ ∀ i, i < 3 → (if i = 0 then a else if i = 1 then b else c) = true → i < n ∧ (if i = 0 then d else if i = 1 then e else f) = true) := by decide
  have h := key (p 0) (p 1) (p 2) (q 0) (q 1) (q 2) n hn
  have e : ∀ (p : Nat → Bool) (n : Nat), n ≤ 3 → maskP p n = maskP (fun j => if j = 0 then p 0 else if j = 1 then p 1 else p 2) n := fun p n hn => maskP_same n fun j hj => by
    obtain rfl | rfl | rfl : j = 0 ∨ j = 1 ∨ j = 2 := by omega
    all_goals rfl
  rw [e p 3 (by omega), e q n hn, h]
  constructor
  · intro h i hi hp
    have := h i hi
    obtain rfl | rfl | rfl : i = 0 ∨ i = 1 ∨ i = 2 := by omega
    all_goals exact this hp
  · intro h i hi hp
    have := h i hi
    obtain rfl | rfl | rfl : i = 0 ∨ i = 1 ∨ i = 2 := by omega
    all_goals exact this hp
/-! ## Ratios -/
theorem low_facts (a : Int) {b : Int} (hb : 0 < b) : ∃ g : Int, 0 < g ∧ a = lowN a b * g ∧ b = lowD a b * g ∧ 0 < lowD a b ∧ lowD a b ≤ b := by
  unfold lowN lowD
  have hg := Nat.gcd_pos_of_pos_left a.natAbs (show 0 < b.natAbs by omega)
  obtain ⟨G, hG⟩ : ∃ G, Nat.gcd b.natAbs a.natAbs = G := ⟨_, rfl⟩
  have d1 : (G : Int) ∣ a := by rw [← hG]; exact Int.ofNat_dvd_left.2 (Nat.gcd_dvd_right _ _)
  have d2 : (G : Int) ∣ b := by rw [← hG]; exact Int.ofNat_dvd_left.2 (Nat.gcd_dvd_left _ _)
  rw [hG] at hg ⊢
  have e1 := Int.tdiv_mul_cancel d1
  have e2 := Int.tdiv_mul_cancel d2
  have hp : 0 < b.tdiv (G : Int) := by
    rcases Int.lt_or_le 0 (b.tdiv (G : Int)) with h | h
    · exact h
    · have := Int.mul_nonpos_of_nonpos_of_nonneg h (show (0 : Int) ≤ G by omega)
      omega
  refine ⟨G, by omega, e1.symm, e2.symm, hp, ?_⟩
  have := Int.mul_le_mul_of_nonneg_left (show (1 : Int) ≤ G by omega) (show 0 ≤ b.tdiv (G : Int) by omega)
  omega
theorem low_lt {a b a' b' : Int} (hb : 0 < b) (hb' : 0 < b') : (lowN a' b' * lowD a b < lowN a b * lowD a' b') ↔ a' * b < a * b' := by
  obtain ⟨g, g0, e1, e2, _⟩ := low_facts a hb
  obtain ⟨g', g0', e1', e2', _⟩ := low_facts a' hb'
  obtain ⟨p, hp⟩ : ∃ p, lowN a b = p := ⟨_, rfl⟩
  obtain ⟨q, hq⟩ : ∃ q, lowD a b = q := ⟨_, rfl⟩
  obtain ⟨p', hp'⟩ : ∃ p', lowN a' b' = p' := ⟨_, rfl⟩
  obtain ⟨q', hq'⟩ : ∃ q', lowD a' b' = q' := ⟨_, rfl⟩
  rw [hp] at e1 ⊢
  rw [hq] at e2 ⊢
  rw [hp'] at e1' ⊢
  rw [hq'] at e2' ⊢
  have hk := Int.mul_pos g0 g0'
  have i1 : a' * b = p' * q * (g * g') := by rw [e1', e2]; grind
  have i2 : a * b' = p * q' * (g * g') := by rw [e1, e2']; grind
  rw [i1, i2]
  exact (Int.mul_lt_mul_right hk).symm
theorem low_sm {a b B : Int} (hb : 0 < b) (ha : Sm B a) : Sm B (lowN a b) := by
  unfold Sm at *
  have := Int.natAbs_tdiv_le_natAbs a ((Nat.gcd b.natAbs a.natAbs : Nat) : Int)
  have e : lowN a b = a.tdiv ((Nat.gcd b.natAbs a.natAbs : Nat) : Int) := rfl
  rw [← e] at this
  omega
/-! ## Gains of mixtures -/
def rowT (T : List (List Int)) (L : List Int) : Nat → Int := rowG (te T 0 0) (te T 0 1) (te T 0 2) (te T 1 0) (te T 1 1) (te T 1 2) (te T 2 0) (te T 2 1) (te T 2 2) (ne L 0) (ne L 1) (ne L 2)
theorem gT_rows (T : List (List Int)) (P L : List Int) : gT T (ne P 0) (ne P 1) (ne P 2) (ne L 0) (ne L 1) (ne L 2) = ne P 0 * rowT T L 0 + ne P 1 * rowT T L 1 + ne P 2 * rowT T L 2 := by
  unfold gT gainZ rowT rowG v3
  grind
theorem mix_sum {n : Nat} {L : List Int} {d : Int} (h : mixB n L d = true) : ne L 0 + ne L 1 + ne L 2 = d := by
  obtain ⟨a1, a2, a3, a4, a5, a6, a7, a8⟩ := mix_facts h
  rw [← a7]
  match L, a3, (show L.length = 1 ∨ L.length = 2 ∨ L.length = 3 by omega) with
  | [a], _, _ => simp [ne, sumL]
  | [a, b], _, _ => simp [ne, sumL]
  | [a, b, c], _, _ => simp [ne, sumL]
theorem ne_out {L : List Int} {i : Nat} (h : L.length ≤ i) : ne L i = 0 := by
  unfold ne
  rw [List.getD_eq_getElem?_getD, List.getElem?_eq_none h]; rfl
theorem row_bound {T : List (List Int)} (hT : tabB T = true) {n : Nat} {L : List Int} {d : Int} (h : mixB n L d = true) (i : Nat) : Sm (20 * d) (rowT T L i) := by
  have hs := mix_sum h
  obtain ⟨a1, a2, a3, a4, a5, a6, a7, a8⟩ := mix_facts h
  have key : ∀ (m0 m1 m2 x0 x1 x2 : Int), Sm 20 m0 → Sm 20 m1 → Sm 20 m2 → 0 ≤ x0 → 0 ≤ x1 → 0 ≤ x2 → Sm (20 * (x0 + x1 + x2)) (m0 * x0 + m1 * x1 + m2 * x2) := by
    intro m0 m1 m2 x0 x1 x2 h0 h1 h2 p0 p1 p2
    unfold Sm at *
    have u0 := Int.mul_nonneg (show 0 ≤ 20 - m0 by omega) p0
    have u1 := Int.mul_nonneg (show 0 ≤ 20 - m1 by omega) p1
    have u2 := Int.mul_nonneg (show 0 ≤ 20 - m2 by omega) p2
    have w0 := Int.mul_nonneg (show 0 ≤ 20 + m0 by omega) p0
    have w1 := Int.mul_nonneg (show 0 ≤ 20 + m1 by omega) p1
    have w2 := Int.mul_nonneg (show 0 ≤ 20 + m2 by omega) p2
    constructor <;> grind
  rw [← hs]
  have k0 := key _ _ _ (ne L 0) (ne L 1) (ne L 2) (te_sm hT 0 0) (te_sm hT 0 1) (te_sm hT 0 2) (a6 0).1 (a6 1).1 (a6 2).1
  have k1 := key _ _ _ (ne L 0) (ne L 1) (ne L 2) (te_sm hT 1 0) (te_sm hT 1 1) (te_sm hT 1 2) (a6 0).1 (a6 1).1 (a6 2).1
  have k2 := key _ _ _ (ne L 0) (ne L 1) (ne L 2) (te_sm hT 2 0) (te_sm hT 2 1) (te_sm hT 2 2) (a6 0).1 (a6 1).1 (a6 2).1
  unfold rowT rowG
  match i with
  | 0 => exact k0
  | 1 => exact k1
  | 2 => exact k2
  | i + 3 =>
    show Sm _ 0
    have h0 := a6 0
    have h1 := a6 1
    have h2 := a6 2
    unfold Sm; omega
theorem gT_bound {T : List (List Int)} (hT : tabB T = true) {n : Nat} {P L : List Int} {f d : Int} (hP : mixB n P f = true) (hL : mixB n L d = true) : Sm (20 * d * f) (gT T (ne P 0) (ne P 1) (ne P 2) (ne L 0) (ne L 1) (ne L 2)) := by
  rw [gT_rows, ← mix_sum hP]
  obtain ⟨b1, b2, b3, b4, b5, b6, b7, b8⟩ := mix_facts hP
  have key : ∀ (B r0 r1 r2 x0 x1 x2 : Int), Sm B r0 → Sm B r1 → Sm B r2 → 0 ≤ x0 → 0 ≤ x1 → 0 ≤ x2 → Sm (B * (x0 + x1 + x2)) (x0 * r0 + x1 * r1 + x2 * r2) := by
    intro B m0 m1 m2 x0 x1 x2 h0 h1 h2 p0 p1 p2
    unfold Sm at *
    have u0 := Int.mul_nonneg (show 0 ≤ B - m0 by omega) p0
    have u1 := Int.mul_nonneg (show 0 ≤ B - m1 by omega) p1
    have u2 := Int.mul_nonneg (show 0 ≤ B - m2 by omega) p2
    have w0 := Int.mul_nonneg (show 0 ≤ B + m0 by omega) p0
    have w1 := Int.mul_nonneg (show 0 ≤ B + m1 by omega) p1
    have w2 := Int.mul_nonneg (show 0 ≤ B + m2 by omega) p2
    constructor <;> grind
  exact key _ _ _ _ _ _ _ (row_bound hT hL 0) (row_bound hT hL 1) (row_bound hT hL 2) (b6 0).1 (b6 1).1 (b6 2).1
end Go.Proofs.YtngmaccaldhjcaaDoor
set_option maxRecDepth 100000
set_option maxHeartbeats 8000000
set_option linter.unusedSimpArgs false
set_option linter.unusedVariables false
namespace Go.Proofs.YtngmaccaldhjcaaDoor
open Go.Ds
/-! ## Ratios of the laws -/
def SoundR (a b : Int) : Prop := 1 ≤ b ∧ b ≤ 100000000 ∧ -2000000000 ≤ a ∧ a ≤ 2000000000
theorem sound1_rets {X : Caller} (hX : Xok X) (a b : Int) (h : SoundR a b) (j : Nat) (ty : TypeId) (g : GH) (hj : j < g.next) (hg : g.get j = cellsOb [.int .i64 a, .int .i64 b] ty) :
    Rets Tryd.prog X 41 [.slice (some ⟨j, 0, none⟩) 1 1] g (fun v g' lo => g.next ≤ lo ∧ v = .bool true) := by
  have hia : iaddrSF 2 (.slice (some ⟨j, 0, none⟩) 1 1) (.int .i64 0) = some (.pointer (some ⟨j, 0, none⟩)) := rfl
  obtain ⟨h1, h2, h3, h4⟩ := h
  have c1 : ¬ b < 1 := by omega
  have c2 : ¬ 100000000 < b := by omega
  have c3 : ¬ a < -2000000000 := by omega
  have c4 : ¬ 2000000000 < a := by omega
  refine Rets.run hX.pres p41 (hX.free 41 (by decide) _ _) rfl fun ho => ?_
  simp +decide (disch := first | assumption | exact cellV_int _ _ | exact cellV_bool _ | omega | (simp only [GH.pn, GH.sn] <;> omega) | (with_reducible ((repeat (first | apply GH.ok_push | apply GH.ok_set)); assumption)) | ((try simp only [GH.push_hid, GH.set_hid]); refine GH.vis ?_ ?_ <;> first | assumption | ((try simp only [GH.pn, GH.sn]) <;> omega))) only [go_sem, ↓reduceIte, Nat.reduceEqDiff, Nat.reduceAdd, Int.reduceToNat, Int.reduceAdd, Int.reduceNeg, Int.reduceSub, Int.reduceMul, Int.reduceLT, Int.reduceLE, Int.reduceEq, ↓GH.gp_eq, ↓GH.gp_ne, ↓GH.gs_eq, ↓GH.gs_ne, GH.push_next, GH.set_next]
  repeat ((first | refine Wk.once ?_ | refine Wk.more (Wk.once ?_) | refine Wk.leave ?_); simp +decide (disch := first | assumption | exact cellV_int _ _ | exact cellV_bool _ | omega | (simp only [GH.pn, GH.sn] <;> omega) | (with_reducible ((repeat (first | apply GH.ok_push | apply GH.ok_set)); assumption)) | ((try simp only [GH.push_hid, GH.set_hid]); refine GH.vis ?_ ?_ <;> first | assumption | ((try simp only [GH.pn, GH.sn]) <;> omega))) only [go_sem, ↓reduceIte, Nat.reduceEqDiff, Nat.reduceAdd, Int.reduceToNat, Int.reduceAdd, Int.reduceNeg, Int.reduceSub, Int.reduceMul, Int.reduceLT, Int.reduceLE, Int.reduceEq, ↓GH.gp_eq, ↓GH.gp_ne, ↓GH.gs_eq, ↓GH.gs_ne, GH.push_next, GH.set_next, hia, hg, c1, c2, c3, c4])
  intro hx
  exact ⟨Nat.le_refl _, rfl⟩
theorem sound2_rets {X : Caller} (hX : Xok X) (a b c d : Int) (h : SoundR a b) (k : SoundR c d) (j : Nat) (ty : TypeId) (g : GH) (hj : j < g.next) (hg : g.get j = cellsOb [.int .i64 a, .int .i64 b, .int .i64 c, .int .i64 d] ty) :
    Rets Tryd.prog X 41 [.slice (some ⟨j, 0, none⟩) 2 2] g (fun v g' lo => g.next ≤ lo ∧ v = .bool true) := by
  have hia : iaddrSF 2 (.slice (some ⟨j, 0, none⟩) 2 2) (.int .i64 0) = some (.pointer (some ⟨j, 0, none⟩)) := rfl
  have hib : iaddrSF 2 (.slice (some ⟨j, 0, none⟩) 2 2) (.int .i64 1) = some (.pointer (some ⟨j, 2, none⟩)) := by
    show some (Value.pointer (some ((⟨j, 0, none⟩ : Addr).add 2))) = _
    unfold Addr.add; rfl
  obtain ⟨h1, h2, h3, h4⟩ := h
  obtain ⟨k1, k2, k3, k4⟩ := k
  have c1 : ¬ b < 1 := by omega
  have c2 : ¬ 100000000 < b := by omega
  have c3 : ¬ a < -2000000000 := by omega
  have c4 : ¬ 2000000000 < a := by omega
  have e1 : ¬ d < 1 := by omega
  have e2 : ¬ 100000000 < d := by omega
  have e3 : ¬ c < -2000000000 := by omega
  have e4 : ¬ 2000000000 < c := by omega
  refine Rets.run hX.pres p41 (hX.free 41 (by decide) _ _) rfl fun ho => ?_
  simp +decide (disch := first | assumption | exact cellV_int _ _ | exact cellV_bool _ | omega | (simp only [GH.pn, GH.sn] <;> omega) | (with_reducible ((repeat (first | apply GH.ok_push | apply GH.ok_set)); assumption)) | ((try simp only [GH.push_hid, GH.set_hid]); refine GH.vis ?_ ?_ <;> first | assumption | ((try simp only [GH.pn, GH.sn]) <;> omega))) only [go_sem, ↓reduceIte, Nat.reduceEqDiff, Nat.reduceAdd, Int.reduceToNat, Int.reduceAdd, Int.reduceNeg, Int.reduceSub, Int.reduceMul, Int.reduceLT, Int.reduceLE, Int.reduceEq, ↓GH.gp_eq, ↓GH.gp_ne, ↓GH.gs_eq, ↓GH.gs_ne, GH.push_next, GH.set_next]
  repeat ((first | refine Wk.once ?_ | refine Wk.more (Wk.once ?_) | refine Wk.leave ?_); simp +decide (disch := first | assumption | exact cellV_int _ _ | exact cellV_bool _ | omega | (simp only [GH.pn, GH.sn] <;> omega) | (with_reducible ((repeat (first | apply GH.ok_push | apply GH.ok_set)); assumption)) | ((try simp only [GH.push_hid, GH.set_hid]); refine GH.vis ?_ ?_ <;> first | assumption | ((try simp only [GH.pn, GH.sn]) <;> omega))) only [go_sem, ↓reduceIte, Nat.reduceEqDiff, Nat.reduceAdd, Int.reduceToNat, Int.reduceAdd, Int.reduceNeg, Int.reduceSub, Int.reduceMul, Int.reduceLT, Int.reduceLE, Int.reduceEq, ↓GH.gp_eq, ↓GH.gp_ne, ↓GH.gs_eq, ↓GH.gs_ne, GH.push_next, GH.set_next, hia, hib, hg, c1, c2, c3, c4, e1, e2, e3, e4])
  intro hx
  exact ⟨Nat.le_refl _, rfl⟩
theorem above_rets {X : Caller} (hX : Xok X) (a b c d : Int) (h : SoundR a b) (k : SoundR c d) (g : GH) :
    Rets Tryd.prog X 43 [.agg #[.int .i64 a, .int .i64 b], .agg #[.int .i64 c, .int .i64 d]] g (fun v g' lo => g.next ≤ lo ∧ v = .bool (decide (c * b < a * d))) := by
  have p1 : Sm 200000000000000000 (c * b) := (Sm.mul (b := 2000000000) (d := 100000000) (by unfold SoundR at *; unfold Sm; omega) (by unfold SoundR at *; unfold Sm; omega)).up (by decide)
  have p2 : Sm 200000000000000000 (a * d) := (Sm.mul (b := 2000000000) (d := 100000000) (by unfold SoundR at *; unfold Sm; omega) (by unfold SoundR at *; unfold Sm; omega)).up (by decide)
  unfold Sm at p1 p2
  refine Rets.run hX.pres p43 (hX.free 43 (by decide) _ _) rfl fun ho => ?_
  simp +decide (disch := first | assumption | exact cellV_int _ _ | exact cellV_bool _ | omega | (simp only [GH.pn, GH.sn] <;> omega) | (with_reducible ((repeat (first | apply GH.ok_push | apply GH.ok_set)); assumption)) | ((try simp only [GH.push_hid, GH.set_hid]); refine GH.vis ?_ ?_ <;> first | assumption | ((try simp only [GH.pn, GH.sn]) <;> omega))) only [go_sem, ↓reduceIte, Nat.reduceEqDiff, Nat.reduceAdd, Int.reduceToNat, Int.reduceAdd, Int.reduceNeg, Int.reduceSub, Int.reduceMul, Int.reduceLT, Int.reduceLE, Int.reduceEq, ↓GH.gp_eq, ↓GH.gp_ne, ↓GH.gs_eq, ↓GH.gs_ne, GH.push_next, GH.set_next]
  intro hx
  exact ⟨Nat.le_refl _, rfl⟩
theorem shl_fact (k : Nat) (hk : k ≤ 3) : wrapF .i64 (1 * Int.ofNat (Nat.pow 2 (min (k : Int).toNat 64))) = ((2 ^ k : Nat) : Int) := shl_one (by omega)
theorem shr_fact (t k : Nat) (hk : k ≤ 60) : (t : Int).fdiv (Int.ofNat (Nat.pow 2 (min (k : Int).toNat 64))) = ((t / 2 ^ k : Nat) : Int) := by
  have e : min (k : Int).toNat 64 = k := by omega
  rw [e]
  exact (Int.ofNat_fdiv t (2 ^ k)).symm
theorem shr_rem (t k : Nat) (hk : k ≤ 60) : ((t : Int).fdiv (Int.ofNat (Nat.pow 2 (min (k : Int).toNat 64)))).tmod 2 = ((t / 2 ^ k % 2 : Nat) : Int) := by
  rw [shr_fact t k hk]; rfl
theorem unit_mix : ∀ n : Nat, n ≤ 3 → ∀ j, j < n → mixB n (unitL n j) 1 = true := by decide
/-! ## What rest is -/
theorem rest_facts {T : List (List Int)} (hT : tabB T = true) {L : List Int} {d : Int} (h : mixB T.length L d = true) : ∃ mx : Int, 1 ≤ bestT T L ∧ bestT T L < 2 ^ T.length ∧ Sm (20 * d) mx ∧ (∀ i, i < T.length → rowT T L i ≤ mx) ∧ (∀ j, j < T.length → (bestT T L / 2 ^ j % 2 = 1 ↔ rowT T L j = mx)) ∧
    (restB T L = true → gT T (ne L 0) (ne L 1) (ne L 2) (ne L 0) (ne L 1) (ne L 2) = mx * d) ∧ (restB T L = false → gT T (ne L 0) (ne L 1) (ne L 2) (ne L 0) (ne L 1) (ne L 2) < mx * d) ∧
    (∀ (P : List Int) (f : Int), mixB T.length P f = true → gT T (ne P 0) (ne P 1) (ne P 2) (ne L 0) (ne L 1) (ne L 2) ≤ mx * f) := by
  obtain ⟨t1, t2, t3⟩ := tab_len hT
  obtain ⟨mx, h1, ⟨j, hj, h2⟩, h3⟩ := best_mask (rowT T L) T.length t1
  have hb : bestT T L = maskP (fun i => decide (rowT T L i = mx)) T.length := by
    show (bestS (rowT T L) T.length).1 = _
    rw [h3]
  obtain ⟨a1, a2, a3, a4, a5, a6, a7, a8⟩ := mix_facts h
  have hrest : restB T L = true ↔ ∀ i, i < 3 → 0 < v3 (ne L 0) (ne L 1) (ne L 2) i → i < T.length ∧ rowT T L i = mx := by
    unfold restB
    rw [hb, fashF_mask, decide_eq_true_iff, andn_mask _ _ t2]
    simp only [decide_eq_true_eq]
  have zero : ∀ (P : List Int), P.length = T.length → ∀ i, T.length ≤ i → ne P i = 0 := fun P hP i hi => ne_out (by omega)
  have le_mul : ∀ (x r m : Int), 0 ≤ x → r ≤ m → x * r ≤ x * m := fun x r m p q => Int.mul_le_mul_of_nonneg_left q p
  have term : ∀ (P : List Int), P.length = T.length → (∀ i, 0 ≤ ne P i) → ∀ i, ne P i * rowT T L i ≤ ne P i * mx := by
    intro P hP hp i
    by_cases c : i < T.length
    · exact le_mul _ _ _ (hp i) (h1 i c)
    · rw [zero P hP i (by omega)]; simp
  refine ⟨mx, by rw [hb]; exact maskP_pos _ j hj (by simpa using h2), bestS_lt _ _, by rw [← h2]; exact row_bound hT h j, h1, fun i hi => by rw [hb, maskP_bit _ t2 hi]; simp, fun hr => ?_, fun hr => ?_, fun P f hP => ?_⟩
  · rw [gT_rows, ← mix_sum h]
    have e : ∀ i, i < 3 → ne L i * rowT T L i = ne L i * mx := by
      intro i hi
      have := hrest.1 hr i hi
      have hv : v3 (ne L 0) (ne L 1) (ne L 2) i = ne L i := by
        obtain rfl | rfl | rfl : i = 0 ∨ i = 1 ∨ i = 2 := by omega
        all_goals rfl
      rw [hv] at this
      by_cases c : 0 < ne L i
      · rw [(this c).2]
      · have := (a6 i).1
        rw [show ne L i = 0 by omega]; simp
    rw [e 0 (by omega), e 1 (by omega), e 2 (by omega)]
    grind
  · have hn : ¬ ∀ i, i < 3 → 0 < v3 (ne L 0) (ne L 1) (ne L 2) i → i < T.length ∧ rowT T L i = mx := fun hh => by
      rw [hrest.2 hh] at hr; cases hr
    have ⟨i, hi, hp, hne⟩ : ∃ i, i < 3 ∧ 0 < ne L i ∧ rowT T L i ≠ mx := by
      apply Classical.byContradiction
      intro hno
      apply hn
      intro i hi hp
      have hv : v3 (ne L 0) (ne L 1) (ne L 2) i = ne L i := by
        obtain rfl | rfl | rfl : i = 0 ∨ i = 1 ∨ i = 2 := by omega
        all_goals rfl
      rw [hv] at hp
      refine ⟨?_, ?_⟩
      · rcases Nat.lt_or_ge i T.length with q | q
        · exact q
        · have := zero L a3 i q; omega
      · apply Classical.byContradiction
        intro hq
        exact hno ⟨i, hi, hp, hq⟩
    rw [gT_rows, ← mix_sum h]
    have q0 := term L a3 (fun i => (a6 i).1) 0
    have q1 := term L a3 (fun i => (a6 i).1) 1
    have q2 := term L a3 (fun i => (a6 i).1) 2
    have hlt : rowT T L i < mx := by
      have : i < T.length := by
        rcases Nat.lt_or_ge i T.length with q | q
        · exact q
        · have := zero L a3 i q; omega
      have := h1 i this
      omega
    have qs : ne L i * rowT T L i < ne L i * mx := Int.mul_lt_mul_of_pos_left hlt hp
    have : mx * (ne L 0 + ne L 1 + ne L 2) = ne L 0 * mx + ne L 1 * mx + ne L 2 * mx := by grind
    rw [this]
    obtain rfl | rfl | rfl : i = 0 ∨ i = 1 ∨ i = 2 := by omega
    all_goals omega
  · obtain ⟨b1, b2, b3, b4, b5, b6, b7, b8⟩ := mix_facts hP
    rw [gT_rows, ← mix_sum hP]
    have q0 := term P b3 (fun i => (b6 i).1) 0
    have q1 := term P b3 (fun i => (b6 i).1) 1
    have q2 := term P b3 (fun i => (b6 i).1) 2
    have : mx * (ne P 0 + ne P 1 + ne P 2) = ne P 0 * mx + ne P 1 * mx + ne P 2 * mx := by grind
    rw [this]
    omega
end Go.Proofs.YtngmaccaldhjcaaDoor
