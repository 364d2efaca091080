import Derived.Test.YtnpapnpedcbfnaaDoorJ2
set_option linter.all false
set_option linter.unusedSimpArgs false
set_option linter.unnecessarySimpa false
set_option linter.unusedVariables false
set_option linter.unusedSectionVars false
set_option linter.unusedVariables false
namespace Go.Proofs.YtnpapnpedcbfnaaDoor
open Go.Vs
/-! ## Pairs that are a matching -/
theorem scan_mat {L : List Int} : ∀ (P : List (Int × Int)) (last : Int) (tk s : Nat), -1 ≤ last → (∀ j, s.testBit j = (decide (j < L.length) && decide (last < (j : Int)) && !tk.testBit j)) → scanM L P last tk = true → ∃ Q, P = toI Q ∧ mat (setF L) s Q = true
  | [], last, tk, s, _, _, _ => ⟨[], rfl, rfl⟩
  | (x, y) :: P, last, tk, s, hl, hs, h => by
    have h : (goodP L last tk x y && scanM L P x (tk ||| 2 ^ x.toNat ||| 2 ^ y.toNat)) = true := h
    rw [Bool.and_eq_true] at h
    obtain ⟨h1, h2⟩ := h
    unfold goodP at h1
    simp only [Bool.and_eq_true, decide_eq_true_eq, Bool.not_eq_true'] at h1
    obtain ⟨⟨⟨⟨⟨q1, q2⟩, q3⟩, q4⟩, q5⟩, q6⟩ := h1
    obtain ⟨a, rfl⟩ : ∃ a : Nat, x = a := ⟨x.toNat, by omega⟩
    obtain ⟨b, rfl⟩ : ∃ b : Nat, y = b := ⟨y.toNat, by omega⟩
    simp only [Int.toNat_natCast] at q4 q5 q6 h2
    obtain ⟨Q, hQ, hm⟩ := scan_mat P a (tk ||| 2 ^ a ||| 2 ^ b) (del (up s a) b) (by omega) (fun j => by
      rw [del_bit, up_bit, hs, Nat.testBit_or, Nat.testBit_or]
      by_cases c1 : j < L.length
      · by_cases c2 : a < j
        · have e1 : (2 ^ a).testBit j = false := Nat.testBit_two_pow_of_ne (by omega)
          rw [decide_eq_true c1, decide_eq_true (p := last < (j : Int)) (by omega), decide_eq_true c2, decide_eq_true (p := (a : Int) < j) (by omega), e1]
          by_cases c3 : j = b
          · subst c3; rw [Nat.testBit_two_pow_self]; simp
          · rw [Nat.testBit_two_pow_of_ne (Ne.symm c3)]; simp [c3]
        · rw [decide_eq_false c2, decide_eq_false (p := (a : Int) < j) (by omega)]; simp
      · rw [decide_eq_false c1]; simp) h2
    refine ⟨(a, b) :: Q, by rw [hQ]; rfl, mat_mk (by omega) ?_ ?_ q4 hm⟩
    · rw [hs, q5, decide_eq_true (p := a < L.length) (by omega), decide_eq_true (p := last < (a : Int)) (by omega)]; rfl
    · rw [hs, q6, decide_eq_true (p := b < L.length) (by omega), decide_eq_true (p := last < (b : Int)) (by omega)]; rfl
theorem matI_mat {L : List Int} {P : List (Int × Int)} (h : matI L P = true) : ∃ Q, P = toI Q ∧ mat (setF L) (allN L.length) Q = true :=
  scan_mat P (-1) 0 (allN L.length) (by omega) (fun j => by
    rw [all_bit, decide_eq_true (p := (-1 : Int) < (j : Int)) (by omega)]
    simp) h
theorem all_lt (n : Nat) : allN n < 2 ^ n := by unfold allN; have := Nat.two_pow_pos n; omega
end Go.Proofs.YtnpapnpedcbfnaaDoor
set_option maxRecDepth 100000
set_option maxHeartbeats 4000000
set_option linter.unusedSimpArgs false
set_option linter.unusedVariables false
namespace Go.Proofs.YtnpapnpedcbfnaaDoor
open Go.Ds Go.Vs
theorem ext20 (a b : Value) : extF (.tuple #[a, b]) 0 = some a := Eq.trans rfl rfl
theorem ext21 (a b : Value) : extF (.tuple #[a, b]) 1 = some b := Eq.trans rfl rfl
theorem eqA_ne (a b c d : Int) : eqAF true 2 (.agg #[.int .i64 a, .int .i64 b]) (.agg #[.int .i64 c, .int .i64 d]) = some (.bool (!(decide (a = c) && decide (b = d)))) := by
  simp [eqAF, intEqs, kindEq, eq_i]
  cases decide (a = c) <;> cases decide (b = d) <;> rfl
theorem cellsP_drop (L : List (Nat × Nat)) (i : Nat) (h : i < L.length) : (((cellsP L).drop (i * 2)).take 2).toArray = #[.int .i64 (L[i].1 : Int), .int .i64 (L[i].2 : Int)] := by
  have h1 := cellsI_drop (toI L) i (by simpa [toI] using h)
  rw [cellsI_toI] at h1
  rw [h1]
  simp [toI]
theorem cellsP_get (L : List (Nat × Nat)) (i : Nat) (h : i < L.length) : (cellsP L)[i * 2]? = some (.int .i64 (L[i].1 : Int)) ∧ (cellsP L)[i * 2 + 1]? = some (.int .i64 (L[i].2 : Int)) := by
  have h1 := cellsI_get (toI L) i (by simpa [toI] using h)
  rw [cellsI_toI] at h1
  simpa [toI] using h1
theorem firstLaw_rets {X : Caller} (hX : Xok X) (L : List Int) (s p : Value) (P : List (Int × Int)) (g : GH) (hT : HasTab g) (hs : SlR g s (ints L)) (hp : SlQ g p 2 P.length (cellsI P)) :
    Rets Tryd.prog X 14 [s, p] g (fun v g' lo => g.next ≤ lo ∧ v = .bool true) := by
  have hl := hs.len
  rw [ints_len] at hl
  have hlp := hp.len
  refine Rets.run hX.pres p14 (hX.free 14 (by decide) _ _) rfl fun ho => ?_
  simp +decide (disch := first | assumption | exact cellV_int _ _ | exact cellV_bool _ | omega | (simp only [GH.pn, GH.sn] <;> omega) | (with_reducible ((repeat (first | apply GH.ok_push | apply GH.ok_set)); assumption)) | ((try simp only [GH.push_hid, GH.set_hid]); first | assumption | (refine GH.vis ?_ ?_ <;> first | assumption | ((try simp only [GH.pn, GH.sn]) <;> omega)))) only [go_sem, ↓reduceIte, Nat.reduceEqDiff, Nat.reduceAdd, Int.reduceToNat, Int.reduceAdd, Int.reduceNeg, Int.reduceSub, Int.reduceMul, Int.reduceLT, Int.reduceLE, Int.reduceEq, ↓GH.gp_eq, ↓GH.gp_ne, ↓GH.gs_eq, ↓GH.gs_ne, GH.push_next, GH.set_next]
  refine CallD.calm (few_rets hX.toXfr s p _ _ hl hlp g) ?_
  rintro v g1 hx1 rfl
  have hn1 := hx1.next
  have hT1 := hT.ext hx1
  cases hf : (decide (L.length ≤ 40) && decide (P.length ≤ 40)) with
  | false =>
    simp +decide (disch := first | assumption | exact cellV_int _ _ | exact cellV_bool _ | omega | (simp only [GH.pn, GH.sn] <;> omega) | (with_reducible ((repeat (first | apply GH.ok_push | apply GH.ok_set)); assumption)) | ((try simp only [GH.push_hid, GH.set_hid]); first | assumption | (refine GH.vis ?_ ?_ <;> first | assumption | ((try simp only [GH.pn, GH.sn]) <;> omega)))) only [go_sem, ↓reduceIte, Nat.reduceEqDiff, Nat.reduceAdd, Int.reduceToNat, Int.reduceAdd, Int.reduceNeg, Int.reduceSub, Int.reduceMul, Int.reduceLT, Int.reduceLE, Int.reduceEq, ↓GH.gp_eq, ↓GH.gp_ne, ↓GH.gs_eq, ↓GH.gs_ne, GH.push_next, GH.set_next]
    refine CallD.calm (hX.alive g1 hT1) ?_
    rintro v g2 hx2 rfl
    have hn2 := hx2.next
    simp +decide (disch := first | assumption | exact cellV_int _ _ | exact cellV_bool _ | omega | (simp only [GH.pn, GH.sn] <;> omega) | (with_reducible ((repeat (first | apply GH.ok_push | apply GH.ok_set)); assumption)) | ((try simp only [GH.push_hid, GH.set_hid]); first | assumption | (refine GH.vis ?_ ?_ <;> first | assumption | ((try simp only [GH.pn, GH.sn]) <;> omega)))) only [go_sem, ↓reduceIte, Nat.reduceEqDiff, Nat.reduceAdd, Int.reduceToNat, Int.reduceAdd, Int.reduceNeg, Int.reduceSub, Int.reduceMul, Int.reduceLT, Int.reduceLE, Int.reduceEq, ↓GH.gp_eq, ↓GH.gp_ne, ↓GH.gs_eq, ↓GH.gs_ne, GH.push_next, GH.set_next]
    intro hx0
    exact ⟨by omega, rfl⟩
  | true =>
  rw [Bool.and_eq_true, decide_eq_true_eq, decide_eq_true_eq] at hf
  simp +decide (disch := first | assumption | exact cellV_int _ _ | exact cellV_bool _ | omega | (simp only [GH.pn, GH.sn] <;> omega) | (with_reducible ((repeat (first | apply GH.ok_push | apply GH.ok_set)); assumption)) | ((try simp only [GH.push_hid, GH.set_hid]); first | assumption | (refine GH.vis ?_ ?_ <;> first | assumption | ((try simp only [GH.pn, GH.sn]) <;> omega)))) only [go_sem, ↓reduceIte, Nat.reduceEqDiff, Nat.reduceAdd, Int.reduceToNat, Int.reduceAdd, Int.reduceNeg, Int.reduceSub, Int.reduceMul, Int.reduceLT, Int.reduceLE, Int.reduceEq, ↓GH.gp_eq, ↓GH.gp_ne, ↓GH.gs_eq, ↓GH.gs_ne, GH.push_next, GH.set_next]
  refine CallD.calm (refIsShop_rets hX.toXfr L hf.1 s g1 (hs.ext hx1)) ?_
  rintro v g2 hx2 rfl
  have hn2 := hx2.next
  have hT2 := hT1.ext hx2
  have hk2 : Kept g g2 := hx1.kept.ext hx2
  cases hz : shopB L with
  | false =>
    simp +decide (disch := first | assumption | exact cellV_int _ _ | exact cellV_bool _ | omega | (simp only [GH.pn, GH.sn] <;> omega) | (with_reducible ((repeat (first | apply GH.ok_push | apply GH.ok_set)); assumption)) | ((try simp only [GH.push_hid, GH.set_hid]); first | assumption | (refine GH.vis ?_ ?_ <;> first | assumption | ((try simp only [GH.pn, GH.sn]) <;> omega)))) only [go_sem, ↓reduceIte, Nat.reduceEqDiff, Nat.reduceAdd, Int.reduceToNat, Int.reduceAdd, Int.reduceNeg, Int.reduceSub, Int.reduceMul, Int.reduceLT, Int.reduceLE, Int.reduceEq, ↓GH.gp_eq, ↓GH.gp_ne, ↓GH.gs_eq, ↓GH.gs_ne, GH.push_next, GH.set_next]
    refine CallD.calm (hX.alive g2 hT2) ?_
    rintro v g3 hx3 rfl
    have hn3 := hx3.next
    simp +decide (disch := first | assumption | exact cellV_int _ _ | exact cellV_bool _ | omega | (simp only [GH.pn, GH.sn] <;> omega) | (with_reducible ((repeat (first | apply GH.ok_push | apply GH.ok_set)); assumption)) | ((try simp only [GH.push_hid, GH.set_hid]); first | assumption | (refine GH.vis ?_ ?_ <;> first | assumption | ((try simp only [GH.pn, GH.sn]) <;> omega)))) only [go_sem, ↓reduceIte, Nat.reduceEqDiff, Nat.reduceAdd, Int.reduceToNat, Int.reduceAdd, Int.reduceNeg, Int.reduceSub, Int.reduceMul, Int.reduceLT, Int.reduceLE, Int.reduceEq, ↓GH.gp_eq, ↓GH.gp_ne, ↓GH.gs_eq, ↓GH.gs_ne, GH.push_next, GH.set_next]
    intro hx0
    exact ⟨by omega, rfl⟩
  | true =>
  obtain ⟨hL1, hL10, hA⟩ := shop_ok hz
  simp +decide (disch := first | assumption | exact cellV_int _ _ | exact cellV_bool _ | omega | (simp only [GH.pn, GH.sn] <;> omega) | (with_reducible ((repeat (first | apply GH.ok_push | apply GH.ok_set)); assumption)) | ((try simp only [GH.push_hid, GH.set_hid]); first | assumption | (refine GH.vis ?_ ?_ <;> first | assumption | ((try simp only [GH.pn, GH.sn]) <;> omega)))) only [go_sem, ↓reduceIte, Nat.reduceEqDiff, Nat.reduceAdd, Int.reduceToNat, Int.reduceAdd, Int.reduceNeg, Int.reduceSub, Int.reduceMul, Int.reduceLT, Int.reduceLE, Int.reduceEq, ↓GH.gp_eq, ↓GH.gp_ne, ↓GH.gs_eq, ↓GH.gs_ne, GH.push_next, GH.set_next]
  refine CallD.calm (Largest_rets hX L hz s g2 hT2 (hs.kept hk2)) ?_
  rintro v g3 hx3 ⟨hok3, hk3, o, rfl, hown3⟩
  have hn3 := hx3.next
  have hk3' := hk2.trans hk3
  simp +decide (disch := first | assumption | exact cellV_int _ _ | exact cellV_bool _ | omega | (simp only [GH.pn, GH.sn] <;> omega) | (with_reducible ((repeat (first | apply GH.ok_push | apply GH.ok_set)); assumption)) | ((try simp only [GH.push_hid, GH.set_hid]); first | assumption | (refine GH.vis ?_ ?_ <;> first | assumption | ((try simp only [GH.pn, GH.sn]) <;> omega)))) only [go_sem, ↓reduceIte, Nat.reduceEqDiff, Nat.reduceAdd, Int.reduceToNat, Int.reduceAdd, Int.reduceNeg, Int.reduceSub, Int.reduceMul, Int.reduceLT, Int.reduceLE, Int.reduceEq, ↓GH.gp_eq, ↓GH.gp_ne, ↓GH.gs_eq, ↓GH.gs_ne, GH.push_next, GH.set_next, ext20, ext21]
  refine CallD.calm (IsMatching_rets hX.toXfr L hf.1 s p P (by omega) g3 (hs.kept hk3') (hp.kept hk3')) ?_
  rintro v g4 hx4 rfl
  have hn4 := hx4.next
  have hk4 := hk3'.ext hx4
  have hown4 := (hown3.kept hx4.kept).read
  have hlo := hown4.len
  rw [hz, if_pos rfl]
  have hT4 := hT.kept hk4
  have hT4 := hT.kept hk4
  cases hm : matI L P with
  | false =>
    simp +decide (disch := first | assumption | exact cellV_int _ _ | exact cellV_bool _ | omega | (simp only [GH.pn, GH.sn] <;> omega) | (with_reducible ((repeat (first | apply GH.ok_push | apply GH.ok_set)); assumption)) | ((try simp only [GH.push_hid, GH.set_hid]); first | assumption | (refine GH.vis ?_ ?_ <;> first | assumption | ((try simp only [GH.pn, GH.sn]) <;> omega)))) only [go_sem, ↓reduceIte, Nat.reduceEqDiff, Nat.reduceAdd, Int.reduceToNat, Int.reduceAdd, Int.reduceNeg, Int.reduceSub, Int.reduceMul, Int.reduceLT, Int.reduceLE, Int.reduceEq, ↓GH.gp_eq, ↓GH.gp_ne, ↓GH.gs_eq, ↓GH.gs_ne, GH.push_next, GH.set_next, ext20, ext21]
    refine CallD.calm (hX.alive g4 hT4) ?_
    rintro v g5 hx5 rfl
    have hn5 := hx5.next
    simp +decide (disch := first | assumption | exact cellV_int _ _ | exact cellV_bool _ | omega | (simp only [GH.pn, GH.sn] <;> omega) | (with_reducible ((repeat (first | apply GH.ok_push | apply GH.ok_set)); assumption)) | ((try simp only [GH.push_hid, GH.set_hid]); first | assumption | (refine GH.vis ?_ ?_ <;> first | assumption | ((try simp only [GH.pn, GH.sn]) <;> omega)))) only [go_sem, ↓reduceIte, Nat.reduceEqDiff, Nat.reduceAdd, Int.reduceToNat, Int.reduceAdd, Int.reduceNeg, Int.reduceSub, Int.reduceMul, Int.reduceLT, Int.reduceLE, Int.reduceEq, ↓GH.gp_eq, ↓GH.gp_ne, ↓GH.gs_eq, ↓GH.gs_ne, GH.push_next, GH.set_next]
    intro hx0
    exact ⟨by omega, rfl⟩
  | true =>
  obtain ⟨Q, rfl, hmq⟩ := matI_mat hm
  have hfirst := lrg_first (n := L.length) (allN L.length) (all_lt L.length) Q hmq
  rw [← lrg_len] at hfirst
  generalize lrg (setF L) L.length (allN L.length) = R at *
  have hQl : (toI Q).length = Q.length := by simp [toI]
  rw [hQl] at hlp hp
  rw [cellsI_toI] at hp
  by_cases hlen : (Q.length : Int) = R.length
  case neg =>
    simp +decide (disch := first | assumption | exact cellV_int _ _ | exact cellV_bool _ | omega | (simp only [GH.pn, GH.sn] <;> omega) | (with_reducible ((repeat (first | apply GH.ok_push | apply GH.ok_set)); assumption)) | ((try simp only [GH.push_hid, GH.set_hid]); first | assumption | (refine GH.vis ?_ ?_ <;> first | assumption | ((try simp only [GH.pn, GH.sn]) <;> omega)))) only [go_sem, ↓reduceIte, Nat.reduceEqDiff, Nat.reduceAdd, Int.reduceToNat, Int.reduceAdd, Int.reduceNeg, Int.reduceSub, Int.reduceMul, Int.reduceLT, Int.reduceLE, Int.reduceEq, ↓GH.gp_eq, ↓GH.gp_ne, ↓GH.gs_eq, ↓GH.gs_ne, GH.push_next, GH.set_next, hlp, hlo, hlen, ext20, ext21]
    refine CallD.calm (hX.alive g4 hT4) ?_
    rintro v g5 hx5 rfl
    have hn5 := hx5.next
    simp +decide (disch := first | assumption | exact cellV_int _ _ | exact cellV_bool _ | omega | (simp only [GH.pn, GH.sn] <;> omega) | (with_reducible ((repeat (first | apply GH.ok_push | apply GH.ok_set)); assumption)) | ((try simp only [GH.push_hid, GH.set_hid]); first | assumption | (refine GH.vis ?_ ?_ <;> first | assumption | ((try simp only [GH.pn, GH.sn]) <;> omega)))) only [go_sem, ↓reduceIte, Nat.reduceEqDiff, Nat.reduceAdd, Int.reduceToNat, Int.reduceAdd, Int.reduceNeg, Int.reduceSub, Int.reduceMul, Int.reduceLT, Int.reduceLE, Int.reduceEq, ↓GH.gp_eq, ↓GH.gp_ne, ↓GH.gs_eq, ↓GH.gs_ne, GH.push_next, GH.set_next]
    intro hx0
    exact ⟨by omega, rfl⟩
  have hlen' : Q.length = R.length := by omega
  simp +decide (disch := first | assumption | exact cellV_int _ _ | exact cellV_bool _ | omega | (simp only [GH.pn, GH.sn] <;> omega) | (with_reducible ((repeat (first | apply GH.ok_push | apply GH.ok_set)); assumption)) | ((try simp only [GH.push_hid, GH.set_hid]); first | assumption | (refine GH.vis ?_ ?_ <;> first | assumption | ((try simp only [GH.pn, GH.sn]) <;> omega)))) only [go_sem, ↓reduceIte, Nat.reduceEqDiff, Nat.reduceAdd, Int.reduceToNat, Int.reduceAdd, Int.reduceNeg, Int.reduceSub, Int.reduceMul, Int.reduceLT, Int.reduceLE, Int.reduceEq, ↓GH.gp_eq, ↓GH.gp_ne, ↓GH.gs_eq, ↓GH.gs_ne, GH.push_next, GH.set_next, hlp, hlo, hlen, ext20, ext21]
  refine Wk.loops (fun m e g' lo => g.next ≤ lo ∧ Kept g4 g' ∧ ∃ i : Nat, i + m = Q.length ∧ (ev e (.s 1) = p ∧ ev e (.s 5) = o ∧ ev e (.s 9) = .int .i64 (i : Nat)) ∧ ∀ j, j < i → Q[j]? = R[j]?)
    (fun e g' lo => g.next ≤ lo ∧ Kept g4 g') (n := Q.length) ?_ ?_ ?_
  · exact ⟨by omega, Kept.refl _, 0, by omega, (by simp +decide (disch := first | assumption | (apply GH.ok_push; assumption) | exact cellV_int _ _ | exact cellV_bool _ | omega) only [go_sem, ↓reduceIte, Nat.reduceEqDiff, Nat.reduceAdd, Int.reduceToNat]; first | done | exact rfl), fun j hj => by omega⟩
  · rintro e g' lo hog hlg ⟨hlo', hk⟩
    simp +decide (disch := first | assumption | exact cellV_int _ _ | exact cellV_bool _ | omega | (simp only [GH.pn, GH.sn] <;> omega) | (with_reducible ((repeat (first | apply GH.ok_push | apply GH.ok_set)); assumption)) | ((try simp only [GH.push_hid, GH.set_hid]); first | assumption | (refine GH.vis ?_ ?_ <;> first | assumption | ((try simp only [GH.pn, GH.sn]) <;> omega)))) only [go_sem, ↓reduceIte, Nat.reduceEqDiff, Nat.reduceAdd, Int.reduceToNat, Int.reduceAdd, Int.reduceNeg, Int.reduceSub, Int.reduceMul, Int.reduceLT, Int.reduceLE, Int.reduceEq, ↓GH.gp_eq, ↓GH.gp_ne, ↓GH.gs_eq, ↓GH.gs_ne, GH.push_next, GH.set_next]
    refine CallD.calm (hX.alive g' (hT4.kept hk)) ?_
    rintro v g5 hx5 rfl
    simp +decide (disch := first | assumption | exact cellV_int _ _ | exact cellV_bool _ | omega | (simp only [GH.pn, GH.sn] <;> omega) | (with_reducible ((repeat (first | apply GH.ok_push | apply GH.ok_set)); assumption)) | ((try simp only [GH.push_hid, GH.set_hid]); first | assumption | (refine GH.vis ?_ ?_ <;> first | assumption | ((try simp only [GH.pn, GH.sn]) <;> omega)))) only [go_sem, ↓reduceIte, Nat.reduceEqDiff, Nat.reduceAdd, Int.reduceToNat, Int.reduceAdd, Int.reduceNeg, Int.reduceSub, Int.reduceMul, Int.reduceLT, Int.reduceLE, Int.reduceEq, ↓GH.gp_eq, ↓GH.gp_ne, ↓GH.gs_eq, ↓GH.gs_ne, GH.push_next, GH.set_next]
    intro hx0
    exact ⟨by omega, rfl⟩
  · rintro m e g' lo ho' hl' ih out ⟨hlo', hk, i, hi, he, hsame⟩
    have hkn := hk.next
    by_cases ci : i < Q.length
    case neg =>
      have ci' : ¬ (i : Int) < Q.length := by omega
      simp +decide (disch := first | assumption | exact cellV_int _ _ | exact cellV_bool _ | omega | (simp only [GH.pn, GH.sn] <;> omega) | (with_reducible ((repeat (first | apply GH.ok_push | apply GH.ok_set)); assumption)) | ((try simp only [GH.push_hid, GH.set_hid]); first | assumption | (refine GH.vis ?_ ?_ <;> first | assumption | ((try simp only [GH.pn, GH.sn]) <;> omega)))) only [go_sem, ↓reduceIte, Nat.reduceEqDiff, Nat.reduceAdd, Int.reduceToNat, Int.reduceAdd, Int.reduceNeg, Int.reduceSub, Int.reduceMul, Int.reduceLT, Int.reduceLE, Int.reduceEq, ↓GH.gp_eq, ↓GH.gp_ne, ↓GH.gs_eq, ↓GH.gs_ne, GH.push_next, GH.set_next, he, hlp, ci']
      exact out _ _ _ ⟨hlo', hk⟩
    have ci' : (i : Int) < Q.length := by omega
    have ciR : i < R.length := by omega
    obtain ⟨j, a, hj, hp1, hp2, hp3⟩ := ((hp.kept hk4).kept hk).ptr ci
    have hp1 := hp1 (i : Int) rfl
    rw [cellsP_drop Q i ci] at hp3
    obtain ⟨j2, a2, hj2, hq1, hq2, hq3⟩ := (hown4.kept hk).ptr ciR
    have hq1 := hq1 (i : Int) rfl
    rw [cellsP_drop R i ciR] at hq3
    obtain ⟨c1, c2⟩ := cellsP_get Q i ci
    obtain ⟨d1, d2⟩ := cellsP_get R i ciR
    have hp20 := fun lo => hp2 lo 0 _ (by omega) c1
    have hp21 := fun lo => hp2 lo 1 _ (by omega) c2
    have hq20 := fun lo => hq2 lo 0 _ (by omega) d1
    have hq21 := fun lo => hq2 lo 1 _ (by omega) d2
    rw [Nat.add_zero] at hp20 hq20
    have hfi := fun (hh : Q.length = R.length) => hfirst hh i Q[i].1 Q[i].2 R[i].1 R[i].2 (List.getElem?_eq_getElem ci) (List.getElem?_eq_getElem ciR) hsame
    have hfi := hfi hlen'
    have hne : (Q[i].1 = R[i].1 ∧ Q[i].2 = R[i].2) → Q[i]? = R[i]? := fun ⟨h1, h2⟩ => by
      rw [List.getElem?_eq_getElem ci, List.getElem?_eq_getElem ciR]
      exact congrArg some (Prod.ext h1 h2)
    generalize Q[i].1 = qa at *
    generalize Q[i].2 = qb at *
    generalize R[i].1 = ra at *
    generalize R[i].2 = rb at *
    simp +decide (disch := first | assumption | exact cellV_int _ _ | exact cellV_bool _ | omega | (simp only [GH.pn, GH.sn] <;> omega) | (with_reducible ((repeat (first | apply GH.ok_push | apply GH.ok_set)); assumption)) | ((try simp only [GH.push_hid, GH.set_hid]); first | assumption | (refine GH.vis ?_ ?_ <;> first | assumption | ((try simp only [GH.pn, GH.sn]) <;> omega)))) only [go_sem, ↓reduceIte, Nat.reduceEqDiff, Nat.reduceAdd, Int.reduceToNat, Int.reduceAdd, Int.reduceNeg, Int.reduceSub, Int.reduceMul, Int.reduceLT, Int.reduceLE, Int.reduceEq, ↓GH.gp_eq, ↓GH.gp_ne, ↓GH.gs_eq, ↓GH.gs_ne, GH.push_next, GH.set_next, he, hlp, ci', hp1, hp3, hq1, hq3]
    by_cases h1 : qa = ra ∧ qb = rb
    · have hd : decide ((qa : Int) = ra) = true := decide_eq_true (by omega)
      have hd2 : decide ((qb : Int) = rb) = true := decide_eq_true (by omega)
      simp +decide (disch := first | assumption | exact cellV_int _ _ | exact cellV_bool _ | omega | (simp only [GH.pn, GH.sn] <;> omega) | (with_reducible ((repeat (first | apply GH.ok_push | apply GH.ok_set)); assumption)) | ((try simp only [GH.push_hid, GH.set_hid]); first | assumption | (refine GH.vis ?_ ?_ <;> first | assumption | ((try simp only [GH.pn, GH.sn]) <;> omega)))) only [go_sem, ↓reduceIte, Nat.reduceEqDiff, Nat.reduceAdd, Int.reduceToNat, Int.reduceAdd, Int.reduceNeg, Int.reduceSub, Int.reduceMul, Int.reduceLT, Int.reduceLE, Int.reduceEq, ↓GH.gp_eq, ↓GH.gp_ne, ↓GH.gs_eq, ↓GH.gs_ne, GH.push_next, GH.set_next, he, eqA_ne, hd, hd2]
      refine ih (m - 1) _ _ _ (by omega) ⟨hlo', hk, i + 1, by omega, (by simp +decide (disch := first | assumption | (apply GH.ok_push; assumption) | exact cellV_int _ _ | exact cellV_bool _ | omega) only [go_sem, ↓reduceIte, Nat.reduceEqDiff, Nat.reduceAdd, Int.reduceToNat, he]; first | done | exact rfl), fun j hj => ?_⟩
      rcases Nat.lt_succ_iff_lt_or_eq.1 hj with c | c
      · exact hsame j c
      · rw [c]; exact hne h1
    · have hd : (decide ((qa : Int) = ra) && decide ((qb : Int) = rb)) = false := by
        rw [Bool.and_eq_false_iff, decide_eq_false_iff_not, decide_eq_false_iff_not]; omega
      simp only [eqA_ne, hd, oV_s]
      refine envR (fun e => ev e (.s 1) = p ∧ ev e (.s 5) = o ∧ ev e (.s 9) = .int .i64 (i : Nat) ∧ ev e (.s 61) = .bool true) ?h0 (fun e he => ?_)
      case h0 => exact (by simp +decide (disch := first | assumption | (apply GH.ok_push; assumption) | exact cellV_int _ _ | exact cellV_bool _ | omega) only [go_sem, ↓reduceIte, Nat.reduceEqDiff, Nat.reduceAdd, Int.reduceToNat, he]; first | done | exact rfl)
      have hal := hX.alive g' (hT4.kept hk)
      have hfin := hfi
      by_cases f1 : (ra : Int) < qa
      · simp +decide (disch := first | assumption | exact cellV_int _ _ | exact cellV_bool _ | omega | (simp only [GH.pn, GH.sn] <;> omega) | (with_reducible ((repeat (first | apply GH.ok_push | apply GH.ok_set)); assumption)) | ((try simp only [GH.push_hid, GH.set_hid]); first | assumption | (refine GH.vis ?_ ?_ <;> first | assumption | ((try simp only [GH.pn, GH.sn]) <;> omega)))) only [go_sem, ↓reduceIte, Nat.reduceEqDiff, Nat.reduceAdd, Int.reduceToNat, Int.reduceAdd, Int.reduceNeg, Int.reduceSub, Int.reduceMul, Int.reduceLT, Int.reduceLE, Int.reduceEq, ↓GH.gp_eq, ↓GH.gp_ne, ↓GH.gs_eq, ↓GH.gs_ne, GH.push_next, GH.set_next, he, hp1, hp20, hp21, hq1, hq20, hq21, f1]
        refine CallD.calm hal ?_
        rintro v g5 hx5 rfl
        simp +decide (disch := first | assumption | exact cellV_int _ _ | exact cellV_bool _ | omega | (simp only [GH.pn, GH.sn] <;> omega) | (with_reducible ((repeat (first | apply GH.ok_push | apply GH.ok_set)); assumption)) | ((try simp only [GH.push_hid, GH.set_hid]); first | assumption | (refine GH.vis ?_ ?_ <;> first | assumption | ((try simp only [GH.pn, GH.sn]) <;> omega)))) only [go_sem, ↓reduceIte, Nat.reduceEqDiff, Nat.reduceAdd, Int.reduceToNat, Int.reduceAdd, Int.reduceNeg, Int.reduceSub, Int.reduceMul, Int.reduceLT, Int.reduceLE, Int.reduceEq, ↓GH.gp_eq, ↓GH.gp_ne, ↓GH.gs_eq, ↓GH.gs_ne, GH.push_next, GH.set_next]
        intro hx0
        exact ⟨by omega, rfl⟩
      · have f2 : (ra : Int) = qa := by omega
        have f3 : (rb : Int) < qb := by omega
        simp +decide (disch := first | assumption | exact cellV_int _ _ | exact cellV_bool _ | omega | (simp only [GH.pn, GH.sn] <;> omega) | (with_reducible ((repeat (first | apply GH.ok_push | apply GH.ok_set)); assumption)) | ((try simp only [GH.push_hid, GH.set_hid]); first | assumption | (refine GH.vis ?_ ?_ <;> first | assumption | ((try simp only [GH.pn, GH.sn]) <;> omega)))) only [go_sem, ↓reduceIte, Nat.reduceEqDiff, Nat.reduceAdd, Int.reduceToNat, Int.reduceAdd, Int.reduceNeg, Int.reduceSub, Int.reduceMul, Int.reduceLT, Int.reduceLE, Int.reduceEq, ↓GH.gp_eq, ↓GH.gp_ne, ↓GH.gs_eq, ↓GH.gs_ne, GH.push_next, GH.set_next, he, hp1, hp20, hp21, hq1, hq20, hq21, f1, f2, f3]
        refine CallD.calm hal ?_
        rintro v g5 hx5 rfl
        simp +decide (disch := first | assumption | exact cellV_int _ _ | exact cellV_bool _ | omega | (simp only [GH.pn, GH.sn] <;> omega) | (with_reducible ((repeat (first | apply GH.ok_push | apply GH.ok_set)); assumption)) | ((try simp only [GH.push_hid, GH.set_hid]); first | assumption | (refine GH.vis ?_ ?_ <;> first | assumption | ((try simp only [GH.pn, GH.sn]) <;> omega)))) only [go_sem, ↓reduceIte, Nat.reduceEqDiff, Nat.reduceAdd, Int.reduceToNat, Int.reduceAdd, Int.reduceNeg, Int.reduceSub, Int.reduceMul, Int.reduceLT, Int.reduceLE, Int.reduceEq, ↓GH.gp_eq, ↓GH.gp_ne, ↓GH.gs_eq, ↓GH.gs_ne, GH.push_next, GH.set_next]
        intro hx0
        exact ⟨by omega, rfl⟩
end Go.Proofs.YtnpapnpedcbfnaaDoor
set_option maxRecDepth 100000
set_option maxHeartbeats 4000000
set_option linter.unusedSimpArgs false
set_option linter.unusedVariables false
namespace Go.Proofs.YtnpapnpedcbfnaaDoor
open Go.Ds Go.Vs
/-! ## The answer -/
def ansF : List (Int × Int) → Int → Int
  | [], _ => -1
  | p :: P, h => if p.1 = h then p.2 else if p.2 = h then p.1 else ansF P h
def ansV (L : List Int) (P : List (Int × Int)) (h : Int) : Value := if shopB L && matI L P && (decide (0 ≤ h) && decide (h < L.length)) then .tuple #[.int .i64 (ansF P h), .int .i64 0] else .tuple #[.int .i64 0, eArg]
theorem ans_drop (P : List (Int × Int)) (i : Nat) (hi : i < P.length) (h : Int) : ansF (P.drop i) h = if P[i].1 = h then P[i].2 else if P[i].2 = h then P[i].1 else ansF (P.drop (i + 1)) h := by
  rw [List.drop_eq_getElem_cons hi]
  rfl
theorem answer_rets {X : Caller} (hX : Xfr X) (L : List Int) (hL : L.length ≤ 40) (s p : Value) (P : List (Int × Int)) (hP : P.length ≤ 1000) (h : Int) (g : GH) (hs : SlR g s (ints L)) (hp : SlQ g p 2 P.length (cellsI P)) :
    Rets Tryd.prog X 33 [s, p, .int .i64 h] g (fun v g' lo => g.next ≤ lo ∧ v = ansV L P h) := by
  have hl := hp.len
  generalize hr : ansV L P h = r
  refine Rets.run hX.pres p33 (hX.free 33 (by decide) _ _) rfl fun ho => ?_
  simp +decide (disch := first | assumption | exact cellV_int _ _ | exact cellV_bool _ | omega | (simp only [GH.pn, GH.sn] <;> omega) | (with_reducible ((repeat (first | apply GH.ok_push | apply GH.ok_set)); assumption)) | ((try simp only [GH.push_hid, GH.set_hid]); first | assumption | (refine GH.vis ?_ ?_ <;> first | assumption | ((try simp only [GH.pn, GH.sn]) <;> omega)))) only [go_sem, ↓reduceIte, Nat.reduceEqDiff, Nat.reduceAdd, Int.reduceToNat, Int.reduceAdd, Int.reduceNeg, Int.reduceSub, Int.reduceMul, Int.reduceLT, Int.reduceLE, Int.reduceEq, ↓GH.gp_eq, ↓GH.gp_ne, ↓GH.gs_eq, ↓GH.gs_ne, GH.push_next, GH.set_next]
  refine CallD.calm (IsShop_rets hX L hL s g hs) ?_
  rintro v g1 hx1 rfl
  have hn1 := hx1.next
  cases hz : shopB L with
  | false =>
    simp +decide (disch := first | assumption | exact cellV_int _ _ | exact cellV_bool _ | omega | (simp only [GH.pn, GH.sn] <;> omega) | (with_reducible ((repeat (first | apply GH.ok_push | apply GH.ok_set)); assumption)) | ((try simp only [GH.push_hid, GH.set_hid]); first | assumption | (refine GH.vis ?_ ?_ <;> first | assumption | ((try simp only [GH.pn, GH.sn]) <;> omega)))) only [go_sem, ↓reduceIte, Nat.reduceEqDiff, Nat.reduceAdd, Int.reduceToNat, Int.reduceAdd, Int.reduceNeg, Int.reduceSub, Int.reduceMul, Int.reduceLT, Int.reduceLE, Int.reduceEq, ↓GH.gp_eq, ↓GH.gp_ne, ↓GH.gs_eq, ↓GH.gs_ne, GH.push_next, GH.set_next]
    intro hx0
    exact ⟨by omega, by rw [← hr, ansV, hz]; rfl⟩
  | true =>
  simp +decide (disch := first | assumption | exact cellV_int _ _ | exact cellV_bool _ | omega | (simp only [GH.pn, GH.sn] <;> omega) | (with_reducible ((repeat (first | apply GH.ok_push | apply GH.ok_set)); assumption)) | ((try simp only [GH.push_hid, GH.set_hid]); first | assumption | (refine GH.vis ?_ ?_ <;> first | assumption | ((try simp only [GH.pn, GH.sn]) <;> omega)))) only [go_sem, ↓reduceIte, Nat.reduceEqDiff, Nat.reduceAdd, Int.reduceToNat, Int.reduceAdd, Int.reduceNeg, Int.reduceSub, Int.reduceMul, Int.reduceLT, Int.reduceLE, Int.reduceEq, ↓GH.gp_eq, ↓GH.gp_ne, ↓GH.gs_eq, ↓GH.gs_ne, GH.push_next, GH.set_next]
  refine CallD.calm (matching_rets hX L hz s p P hP g1 (hs.ext hx1) (hp.kept hx1.kept)) ?_
  rintro v g2 hx2 rfl
  have hn2 := hx2.next
  have hk2 := hx1.kept.ext hx2
  cases hm : matI L P with
  | false =>
    simp +decide (disch := first | assumption | exact cellV_int _ _ | exact cellV_bool _ | omega | (simp only [GH.pn, GH.sn] <;> omega) | (with_reducible ((repeat (first | apply GH.ok_push | apply GH.ok_set)); assumption)) | ((try simp only [GH.push_hid, GH.set_hid]); first | assumption | (refine GH.vis ?_ ?_ <;> first | assumption | ((try simp only [GH.pn, GH.sn]) <;> omega)))) only [go_sem, ↓reduceIte, Nat.reduceEqDiff, Nat.reduceAdd, Int.reduceToNat, Int.reduceAdd, Int.reduceNeg, Int.reduceSub, Int.reduceMul, Int.reduceLT, Int.reduceLE, Int.reduceEq, ↓GH.gp_eq, ↓GH.gp_ne, ↓GH.gs_eq, ↓GH.gs_ne, GH.push_next, GH.set_next]
    intro hx0
    exact ⟨by omega, by rw [← hr, ansV, hz, hm]; rfl⟩
  | true =>
  simp +decide (disch := first | assumption | exact cellV_int _ _ | exact cellV_bool _ | omega | (simp only [GH.pn, GH.sn] <;> omega) | (with_reducible ((repeat (first | apply GH.ok_push | apply GH.ok_set)); assumption)) | ((try simp only [GH.push_hid, GH.set_hid]); first | assumption | (refine GH.vis ?_ ?_ <;> first | assumption | ((try simp only [GH.pn, GH.sn]) <;> omega)))) only [go_sem, ↓reduceIte, Nat.reduceEqDiff, Nat.reduceAdd, Int.reduceToNat, Int.reduceAdd, Int.reduceNeg, Int.reduceSub, Int.reduceMul, Int.reduceLT, Int.reduceLE, Int.reduceEq, ↓GH.gp_eq, ↓GH.gp_ne, ↓GH.gs_eq, ↓GH.gs_ne, GH.push_next, GH.set_next]
  refine CallD.calm (isHat_rets hX L (by omega) h s g2 (hs.kept hk2)) ?_
  rintro v g3 hx3 rfl
  have hn3 := hx3.next
  have hk3 := hk2.ext hx3
  cases hh : (decide (0 ≤ h) && decide (h < (L.length : Int))) with
  | false =>
    simp +decide (disch := first | assumption | exact cellV_int _ _ | exact cellV_bool _ | omega | (simp only [GH.pn, GH.sn] <;> omega) | (with_reducible ((repeat (first | apply GH.ok_push | apply GH.ok_set)); assumption)) | ((try simp only [GH.push_hid, GH.set_hid]); first | assumption | (refine GH.vis ?_ ?_ <;> first | assumption | ((try simp only [GH.pn, GH.sn]) <;> omega)))) only [go_sem, ↓reduceIte, Nat.reduceEqDiff, Nat.reduceAdd, Int.reduceToNat, Int.reduceAdd, Int.reduceNeg, Int.reduceSub, Int.reduceMul, Int.reduceLT, Int.reduceLE, Int.reduceEq, ↓GH.gp_eq, ↓GH.gp_ne, ↓GH.gs_eq, ↓GH.gs_ne, GH.push_next, GH.set_next]
    intro hx0
    exact ⟨by omega, by rw [← hr, ansV, hz, hm, hh]; rfl⟩
  | true =>
  have hr : r = .tuple #[.int .i64 (ansF P h), .int .i64 0] := by rw [← hr, ansV, hz, hm, hh]; rfl
  simp +decide (disch := first | assumption | exact cellV_int _ _ | exact cellV_bool _ | omega | (simp only [GH.pn, GH.sn] <;> omega) | (with_reducible ((repeat (first | apply GH.ok_push | apply GH.ok_set)); assumption)) | ((try simp only [GH.push_hid, GH.set_hid]); first | assumption | (refine GH.vis ?_ ?_ <;> first | assumption | ((try simp only [GH.pn, GH.sn]) <;> omega)))) only [go_sem, ↓reduceIte, Nat.reduceEqDiff, Nat.reduceAdd, Int.reduceToNat, Int.reduceAdd, Int.reduceNeg, Int.reduceSub, Int.reduceMul, Int.reduceLT, Int.reduceLE, Int.reduceEq, ↓GH.gp_eq, ↓GH.gp_ne, ↓GH.gs_eq, ↓GH.gs_ne, GH.push_next, GH.set_next, hl]
  refine Wk.loops (fun m e g' lo => g.next ≤ lo ∧ Kept g g' ∧ ∃ i : Nat, i + m = P.length ∧ (ev e (.s 2) = .int .i64 h ∧ ev e (.s 25) = p ∧ ev e (.s 26) = .int .i64 (P.length : Int) ∧ ev e (.s 27) = .int .i64 (i : Nat)) ∧ ansF (P.drop i) h = ansF P h)
    (fun e g' lo => g.next ≤ lo ∧ ansF P h = -1) (n := P.length) ?_ ?_ ?_
  · exact ⟨by omega, hk3, 0, by omega, (by simp +decide (disch := first | assumption | (apply GH.ok_push; assumption) | exact cellV_int _ _ | exact cellV_bool _ | omega) only [go_sem, ↓reduceIte, Nat.reduceEqDiff, Nat.reduceAdd, Int.reduceToNat, hl]; first | done | exact rfl), rfl⟩
  · rintro e g' lo - - ⟨hlo, hq⟩
    simp +decide (disch := first | assumption | exact cellV_int _ _ | exact cellV_bool _ | omega | (simp only [GH.pn, GH.sn] <;> omega) | (with_reducible ((repeat (first | apply GH.ok_push | apply GH.ok_set)); assumption)) | ((try simp only [GH.push_hid, GH.set_hid]); first | assumption | (refine GH.vis ?_ ?_ <;> first | assumption | ((try simp only [GH.pn, GH.sn]) <;> omega)))) only [go_sem, ↓reduceIte, Nat.reduceEqDiff, Nat.reduceAdd, Int.reduceToNat, Int.reduceAdd, Int.reduceNeg, Int.reduceSub, Int.reduceMul, Int.reduceLT, Int.reduceLE, Int.reduceEq, ↓GH.gp_eq, ↓GH.gp_ne, ↓GH.gs_eq, ↓GH.gs_ne, GH.push_next, GH.set_next]
    intro hx0
    exact ⟨hlo, by rw [hr, hq]⟩
  · rintro m e g' lo ho' hl' ih out ⟨hlo, hk, i, hi, he, ha⟩
    have hkn := hk.next
    by_cases ci : i < P.length
    case neg =>
      have ci' : ¬ (i : Int) < P.length := by omega
      simp +decide (disch := first | assumption | exact cellV_int _ _ | exact cellV_bool _ | omega | (simp only [GH.pn, GH.sn] <;> omega) | (with_reducible ((repeat (first | apply GH.ok_push | apply GH.ok_set)); assumption)) | ((try simp only [GH.push_hid, GH.set_hid]); first | assumption | (refine GH.vis ?_ ?_ <;> first | assumption | ((try simp only [GH.pn, GH.sn]) <;> omega)))) only [go_sem, ↓reduceIte, Nat.reduceEqDiff, Nat.reduceAdd, Int.reduceToNat, Int.reduceAdd, Int.reduceNeg, Int.reduceSub, Int.reduceMul, Int.reduceLT, Int.reduceLE, Int.reduceEq, ↓GH.gp_eq, ↓GH.gp_ne, ↓GH.gs_eq, ↓GH.gs_ne, GH.push_next, GH.set_next, he, ci']
      have : i = P.length := by omega
      subst this
      rw [List.drop_length] at ha
      exact out _ _ _ ⟨hlo, ha.symm⟩
    have ci' : (i : Int) < P.length := by omega
    obtain ⟨j, a, hj, hp1, hp2, hp3⟩ := (hp.kept hk).ptr ci
    have hp1 := hp1 (i : Int) rfl
    rw [cellsI_drop P i ci] at hp3
    have had := ans_drop P i ci h
    rw [ha] at had
    obtain ⟨q, hq⟩ : ∃ q, P[i] = q := ⟨_, rfl⟩
    obtain ⟨x, y⟩ := q
    rw [hq] at hp3 had
    dsimp only at hp3 had
    have hg0 : (g'.push (cellsOb [.int .i64 0, .int .i64 0] 56)).get g'.next = cellsOb [.int .i64 0, .int .i64 0] 56 := (by simp (disch := first | assumption | exact cellV_int _ _ | exact cellV_bool _ | omega | (simp only [GH.pn, GH.sn] <;> omega) | (with_reducible ((repeat (first | apply GH.ok_push | apply GH.ok_set)); assumption)) | ((try simp only [GH.push_hid, GH.set_hid]); first | assumption | (refine GH.vis ?_ ?_ <;> first | assumption | ((try simp only [GH.pn, GH.sn]) <;> omega)))) only [↓GH.gp_eq, ↓GH.gp_ne, ↓GH.gs_eq, ↓GH.gs_ne, GH.push_next, GH.set_next]; first | done | exact rfl)
    have hg1 : ((g'.push (cellsOb [.int .i64 0, .int .i64 0] 56)).set g'.next (cellsOb [.int .i64 x, .int .i64 y] 56)).get g'.next = cellsOb [.int .i64 x, .int .i64 y] 56 := (by simp (disch := first | assumption | exact cellV_int _ _ | exact cellV_bool _ | omega | (simp only [GH.pn, GH.sn] <;> omega) | (with_reducible ((repeat (first | apply GH.ok_push | apply GH.ok_set)); assumption)) | ((try simp only [GH.push_hid, GH.set_hid]); first | assumption | (refine GH.vis ?_ ?_ <;> first | assumption | ((try simp only [GH.pn, GH.sn]) <;> omega)))) only [↓GH.gp_eq, ↓GH.gp_ne, ↓GH.gs_eq, ↓GH.gs_ne, GH.push_next, GH.set_next]; first | done | exact rfl)
    have hkG : Kept g ((g'.push (cellsOb [.int .i64 0, .int .i64 0] 56)).set g'.next (cellsOb [.int .i64 x, .int .i64 y] 56)) := (by (repeat' first | exact Kept.refl _ | assumption | refine Kept.push ?_ ?_ _ | refine Kept.setV ?_ ?_ ?_ _) <;> (first | assumption | exact cellV_int _ _ | exact cellV_bool _ | omega | (simp only [GH.pn, GH.sn] <;> omega) | (with_reducible ((repeat (first | apply GH.ok_push | apply GH.ok_set)); assumption)) | ((try simp only [GH.push_hid, GH.set_hid]); first | assumption | (refine GH.vis ?_ ?_ <;> first | assumption | ((try simp only [GH.pn, GH.sn]) <;> omega)))))
    have hsp : splice 0 [Value.int .i64 0, Value.int .i64 0] [Value.int .i64 x, Value.int .i64 y] = [.int .i64 x, .int .i64 y] := Eq.trans rfl rfl
    have hob : obLoad none (cellsOb [.int .i64 x, .int .i64 y] 56) 0 = some (.int .i64 x) := rfl
    have hob2 : obLoad none (cellsOb [.int .i64 x, .int .i64 y] 56) 1 = some (.int .i64 y) := rfl
    by_cases f1 : x = h
    · subst f1
      simp +decide (disch := first | assumption | (apply GH.ok_push; assumption) | exact cellV_int _ _ | exact cellV_bool _ | omega) only [go_sem, ↓reduceIte, Nat.reduceEqDiff, Nat.reduceAdd, Int.reduceToNat, he, ci', hp1, hp3, hg0, hsp, hg1, hob, hob2, oV_s]
      intro hx0
      exact ⟨by omega, by rw [hr, had, if_pos rfl]⟩
    have f1' : ¬ h = x := fun h' => f1 h'.symm
    by_cases f2 : y = h
    · subst f2
      simp +decide (disch := first | assumption | (apply GH.ok_push; assumption) | exact cellV_int _ _ | exact cellV_bool _ | omega) only [go_sem, ↓reduceIte, Nat.reduceEqDiff, Nat.reduceAdd, Int.reduceToNat, he, ci', hp1, hp3, hg0, hsp, hg1, hob, hob2, oV_s, f1']
      intro hx0
      exact ⟨by omega, by rw [hr, had, if_neg f1, if_pos rfl]⟩
    have f2' : ¬ h = y := fun h' => f2 h'.symm
    simp +decide (disch := first | assumption | (apply GH.ok_push; assumption) | exact cellV_int _ _ | exact cellV_bool _ | omega) only [go_sem, ↓reduceIte, Nat.reduceEqDiff, Nat.reduceAdd, Int.reduceToNat, he, ci', hp1, hp3, hg0, hsp, hg1, hob, hob2, oV_s, f1', f2']
    exact ih (m - 1) _ _ _ (by omega) ⟨by omega, hkG, i + 1, by omega, (by simp +decide (disch := first | assumption | (apply GH.ok_push; assumption) | exact cellV_int _ _ | exact cellV_bool _ | omega) only [go_sem, ↓reduceIte, Nat.reduceEqDiff, Nat.reduceAdd, Int.reduceToNat, he]; first | done | exact rfl), by rw [had, if_neg f1, if_neg f2]⟩
end Go.Proofs.YtnpapnpedcbfnaaDoor
set_option maxRecDepth 100000
set_option maxHeartbeats 4000000
set_option linter.unusedSimpArgs false
set_option linter.unusedVariables false
namespace Go.Proofs.YtnpapnpedcbfnaaDoor
open Go.Ds Go.Vs
theorem rem_nat (x k : Nat) : ((x : Int) / 2 ^ k).tmod 2 = b01 (x.testBit k) := by
  have := rem_fact (x := (x : Int)) (by omega) k
  rw [bitI_nat] at this
  exact this
theorem refMatching_rets {X : Caller} (hX : Xfr X) (L : List Int) (hL : shopB L = true) (s p : Value) (P : List (Int × Int)) (hP : P.length ≤ 1000) (g : GH) (hs : SlR g s (ints L)) (hp : SlQ g p 2 P.length (cellsI P)) :
    Rets Tryd.prog X 49 [s, p] g (fun v g' lo => g.next ≤ lo ∧ v = .bool (matI L P)) := by
  obtain ⟨hL1, hL10, hA⟩ := shop_ok hL
  have hl := hp.len
  have hls := hs.len
  rw [ints_len] at hls
  generalize hr : matI L P = r
  refine Rets.run hX.pres p49 (hX.free 49 (by decide) _ _) rfl fun ho => ?_
  simp +decide (disch := first | assumption | exact cellV_int _ _ | exact cellV_bool _ | omega | (simp only [GH.pn, GH.sn] <;> omega) | (with_reducible ((repeat (first | apply GH.ok_push | apply GH.ok_set)); assumption)) | ((try simp only [GH.push_hid, GH.set_hid]); first | assumption | (refine GH.vis ?_ ?_ <;> first | assumption | ((try simp only [GH.pn, GH.sn]) <;> omega)))) only [go_sem, ↓reduceIte, Nat.reduceEqDiff, Nat.reduceAdd, Int.reduceToNat, Int.reduceAdd, Int.reduceNeg, Int.reduceSub, Int.reduceMul, Int.reduceLT, Int.reduceLE, Int.reduceEq, ↓GH.gp_eq, ↓GH.gp_ne, ↓GH.gs_eq, ↓GH.gs_ne, GH.push_next, GH.set_next, hl]
  refine Wk.loops (fun m e g' lo => g.next ≤ lo ∧ Kept g g' ∧ ∃ i : Nat, i + m = P.length ∧ (ev e (.s 0) = s ∧ ev e (.s 1) = p ∧ ev e (.s 6) = .int .i64 (i : Nat) ∧ ev e (.s 5) = .int .i64 (tkn (P.take i) 0 : Nat)) ∧ matI L (P.take i) = true)
    (fun e g' lo => g.next ≤ lo ∧ r = true) (n := P.length) ?_ ?_ ?_
  · refine ⟨Nat.le_refl _, Kept.refl _, 0, by omega, ?_, rfl⟩
    rw [List.take_zero]
    show _ ∧ _ ∧ _ ∧ _ = Value.int .i64 0
    exact (by simp +decide (disch := first | assumption | (apply GH.ok_push; assumption) | exact cellV_int _ _ | exact cellV_bool _ | omega) only [go_sem, ↓reduceIte, Nat.reduceEqDiff, Nat.reduceAdd, Int.reduceToNat, hl]; first | done | exact rfl)
  · rintro e g' lo - - ⟨hlo, h⟩
    simp +decide (disch := first | assumption | exact cellV_int _ _ | exact cellV_bool _ | omega | (simp only [GH.pn, GH.sn] <;> omega) | (with_reducible ((repeat (first | apply GH.ok_push | apply GH.ok_set)); assumption)) | ((try simp only [GH.push_hid, GH.set_hid]); first | assumption | (refine GH.vis ?_ ?_ <;> first | assumption | ((try simp only [GH.pn, GH.sn]) <;> omega)))) only [go_sem, ↓reduceIte, Nat.reduceEqDiff, Nat.reduceAdd, Int.reduceToNat, Int.reduceAdd, Int.reduceNeg, Int.reduceSub, Int.reduceMul, Int.reduceLT, Int.reduceLE, Int.reduceEq, ↓GH.gp_eq, ↓GH.gp_ne, ↓GH.gs_eq, ↓GH.gs_ne, GH.push_next, GH.set_next]
    intro hx0
    exact ⟨hlo, by rw [h]⟩
  · rintro m e g' lo ho' hl' ih out ⟨hlo, hk, i, hi, he, hm⟩
    have hkn := hk.next
    by_cases ci : i < P.length
    case neg =>
      have ci' : ¬ (i : Int) < P.length := by omega
      simp +decide (disch := first | assumption | exact cellV_int _ _ | exact cellV_bool _ | omega | (simp only [GH.pn, GH.sn] <;> omega) | (with_reducible ((repeat (first | apply GH.ok_push | apply GH.ok_set)); assumption)) | ((try simp only [GH.push_hid, GH.set_hid]); first | assumption | (refine GH.vis ?_ ?_ <;> first | assumption | ((try simp only [GH.pn, GH.sn]) <;> omega)))) only [go_sem, ↓reduceIte, Nat.reduceEqDiff, Nat.reduceAdd, Int.reduceToNat, Int.reduceAdd, Int.reduceNeg, Int.reduceSub, Int.reduceMul, Int.reduceLT, Int.reduceLE, Int.reduceEq, ↓GH.gp_eq, ↓GH.gp_ne, ↓GH.gs_eq, ↓GH.gs_ne, GH.push_next, GH.set_next, he, ci', hl]
      have : i = P.length := by omega
      subst this
      rw [List.take_length] at hm
      exact out _ _ _ ⟨hlo, by rw [← hr, hm]⟩
    have ci' : (i : Int) < P.length := by omega
    obtain ⟨j, a, hj, hp1, hp2, hp3⟩ := (hp.kept hk).ptr ci
    have hp1 := hp1 (i : Int) rfl
    rw [cellsI_drop P i ci] at hp3
    have hbad := mat_bad L P i ci
    have htk := mat_take L P i ci
    rw [hm, Bool.true_and] at htk
    have htt := take_tkn P i ci
    obtain ⟨hv1, hv2, hv3⟩ := mat_inv hL10 _ hm
    have hla0 : i = 0 → lastM (P.take i) = -1 := by rintro rfl; rfl
    have hlas : 0 < i → ∃ (h : i - 1 < P.length), lastM (P.take i) = P[i - 1].1 := fun h => by
      obtain ⟨k, rfl⟩ : ∃ k, i = k + 1 := ⟨i - 1, by omega⟩
      exact ⟨by omega, take_last P k (by omega)⟩
    obtain ⟨q, hq⟩ : ∃ q, P[i] = q := ⟨_, rfl⟩
    obtain ⟨x, y⟩ := q
    rw [hq] at hp3 hbad htk htt
    dsimp only at hp3 hbad htk htt
    generalize hla : lastM (P.take i) = la at *
    generalize htka : tkn (P.take i) 0 = tk at *
    have hg0 : (g'.push (cellsOb [.int .i64 0, .int .i64 0] 56)).get g'.next = cellsOb [.int .i64 0, .int .i64 0] 56 := (by simp (disch := first | assumption | exact cellV_int _ _ | exact cellV_bool _ | omega | (simp only [GH.pn, GH.sn] <;> omega) | (with_reducible ((repeat (first | apply GH.ok_push | apply GH.ok_set)); assumption)) | ((try simp only [GH.push_hid, GH.set_hid]); first | assumption | (refine GH.vis ?_ ?_ <;> first | assumption | ((try simp only [GH.pn, GH.sn]) <;> omega)))) only [↓GH.gp_eq, ↓GH.gp_ne, ↓GH.gs_eq, ↓GH.gs_ne, GH.push_next, GH.set_next]; first | done | exact rfl)
    have hgL : ((g'.push (cellsOb [.int .i64 0, .int .i64 0] 56)).set g'.next (cellsOb [.int .i64 x, .int .i64 y] 56)).get g'.next = cellsOb [.int .i64 x, .int .i64 y] 56 := (by simp (disch := first | assumption | exact cellV_int _ _ | exact cellV_bool _ | omega | (simp only [GH.pn, GH.sn] <;> omega) | (with_reducible ((repeat (first | apply GH.ok_push | apply GH.ok_set)); assumption)) | ((try simp only [GH.push_hid, GH.set_hid]); first | assumption | (refine GH.vis ?_ ?_ <;> first | assumption | ((try simp only [GH.pn, GH.sn]) <;> omega)))) only [↓GH.gp_eq, ↓GH.gp_ne, ↓GH.gs_eq, ↓GH.gs_ne, GH.push_next, GH.set_next]; first | done | exact rfl)
    have hkL : Kept g ((g'.push (cellsOb [.int .i64 0, .int .i64 0] 56)).set g'.next (cellsOb [.int .i64 x, .int .i64 y] 56)) := (by (repeat' first | exact Kept.refl _ | assumption | refine Kept.push ?_ ?_ _ | refine Kept.setV ?_ ?_ ?_ _) <;> (first | assumption | exact cellV_int _ _ | exact cellV_bool _ | omega | (simp only [GH.pn, GH.sn] <;> omega) | (with_reducible ((repeat (first | apply GH.ok_push | apply GH.ok_set)); assumption)) | ((try simp only [GH.push_hid, GH.set_hid]); first | assumption | (refine GH.vis ?_ ?_ <;> first | assumption | ((try simp only [GH.pn, GH.sn]) <;> omega)))))
    have hsp : splice 0 [Value.int .i64 0, Value.int .i64 0] [Value.int .i64 x, Value.int .i64 y] = [.int .i64 x, .int .i64 y] := Eq.trans rfl rfl
    have hob : obLoad none (cellsOb [.int .i64 x, .int .i64 y] 56) 0 = some (.int .i64 x) := rfl
    have hob2 : obLoad none (cellsOb [.int .i64 x, .int .i64 y] 56) 1 = some (.int .i64 y) := rfl
    simp +decide (disch := first | assumption | (apply GH.ok_push; assumption) | exact cellV_int _ _ | exact cellV_bool _ | omega) only [go_sem, ↓reduceIte, Nat.reduceEqDiff, Nat.reduceAdd, Int.reduceToNat, he, ci', hl, hp1, hp3, hg0, hsp]
    simp only [hgL, hob, oV_s]
    refine envR (fun e => ev e (.s 0) = s ∧ ev e (.s 1) = p ∧ ev e (.s 6) = .int .i64 (i : Nat) ∧ ev e (.s 5) = .int .i64 (tk : Nat) ∧ ev e (.s 7) = ptrTo g'.next ∧ ev e (.s 19) = .int .i64 x) ?h0 (fun e he => ?_)
    case h0 => exact (by simp +decide (disch := first | assumption | (apply GH.ok_push; assumption) | exact cellV_int _ _ | exact cellV_bool _ | omega) only [go_sem, ↓reduceIte, Nat.reduceEqDiff, Nat.reduceAdd, Int.reduceToNat, he]; first | done | exact rfl)
    refine Wk.nameR fun G hG => ?_
    have hkG : Kept g G := by rw [hG]; exact hkL
    have hnG : G.next = g'.next + 1 := by rw [hG]; rfl
    have hltG : g'.next < G.next := by omega
    have hg1 : G.get g'.next = cellsOb [.int .i64 x, .int .i64 y] 56 := by rw [hG]; exact hgL
    clear hG hkL hgL hg0
    by_cases f0 : x < 0
    · simp +decide (disch := first | assumption | (apply GH.ok_push; assumption) | exact cellV_int _ _ | exact cellV_bool _ | omega) only [go_sem, ↓reduceIte, Nat.reduceEqDiff, Nat.reduceAdd, Int.reduceToNat, he, hnG, f0]
      intro hx0
      exact ⟨by omega, by rw [← hr, hbad (by unfold goodP; rw [decide_eq_false (p := la < x) (by omega)]; rfl)]⟩
    by_cases f2 : y ≤ x
    · simp +decide (disch := first | assumption | (apply GH.ok_push; assumption) | exact cellV_int _ _ | exact cellV_bool _ | omega) only [go_sem, ↓reduceIte, Nat.reduceEqDiff, Nat.reduceAdd, Int.reduceToNat, he, hnG, hg1, hob, hob2, oV_s, f0, f2]
      intro hx0
      exact ⟨by omega, by rw [← hr, hbad (by unfold goodP; rw [decide_eq_false (p := x < y) (by omega), Bool.and_false]; rfl)]⟩
    by_cases f3 : (L.length : Int) ≤ y
    · simp +decide (disch := first | assumption | (apply GH.ok_push; assumption) | exact cellV_int _ _ | exact cellV_bool _ | omega) only [go_sem, ↓reduceIte, Nat.reduceEqDiff, Nat.reduceAdd, Int.reduceToNat, he, hnG, hls, hg1, hob, hob2, oV_s, f0, f2, f3]
      intro hx0
      exact ⟨by omega, by rw [← hr, hbad (by unfold goodP; rw [decide_eq_false (p := y < (L.length : Int)) (by omega), Bool.and_false]; rfl)]⟩
    obtain ⟨nx, rfl⟩ : ∃ nx : Nat, x = nx := ⟨x.toNat, by omega⟩
    obtain ⟨ny, rfl⟩ : ∃ ny : Nat, y = ny := ⟨y.toNat, by omega⟩
    have hxn : nx < L.length := by omega
    obtain ⟨j2, o2, hj2, hq1, hq2⟩ := (hs.kept hkG).ptr (ints_get (D := L) (i := nx) hxn)
    have hq1 := hq1 (nx : Int) rfl
    rw [(hA nx hxn).1] at hq2
    have hq2' := hq2 0
    simp only [go_sem] at hq2'
    have n1 : ¬ (nx : Int) < 0 := by omega
    have n2 : ¬ (ny : Int) < 0 := by omega
    have r1 := shr_fact ((setF L nx : Nat) : Int) ny (by omega)
    have r2 := rem_nat (setF L nx) ny
    have r3 := shr_fact ((tk : Nat) : Int) nx (by omega)
    have r4 := rem_nat tk nx
    have r5 := shr_fact ((tk : Nat) : Int) ny (by omega)
    have r6 := rem_nat tk ny
    have hgd : goodP L la tk nx ny = (decide (la < (nx : Int)) && (setF L nx).testBit ny && !tk.testBit nx && !tk.testBit ny) := by
      unfold goodP
      rw [decide_eq_true (p := (nx : Int) < ny) (by omega), decide_eq_true (p := (ny : Int) < L.length) (by omega), Bool.and_true, Bool.and_true]
      rfl
    simp +decide (disch := first | assumption | (apply GH.ok_push; assumption) | exact cellV_int _ _ | exact cellV_bool _ | omega) only [go_sem, ↓reduceIte, Nat.reduceEqDiff, Nat.reduceAdd, Int.reduceToNat, he, hnG, hls, hg1, hob, hob2, oV_s, f0, f2, f3, hq1]
    simp only [hq2', oV_s]
    refine envR (fun e => ev e (.s 0) = s ∧ ev e (.s 1) = p ∧ ev e (.s 6) = .int .i64 (i : Nat) ∧ ev e (.s 5) = .int .i64 (tk : Nat) ∧ ev e (.s 7) = ptrTo g'.next ∧ ev e (.s 35) = .bool false ∧ ev e (.s 40) = .int .i64 (setF L nx : Nat)) ?h2 (fun e he => ?_)
    case h2 => exact (by simp +decide (disch := first | assumption | (apply GH.ok_push; assumption) | exact cellV_int _ _ | exact cellV_bool _ | omega) only [go_sem, ↓reduceIte, Nat.reduceEqDiff, Nat.reduceAdd, Int.reduceToNat, he]; first | done | exact rfl)
    cases cb : (setF L nx).testBit ny with
    | false =>
      rw [cb] at r2
      have r2' : (((setF L nx : Nat) : Int) / 2 ^ ny).tmod 2 = 0 := r2
      simp +decide (disch := first | assumption | (apply GH.ok_push; assumption) | exact cellV_int _ _ | exact cellV_bool _ | omega) only [go_sem, ↓reduceIte, Nat.reduceEqDiff, Nat.reduceAdd, Int.reduceToNat, he, hnG, hg1, hob2, oV_s, ib_shr n2, r1, r2']
      intro hx0
      exact ⟨by omega, by rw [← hr, hbad (by rw [hgd, cb, Bool.and_false]; rfl)]⟩
    | true =>
    rw [cb] at r2 hgd
    have r2' : (((setF L nx : Nat) : Int) / 2 ^ ny).tmod 2 = 1 := r2
    cases ca : tk.testBit nx with
    | true =>
      rw [ca] at r4
      have r4' : ((tk : Int) / 2 ^ nx).tmod 2 = 1 := r4
      simp +decide (disch := first | assumption | (apply GH.ok_push; assumption) | exact cellV_int _ _ | exact cellV_bool _ | omega) only [go_sem, ↓reduceIte, Nat.reduceEqDiff, Nat.reduceAdd, Int.reduceToNat, he, hnG, hg1, hob, hob2, oV_s, ib_shr n2, ib_shr n1, r1, r2', r3, r4']
      intro hx0
      exact ⟨by omega, by rw [← hr, hbad (by rw [hgd, ca]; simp)]⟩
    | false =>
    rw [ca] at r4 hgd
    have r4' : ((tk : Int) / 2 ^ nx).tmod 2 = 0 := r4
    cases cc : tk.testBit ny with
    | true =>
      rw [cc] at r6
      have r6' : ((tk : Int) / 2 ^ ny).tmod 2 = 1 := r6
      simp +decide (disch := first | assumption | (apply GH.ok_push; assumption) | exact cellV_int _ _ | exact cellV_bool _ | omega) only [go_sem, ↓reduceIte, Nat.reduceEqDiff, Nat.reduceAdd, Int.reduceToNat, he, hnG, hg1, hob, hob2, oV_s, ib_shr n2, ib_shr n1, r1, r2', r3, r4', r5, r6']
      intro hx0
      exact ⟨by omega, by rw [← hr, hbad (by rw [hgd, cc]; simp)]⟩
    | false =>
    rw [cc] at r6 hgd
    have r6' : ((tk : Int) / 2 ^ ny).tmod 2 = 0 := r6
    have s1 := shl_i (k := nx) (by omega)
    have s2 := shl_i (k := ny) (by omega)
    have l1 := two_lt (k := nx) (by omega)
    have l2 := two_lt (k := ny) (by omega)
    have hv3' : tk < 2 ^ 10 := hv3
    have l3 := or_lt hv3' (show nx < 10 by omega)
    have o1 := or_i (a := tk) (b := 2 ^ nx) (by omega) (by omega)
    have o2' := or_i (a := tk ||| 2 ^ nx) (b := 2 ^ ny) (by omega) (by omega)
    by_cases ci0 : i = 0
    · have hla' := hla0 ci0
      have hgd' : goodP L la tk nx ny = true := by rw [hgd, decide_eq_true (p := la < (nx : Int)) (by omega)]; rfl
      rw [hgd'] at htk
      have i0 : ¬ (0 : Int) < (i : Nat) := by omega
      simp +decide (disch := first | assumption | (apply GH.ok_push; assumption) | exact cellV_int _ _ | exact cellV_bool _ | omega) only [go_sem, ↓reduceIte, Nat.reduceEqDiff, Nat.reduceAdd, Int.reduceToNat, he, hnG, hg1, hob, hob2, oV_s, ib_shr n2, ib_shr n1, r1, r2', r3, r4', r5, r6', i0, s1, s2, o1, o2']
      refine ih (m - 1) _ _ _ (by omega) ⟨by omega, hkG, i + 1, by omega, ?_, htk⟩
      rw [htt]
      exact (by simp +decide (disch := first | assumption | (apply GH.ok_push; assumption) | exact cellV_int _ _ | exact cellV_bool _ | omega) only [go_sem, ↓reduceIte, Nat.reduceEqDiff, Nat.reduceAdd, Int.reduceToNat, he]; first | done | exact rfl)
    · obtain ⟨hi1, hla'⟩ := hlas (by omega)
      have i0 : (0 : Int) < (i : Nat) := by omega
      obtain ⟨j3, a3, hj3, ht1, ht2, ht3⟩ := (hp.kept hkG).ptr hi1
      have ht1 := ht1 ((i : Int) - 1) (by omega)
      obtain ⟨c1, c2⟩ := cellsI_get P (i - 1) hi1
      have ht20 := fun lo => ht2 lo 0 _ (by omega) c1
      rw [Nat.add_zero, ← hla'] at ht20
      by_cases f5 : la < (nx : Int)
      · have hgd' : goodP L la tk nx ny = true := by rw [hgd, decide_eq_true f5]; rfl
        rw [hgd'] at htk
        have f5' : ¬ (nx : Int) ≤ la := by omega
        simp +decide (disch := first | assumption | (apply GH.ok_push; assumption) | exact cellV_int _ _ | exact cellV_bool _ | omega) only [go_sem, ↓reduceIte, Nat.reduceEqDiff, Nat.reduceAdd, Int.reduceToNat, he, hnG, hg1, hob, hob2, oV_s, ib_shr n2, ib_shr n1, r1, r2', r3, r4', r5, r6', i0, ht1, ht20, s1, s2, o1, o2', f5']
        refine ih (m - 1) _ _ _ (by omega) ⟨by omega, hkG, i + 1, by omega, ?_, htk⟩
        rw [htt]
        exact (by simp +decide (disch := first | assumption | (apply GH.ok_push; assumption) | exact cellV_int _ _ | exact cellV_bool _ | omega) only [go_sem, ↓reduceIte, Nat.reduceEqDiff, Nat.reduceAdd, Int.reduceToNat, he]; first | done | exact rfl)
      · have f5' : (nx : Int) ≤ la := by omega
        simp +decide (disch := first | assumption | (apply GH.ok_push; assumption) | exact cellV_int _ _ | exact cellV_bool _ | omega) only [go_sem, ↓reduceIte, Nat.reduceEqDiff, Nat.reduceAdd, Int.reduceToNat, he, hnG, hg1, hob, hob2, oV_s, ib_shr n2, ib_shr n1, r1, r2', r3, r4', r5, r6', i0, ht1, ht20, f5']
        intro hx0
        exact ⟨by omega, by rw [← hr, hbad (by rw [hgd, decide_eq_false f5]; rfl)]⟩
end Go.Proofs.YtnpapnpedcbfnaaDoor
set_option maxRecDepth 100000
set_option maxHeartbeats 4000000
set_option linter.unusedSimpArgs false
set_option linter.unusedVariables false
namespace Go.Proofs.YtnpapnpedcbfnaaDoor
open Go.Ds Go.Vs
theorem refAnswer_rets {X : Caller} (hX : Xfr X) (L : List Int) (hL : L.length ≤ 40) (s p : Value) (P : List (Int × Int)) (hP : P.length ≤ 1000) (h : Int) (g : GH) (hs : SlR g s (ints L)) (hp : SlQ g p 2 P.length (cellsI P)) :
    Rets Tryd.prog X 34 [s, p, .int .i64 h] g (fun v g' lo => g.next ≤ lo ∧ v = ansV L P h) := by
  have hl := hp.len
  have hls := hs.len
  rw [ints_len] at hls
  generalize hr : ansV L P h = r
  refine Rets.run hX.pres p34 (hX.free 34 (by decide) _ _) rfl fun ho => ?_
  simp +decide (disch := first | assumption | exact cellV_int _ _ | exact cellV_bool _ | omega | (simp only [GH.pn, GH.sn] <;> omega) | (with_reducible ((repeat (first | apply GH.ok_push | apply GH.ok_set)); assumption)) | ((try simp only [GH.push_hid, GH.set_hid]); first | assumption | (refine GH.vis ?_ ?_ <;> first | assumption | ((try simp only [GH.pn, GH.sn]) <;> omega)))) only [go_sem, ↓reduceIte, Nat.reduceEqDiff, Nat.reduceAdd, Int.reduceToNat, Int.reduceAdd, Int.reduceNeg, Int.reduceSub, Int.reduceMul, Int.reduceLT, Int.reduceLE, Int.reduceEq, ↓GH.gp_eq, ↓GH.gp_ne, ↓GH.gs_eq, ↓GH.gs_ne, GH.push_next, GH.set_next]
  refine CallD.calm (refIsShop_rets hX L hL s g hs) ?_
  rintro v g1 hx1 rfl
  have hn1 := hx1.next
  cases hz : shopB L with
  | false =>
    simp +decide (disch := first | assumption | exact cellV_int _ _ | exact cellV_bool _ | omega | (simp only [GH.pn, GH.sn] <;> omega) | (with_reducible ((repeat (first | apply GH.ok_push | apply GH.ok_set)); assumption)) | ((try simp only [GH.push_hid, GH.set_hid]); first | assumption | (refine GH.vis ?_ ?_ <;> first | assumption | ((try simp only [GH.pn, GH.sn]) <;> omega)))) only [go_sem, ↓reduceIte, Nat.reduceEqDiff, Nat.reduceAdd, Int.reduceToNat, Int.reduceAdd, Int.reduceNeg, Int.reduceSub, Int.reduceMul, Int.reduceLT, Int.reduceLE, Int.reduceEq, ↓GH.gp_eq, ↓GH.gp_ne, ↓GH.gs_eq, ↓GH.gs_ne, GH.push_next, GH.set_next]
    intro hx0
    exact ⟨by omega, by rw [← hr, ansV, hz]; rfl⟩
  | true =>
  simp +decide (disch := first | assumption | exact cellV_int _ _ | exact cellV_bool _ | omega | (simp only [GH.pn, GH.sn] <;> omega) | (with_reducible ((repeat (first | apply GH.ok_push | apply GH.ok_set)); assumption)) | ((try simp only [GH.push_hid, GH.set_hid]); first | assumption | (refine GH.vis ?_ ?_ <;> first | assumption | ((try simp only [GH.pn, GH.sn]) <;> omega)))) only [go_sem, ↓reduceIte, Nat.reduceEqDiff, Nat.reduceAdd, Int.reduceToNat, Int.reduceAdd, Int.reduceNeg, Int.reduceSub, Int.reduceMul, Int.reduceLT, Int.reduceLE, Int.reduceEq, ↓GH.gp_eq, ↓GH.gp_ne, ↓GH.gs_eq, ↓GH.gs_ne, GH.push_next, GH.set_next]
  refine CallD.calm (refMatching_rets hX L hz s p P hP g1 (hs.ext hx1) (hp.kept hx1.kept)) ?_
  rintro v g2 hx2 rfl
  have hn2 := hx2.next
  have hk2 := hx1.kept.ext hx2
  cases hm : matI L P with
  | false =>
    simp +decide (disch := first | assumption | exact cellV_int _ _ | exact cellV_bool _ | omega | (simp only [GH.pn, GH.sn] <;> omega) | (with_reducible ((repeat (first | apply GH.ok_push | apply GH.ok_set)); assumption)) | ((try simp only [GH.push_hid, GH.set_hid]); first | assumption | (refine GH.vis ?_ ?_ <;> first | assumption | ((try simp only [GH.pn, GH.sn]) <;> omega)))) only [go_sem, ↓reduceIte, Nat.reduceEqDiff, Nat.reduceAdd, Int.reduceToNat, Int.reduceAdd, Int.reduceNeg, Int.reduceSub, Int.reduceMul, Int.reduceLT, Int.reduceLE, Int.reduceEq, ↓GH.gp_eq, ↓GH.gp_ne, ↓GH.gs_eq, ↓GH.gs_ne, GH.push_next, GH.set_next]
    intro hx0
    exact ⟨by omega, by rw [← hr, ansV, hz, hm]; rfl⟩
  | true =>
  by_cases h0 : h < 0
  · simp +decide (disch := first | assumption | exact cellV_int _ _ | exact cellV_bool _ | omega | (simp only [GH.pn, GH.sn] <;> omega) | (with_reducible ((repeat (first | apply GH.ok_push | apply GH.ok_set)); assumption)) | ((try simp only [GH.push_hid, GH.set_hid]); first | assumption | (refine GH.vis ?_ ?_ <;> first | assumption | ((try simp only [GH.pn, GH.sn]) <;> omega)))) only [go_sem, ↓reduceIte, Nat.reduceEqDiff, Nat.reduceAdd, Int.reduceToNat, Int.reduceAdd, Int.reduceNeg, Int.reduceSub, Int.reduceMul, Int.reduceLT, Int.reduceLE, Int.reduceEq, ↓GH.gp_eq, ↓GH.gp_ne, ↓GH.gs_eq, ↓GH.gs_ne, GH.push_next, GH.set_next, h0]
    intro hx0
    exact ⟨by omega, by rw [← hr, ansV, hz, hm, decide_eq_false (p := 0 ≤ h) (by omega)]; rfl⟩
  by_cases h1 : (L.length : Int) ≤ h
  · simp +decide (disch := first | assumption | exact cellV_int _ _ | exact cellV_bool _ | omega | (simp only [GH.pn, GH.sn] <;> omega) | (with_reducible ((repeat (first | apply GH.ok_push | apply GH.ok_set)); assumption)) | ((try simp only [GH.push_hid, GH.set_hid]); first | assumption | (refine GH.vis ?_ ?_ <;> first | assumption | ((try simp only [GH.pn, GH.sn]) <;> omega)))) only [go_sem, ↓reduceIte, Nat.reduceEqDiff, Nat.reduceAdd, Int.reduceToNat, Int.reduceAdd, Int.reduceNeg, Int.reduceSub, Int.reduceMul, Int.reduceLT, Int.reduceLE, Int.reduceEq, ↓GH.gp_eq, ↓GH.gp_ne, ↓GH.gs_eq, ↓GH.gs_ne, GH.push_next, GH.set_next, h0, h1, hls]
    intro hx0
    exact ⟨by omega, by rw [← hr, ansV, hz, hm, decide_eq_false (p := h < (L.length : Int)) (by omega), Bool.and_false]; rfl⟩
  have hr : r = .tuple #[.int .i64 (ansF P h), .int .i64 0] := by rw [← hr, ansV, hz, hm, decide_eq_true (p := h < (L.length : Int)) (by omega), decide_eq_true (p := 0 ≤ h) (by omega)]; rfl
  simp +decide (disch := first | assumption | exact cellV_int _ _ | exact cellV_bool _ | omega | (simp only [GH.pn, GH.sn] <;> omega) | (with_reducible ((repeat (first | apply GH.ok_push | apply GH.ok_set)); assumption)) | ((try simp only [GH.push_hid, GH.set_hid]); first | assumption | (refine GH.vis ?_ ?_ <;> first | assumption | ((try simp only [GH.pn, GH.sn]) <;> omega)))) only [go_sem, ↓reduceIte, Nat.reduceEqDiff, Nat.reduceAdd, Int.reduceToNat, Int.reduceAdd, Int.reduceNeg, Int.reduceSub, Int.reduceMul, Int.reduceLT, Int.reduceLE, Int.reduceEq, ↓GH.gp_eq, ↓GH.gp_ne, ↓GH.gs_eq, ↓GH.gs_ne, GH.push_next, GH.set_next, h0, h1, hls]
  refine Wk.loops (fun m e g' lo => g.next ≤ lo ∧ Kept g g' ∧ ∃ i : Nat, i + m = P.length ∧ (ev e (.s 2) = .int .i64 h ∧ ev e (.s 1) = p ∧ ev e (.s 8) = .int .i64 (i : Nat)) ∧ ansF (P.drop i) h = ansF P h)
    (fun e g' lo => g.next ≤ lo ∧ ansF P h = -1) (n := P.length) ?_ ?_ ?_
  · exact ⟨by omega, hk2, 0, by omega, (by simp +decide (disch := first | assumption | (apply GH.ok_push; assumption) | exact cellV_int _ _ | exact cellV_bool _ | omega) only [go_sem, ↓reduceIte, Nat.reduceEqDiff, Nat.reduceAdd, Int.reduceToNat, hl]; first | done | exact rfl), rfl⟩
  · rintro e g' lo - - ⟨hlo, hq⟩
    simp +decide (disch := first | assumption | exact cellV_int _ _ | exact cellV_bool _ | omega | (simp only [GH.pn, GH.sn] <;> omega) | (with_reducible ((repeat (first | apply GH.ok_push | apply GH.ok_set)); assumption)) | ((try simp only [GH.push_hid, GH.set_hid]); first | assumption | (refine GH.vis ?_ ?_ <;> first | assumption | ((try simp only [GH.pn, GH.sn]) <;> omega)))) only [go_sem, ↓reduceIte, Nat.reduceEqDiff, Nat.reduceAdd, Int.reduceToNat, Int.reduceAdd, Int.reduceNeg, Int.reduceSub, Int.reduceMul, Int.reduceLT, Int.reduceLE, Int.reduceEq, ↓GH.gp_eq, ↓GH.gp_ne, ↓GH.gs_eq, ↓GH.gs_ne, GH.push_next, GH.set_next]
    intro hx0
    exact ⟨hlo, by rw [hr, hq]⟩
  · rintro m e g' lo ho' hl' ih out ⟨hlo, hk, i, hi, he, ha⟩
    have hkn := hk.next
    by_cases ci : i < P.length
    case neg =>
      have ci' : ¬ (i : Int) < P.length := by omega
      simp +decide (disch := first | assumption | exact cellV_int _ _ | exact cellV_bool _ | omega | (simp only [GH.pn, GH.sn] <;> omega) | (with_reducible ((repeat (first | apply GH.ok_push | apply GH.ok_set)); assumption)) | ((try simp only [GH.push_hid, GH.set_hid]); first | assumption | (refine GH.vis ?_ ?_ <;> first | assumption | ((try simp only [GH.pn, GH.sn]) <;> omega)))) only [go_sem, ↓reduceIte, Nat.reduceEqDiff, Nat.reduceAdd, Int.reduceToNat, Int.reduceAdd, Int.reduceNeg, Int.reduceSub, Int.reduceMul, Int.reduceLT, Int.reduceLE, Int.reduceEq, ↓GH.gp_eq, ↓GH.gp_ne, ↓GH.gs_eq, ↓GH.gs_ne, GH.push_next, GH.set_next, he, hl, ci']
      have : i = P.length := by omega
      subst this
      rw [List.drop_length] at ha
      exact out _ _ _ ⟨hlo, ha.symm⟩
    have ci' : (i : Int) < P.length := by omega
    obtain ⟨j, a, hj, hp1, hp2, hp3⟩ := (hp.kept hk).ptr ci
    have hp1 := hp1 (i : Int) rfl
    have had := ans_drop P i ci h
    rw [ha] at had
    obtain ⟨c1, c2⟩ := cellsI_get P i ci
    obtain ⟨q, hq⟩ : ∃ q, P[i] = q := ⟨_, rfl⟩
    obtain ⟨x, y⟩ := q
    rw [hq] at c1 c2 had
    dsimp only at c1 c2 had
    have hp20 := fun lo => hp2 lo 0 _ (by omega) c1
    have hp21 := fun lo => hp2 lo 1 _ (by omega) c2
    rw [Nat.add_zero] at hp20
    by_cases f1 : x = h
    · subst f1
      simp +decide (disch := first | assumption | exact cellV_int _ _ | exact cellV_bool _ | omega | (simp only [GH.pn, GH.sn] <;> omega) | (with_reducible ((repeat (first | apply GH.ok_push | apply GH.ok_set)); assumption)) | ((try simp only [GH.push_hid, GH.set_hid]); first | assumption | (refine GH.vis ?_ ?_ <;> first | assumption | ((try simp only [GH.pn, GH.sn]) <;> omega)))) only [go_sem, ↓reduceIte, Nat.reduceEqDiff, Nat.reduceAdd, Int.reduceToNat, Int.reduceAdd, Int.reduceNeg, Int.reduceSub, Int.reduceMul, Int.reduceLT, Int.reduceLE, Int.reduceEq, ↓GH.gp_eq, ↓GH.gp_ne, ↓GH.gs_eq, ↓GH.gs_ne, GH.push_next, GH.set_next, he, ci', hl, hp1, hp20, hp21]
      intro hx0
      exact ⟨by omega, by rw [hr, had, if_pos rfl]⟩
    by_cases f2 : y = h
    · subst f2
      simp +decide (disch := first | assumption | exact cellV_int _ _ | exact cellV_bool _ | omega | (simp only [GH.pn, GH.sn] <;> omega) | (with_reducible ((repeat (first | apply GH.ok_push | apply GH.ok_set)); assumption)) | ((try simp only [GH.push_hid, GH.set_hid]); first | assumption | (refine GH.vis ?_ ?_ <;> first | assumption | ((try simp only [GH.pn, GH.sn]) <;> omega)))) only [go_sem, ↓reduceIte, Nat.reduceEqDiff, Nat.reduceAdd, Int.reduceToNat, Int.reduceAdd, Int.reduceNeg, Int.reduceSub, Int.reduceMul, Int.reduceLT, Int.reduceLE, Int.reduceEq, ↓GH.gp_eq, ↓GH.gp_ne, ↓GH.gs_eq, ↓GH.gs_ne, GH.push_next, GH.set_next, he, ci', hl, hp1, hp20, hp21, f1]
      intro hx0
      exact ⟨by omega, by rw [hr, had, if_neg f1, if_pos rfl]⟩
    simp +decide (disch := first | assumption | exact cellV_int _ _ | exact cellV_bool _ | omega | (simp only [GH.pn, GH.sn] <;> omega) | (with_reducible ((repeat (first | apply GH.ok_push | apply GH.ok_set)); assumption)) | ((try simp only [GH.push_hid, GH.set_hid]); first | assumption | (refine GH.vis ?_ ?_ <;> first | assumption | ((try simp only [GH.pn, GH.sn]) <;> omega)))) only [go_sem, ↓reduceIte, Nat.reduceEqDiff, Nat.reduceAdd, Int.reduceToNat, Int.reduceAdd, Int.reduceNeg, Int.reduceSub, Int.reduceMul, Int.reduceLT, Int.reduceLE, Int.reduceEq, ↓GH.gp_eq, ↓GH.gp_ne, ↓GH.gs_eq, ↓GH.gs_ne, GH.push_next, GH.set_next, he, ci', hl, hp1, hp20, hp21, f1, f2]
    exact ih (m - 1) _ _ _ (by omega) ⟨by omega, hk, i + 1, by omega, (by simp +decide (disch := first | assumption | (apply GH.ok_push; assumption) | exact cellV_int _ _ | exact cellV_bool _ | omega) only [go_sem, ↓reduceIte, Nat.reduceEqDiff, Nat.reduceAdd, Int.reduceToNat, he]; first | done | exact rfl), by rw [had, if_neg f1, if_neg f2]⟩
theorem ansV_ext (L : List Int) (P : List (Int × Int)) (h : Int) : ∃ a b, ansV L P h = .tuple #[.int .i64 a, .int .i64 b] := by
  unfold ansV
  split
  · exact ⟨_, _, rfl⟩
  · exact ⟨_, _, rfl⟩
theorem answersLaw_rets {X : Caller} (hX : Xok X) (L : List Int) (s p : Value) (P : List (Int × Int)) (h : Int) (g : GH) (hT : HasTab g) (hs : SlR g s (ints L)) (hp : SlQ g p 2 P.length (cellsI P)) :
    Rets Tryd.prog X 6 [s, p, .int .i64 h] g (fun v g' lo => g.next ≤ lo ∧ v = .bool true) := by
  have hl := hs.len
  rw [ints_len] at hl
  have hlp := hp.len
  refine Rets.run hX.pres p6 (hX.free 6 (by decide) _ _) rfl fun ho => ?_
  simp +decide (disch := first | assumption | exact cellV_int _ _ | exact cellV_bool _ | omega | (simp only [GH.pn, GH.sn] <;> omega) | (with_reducible ((repeat (first | apply GH.ok_push | apply GH.ok_set)); assumption)) | ((try simp only [GH.push_hid, GH.set_hid]); first | assumption | (refine GH.vis ?_ ?_ <;> first | assumption | ((try simp only [GH.pn, GH.sn]) <;> omega)))) only [go_sem, ↓reduceIte, Nat.reduceEqDiff, Nat.reduceAdd, Int.reduceToNat, Int.reduceAdd, Int.reduceNeg, Int.reduceSub, Int.reduceMul, Int.reduceLT, Int.reduceLE, Int.reduceEq, ↓GH.gp_eq, ↓GH.gp_ne, ↓GH.gs_eq, ↓GH.gs_ne, GH.push_next, GH.set_next]
  refine CallD.calm (few_rets hX.toXfr s p _ _ hl hlp g) ?_
  rintro v g1 hx1 rfl
  have hn1 := hx1.next
  have hT1 := hT.ext hx1
  cases hf : (decide (L.length ≤ 40) && decide (P.length ≤ 40)) with
  | false =>
    simp +decide (disch := first | assumption | exact cellV_int _ _ | exact cellV_bool _ | omega | (simp only [GH.pn, GH.sn] <;> omega) | (with_reducible ((repeat (first | apply GH.ok_push | apply GH.ok_set)); assumption)) | ((try simp only [GH.push_hid, GH.set_hid]); first | assumption | (refine GH.vis ?_ ?_ <;> first | assumption | ((try simp only [GH.pn, GH.sn]) <;> omega)))) only [go_sem, ↓reduceIte, Nat.reduceEqDiff, Nat.reduceAdd, Int.reduceToNat, Int.reduceAdd, Int.reduceNeg, Int.reduceSub, Int.reduceMul, Int.reduceLT, Int.reduceLE, Int.reduceEq, ↓GH.gp_eq, ↓GH.gp_ne, ↓GH.gs_eq, ↓GH.gs_ne, GH.push_next, GH.set_next]
    refine CallD.calm (hX.alive g1 hT1) ?_
    rintro v g2 hx2 rfl
    have hn2 := hx2.next
    simp +decide (disch := first | assumption | exact cellV_int _ _ | exact cellV_bool _ | omega | (simp only [GH.pn, GH.sn] <;> omega) | (with_reducible ((repeat (first | apply GH.ok_push | apply GH.ok_set)); assumption)) | ((try simp only [GH.push_hid, GH.set_hid]); first | assumption | (refine GH.vis ?_ ?_ <;> first | assumption | ((try simp only [GH.pn, GH.sn]) <;> omega)))) only [go_sem, ↓reduceIte, Nat.reduceEqDiff, Nat.reduceAdd, Int.reduceToNat, Int.reduceAdd, Int.reduceNeg, Int.reduceSub, Int.reduceMul, Int.reduceLT, Int.reduceLE, Int.reduceEq, ↓GH.gp_eq, ↓GH.gp_ne, ↓GH.gs_eq, ↓GH.gs_ne, GH.push_next, GH.set_next]
    intro hx0
    exact ⟨by omega, rfl⟩
  | true =>
  rw [Bool.and_eq_true, decide_eq_true_eq, decide_eq_true_eq] at hf
  have a1 := answer_rets hX.toXfr L hf.1 s p P (by omega) h g1 (hs.ext hx1) (hp.kept hx1.kept)
  have a2 := fun (G : GH) (hk : Kept g G) => refAnswer_rets hX.toXfr L hf.1 s p P (by omega) h G (hs.kept hk) (hp.kept hk)
  obtain ⟨a, b, hab⟩ := ansV_ext L P h
  rw [hab] at a1
  simp only [hab] at a2
  simp +decide (disch := first | assumption | exact cellV_int _ _ | exact cellV_bool _ | omega | (simp only [GH.pn, GH.sn] <;> omega) | (with_reducible ((repeat (first | apply GH.ok_push | apply GH.ok_set)); assumption)) | ((try simp only [GH.push_hid, GH.set_hid]); first | assumption | (refine GH.vis ?_ ?_ <;> first | assumption | ((try simp only [GH.pn, GH.sn]) <;> omega)))) only [go_sem, ↓reduceIte, Nat.reduceEqDiff, Nat.reduceAdd, Int.reduceToNat, Int.reduceAdd, Int.reduceNeg, Int.reduceSub, Int.reduceMul, Int.reduceLT, Int.reduceLE, Int.reduceEq, ↓GH.gp_eq, ↓GH.gp_ne, ↓GH.gs_eq, ↓GH.gs_ne, GH.push_next, GH.set_next]
  refine CallD.calm a1 ?_
  rintro v g2 hx2 rfl
  have hn2 := hx2.next
  have hk2 : Kept g g2 := hx1.kept.ext hx2
  simp +decide (disch := first | assumption | exact cellV_int _ _ | exact cellV_bool _ | omega | (simp only [GH.pn, GH.sn] <;> omega) | (with_reducible ((repeat (first | apply GH.ok_push | apply GH.ok_set)); assumption)) | ((try simp only [GH.push_hid, GH.set_hid]); first | assumption | (refine GH.vis ?_ ?_ <;> first | assumption | ((try simp only [GH.pn, GH.sn]) <;> omega)))) only [go_sem, ↓reduceIte, Nat.reduceEqDiff, Nat.reduceAdd, Int.reduceToNat, Int.reduceAdd, Int.reduceNeg, Int.reduceSub, Int.reduceMul, Int.reduceLT, Int.reduceLE, Int.reduceEq, ↓GH.gp_eq, ↓GH.gp_ne, ↓GH.gs_eq, ↓GH.gs_ne, GH.push_next, GH.set_next, ext20, ext21]
  refine CallD.calm (a2 g2 hk2) ?_
  rintro v g3 hx3 rfl
  have hn3 := hx3.next
  have hk3 : Kept g g3 := hk2.ext hx3
  simp +decide (disch := first | assumption | exact cellV_int _ _ | exact cellV_bool _ | omega | (simp only [GH.pn, GH.sn] <;> omega) | (with_reducible ((repeat (first | apply GH.ok_push | apply GH.ok_set)); assumption)) | ((try simp only [GH.push_hid, GH.set_hid]); first | assumption | (refine GH.vis ?_ ?_ <;> first | assumption | ((try simp only [GH.pn, GH.sn]) <;> omega)))) only [go_sem, ↓reduceIte, Nat.reduceEqDiff, Nat.reduceAdd, Int.reduceToNat, Int.reduceAdd, Int.reduceNeg, Int.reduceSub, Int.reduceMul, Int.reduceLT, Int.reduceLE, Int.reduceEq, ↓GH.gp_eq, ↓GH.gp_ne, ↓GH.gs_eq, ↓GH.gs_ne, GH.push_next, GH.set_next, ext20, ext21]
  refine CallD.calm (hX.alive g3 (hT.kept hk3)) ?_
  rintro v g4 hx4 rfl
  have hn4 := hx4.next
  simp +decide (disch := first | assumption | exact cellV_int _ _ | exact cellV_bool _ | omega | (simp only [GH.pn, GH.sn] <;> omega) | (with_reducible ((repeat (first | apply GH.ok_push | apply GH.ok_set)); assumption)) | ((try simp only [GH.push_hid, GH.set_hid]); first | assumption | (refine GH.vis ?_ ?_ <;> first | assumption | ((try simp only [GH.pn, GH.sn]) <;> omega)))) only [go_sem, ↓reduceIte, Nat.reduceEqDiff, Nat.reduceAdd, Int.reduceToNat, Int.reduceAdd, Int.reduceNeg, Int.reduceSub, Int.reduceMul, Int.reduceLT, Int.reduceLE, Int.reduceEq, ↓GH.gp_eq, ↓GH.gp_ne, ↓GH.gs_eq, ↓GH.gs_ne, GH.push_next, GH.set_next]
  intro hx0
  exact ⟨by omega, rfl⟩
end Go.Proofs.YtnpapnpedcbfnaaDoor
