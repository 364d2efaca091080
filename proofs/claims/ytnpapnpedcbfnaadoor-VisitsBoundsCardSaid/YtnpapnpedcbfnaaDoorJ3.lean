import Derived.Test.YtnpapnpedcbfnaaDoorJ2
set_option linter.all false
set_option linter.unusedSimpArgs false
set_option linter.unnecessarySimpa false
set_option linter.unusedVariables false
set_option linter.unusedSectionVars false
set_option linter.unusedVariables false
namespace Go.Proofs.YtnpapnpedcbfnaaDoor
open Go.Vs
/-! ## Pairs that are a matching -/
theorem scan_mat {L : List Int} : ∀ (P : List (Int × Int)) (last : Int) (tk s : Nat), -1 ≤ last → (∀ j, s.testBit j = (decide (j < L.length) && decide (last < (j : Int)) && !tk.testBit j)) → scanM L P last tk = true → ∃ Q, P = toI Q ∧ mat (setF L) s Q = true
  | [], last, tk, s, _, _, _ => ⟨[], rfl, rfl⟩
  | (x, y) :: P, last, tk, s, hl, hs, h => by
    have h : (goodP L last tk x y && scanM L P x (tk ||| 2 ^ x.toNat ||| 2 ^ y.toNat)) = true := h
    rw [Bool.and_eq_true] at h
    obtain ⟨h1, h2⟩ := h
    unfold goodP at h1
    simp only [Bool.and_eq_true, decide_eq_true_eq, Bool.not_eq_true'] at h1
    obtain ⟨⟨⟨⟨⟨q1, q2⟩, q3⟩, q4⟩, q5⟩, q6⟩ := h1
    obtain ⟨a, rfl⟩ : ∃ a : Nat, x = a := ⟨x.toNat, by omega⟩
    obtain ⟨b, rfl⟩ : ∃ b : Nat, y = b := ⟨y.toNat, by omega⟩
    simp only [Int.toNat_natCast] at q4 q5 q6 h2
    obtain ⟨Q, hQ, hm⟩ := scan_mat P a (tk ||| 2 ^ a ||| 2 ^ b) (del (up s a) b) (by omega) (fun j => by
      rw [del_bit, up_bit, hs, Nat.testBit_or, Nat.testBit_or]
      by_cases c1 : j < L.length
      · by_cases c2 : a < j
        · have e1 : (2 ^ a).testBit j = false := Nat.testBit_two_pow_of_ne (by omega)
          rw [decide_eq_true c1, decide_eq_true (p := last < (j : Int)) (by omega), decide_eq_true c2, decide_eq_true (p := (a : Int) < j) (by omega), e1]
          by_cases c3 : j = b
          · subst c3; rw [Nat.testBit_two_pow_self]; simp
          · rw [Nat.testBit_two_pow_of_ne (Ne.symm c3)]; simp [c3]
        · rw [decide_eq_false c2, decide_eq_false (p := (a : Int) < j) (by omega)]; simp
      · rw [decide_eq_false c1]; simp) h2
    refine ⟨(a, b) :: Q, by rw [hQ]; rfl, mat_mk (by omega) ?_ ?_ q4 hm⟩
    · rw [hs, q5, decide_eq_true (p := a < L.length) (by omega), decide_eq_true (p := last < (a : Int)) (by omega)]; rfl
    · rw [hs, q6, decide_eq_true (p := b < L.length) (by omega), decide_eq_true (p := last < (b : Int)) (by omega)]; rfl
theorem matI_mat {L : List Int} {P : List (Int × Int)} (h : matI L P = true) : ∃ Q, P = toI Q ∧ mat (setF L) (allN L.length) Q = true :=
  scan_mat P (-1) 0 (allN L.length) (by omega) (fun j => by
    rw [all_bit, decide_eq_true (p := (-1 : Int) < (j : Int)) (by omega)]
    simp) h
theorem all_lt (n : Nat) : allN n < 2 ^ n := by unfold allN; have := Nat.two_pow_pos n; omega
end Go.Proofs.YtnpapnpedcbfnaaDoor
set_option maxRecDepth 100000
set_option maxHeartbeats 4000000
set_option linter.unusedSimpArgs false
set_option linter.unusedVariables false
namespace Go.Proofs.YtnpapnpedcbfnaaDoor
open Go.Ds Go.Vs
theorem ext20 (a b : Value) : extF (.tuple #[a, b]) 0 = some a := Eq.trans rfl rfl
theorem ext21 (a b : Value) : extF (.tuple #[a, b]) 1 = some b := Eq.trans rfl rfl
theorem eqA_ne (a b c d : Int) : eqAF true 2 (.agg #[.int .i64 a, .int .i64 b]) (.agg #[.int .i64 c, .int .i64 d]) = some (.bool (!(decide (a = c) && decide (b = d)))) := by
  simp [eqAF, intEqs, kindEq, eq_i]
  cases decide (a = c) <;> cases decide (b = d) <;> rfl
theorem cellsP_drop (L : List (Nat × Nat)) (i : Nat) (h : i < L.length) : (((cellsP L).drop (i * 2)).take 2).toArray = #[.int .i64 (L[i].1 : Int), .int .i64 (L[i].2 : Int)] := by
  have h1 := cellsI_drop (toI L) i (by simpa [toI] using h)
  rw [cellsI_toI] at h1
  rw [h1]
  simp [toI]
theorem cellsP_get (L : List (Nat × Nat)) (i : Nat) (h : i < L.length) : (cellsP L)[i * 2]? = some (.int .i64 (L[i].1 : Int)) ∧ (cellsP L)[i * 2 + 1]? = some (.int .i64 (L[i].2 : Int)) := by
  have h1 := cellsI_get (toI L) i (by simpa [toI] using h)
  rw [cellsI_toI] at h1
  simpa [toI] using h1
theorem firstLaw_rets {X : Caller} (hX : Xok X) (L : List Int) (s p : Value) (P : List (Int × Int)) (g : GH) (hT : HasTab g) (hs : SlR g s (ints L)) (hp : SlQ g p 2 P.length (cellsI P)) :
    Rets Tryd.prog X 14 [s, p] g (fun v g' lo => g.next ≤ lo ∧ v = .bool true) := by
  have hl := hs.len
  rw [ints_len] at hl
  have hlp := hp.len
  refine Rets.run hX.pres p14 (hX.free 14 (by decide) _ _) rfl fun ho => ?_
  simp +decide (disch := first | assumption | exact cellV_int _ _ | exact cellV_bool _ | omega | (simp only [GH.pn, GH.sn] <;> omega) | (with_reducible ((repeat (first | apply GH.ok_push | apply GH.ok_set)); assumption)) | ((try simp only [GH.push_hid, GH.set_hid]); first | assumption | (refine GH.vis ?_ ?_ <;> first | assumption | ((try simp only [GH.pn, GH.sn]) <;> omega)))) only [go_sem, ↓reduceIte, Nat.reduceEqDiff, Nat.reduceAdd, Int.reduceToNat, Int.reduceAdd, Int.reduceNeg, Int.reduceSub, Int.reduceMul, Int.reduceLT, Int.reduceLE, Int.reduceEq, ↓GH.gp_eq, ↓GH.gp_ne, ↓GH.gs_eq, ↓GH.gs_ne, GH.push_next, GH.set_next]
  refine CallD.calm (few_rets hX.toXfr s p _ _ hl hlp g) ?_
  rintro v g1 hx1 rfl
  have hn1 := hx1.next
  have hT1 := hT.ext hx1
  cases hf : (decide (L.length ≤ 40) && decide (P.length ≤ 40)) with
  | false =>
    simp +decide (disch := first | assumption | exact cellV_int _ _ | exact cellV_bool _ | omega | (simp only [GH.pn, GH.sn] <;> omega) | (with_reducible ((repeat (first | apply GH.ok_push | apply GH.ok_set)); assumption)) | ((try simp only [GH.push_hid, GH.set_hid]); first | assumption | (refine GH.vis ?_ ?_ <;> first | assumption | ((try simp only [GH.pn, GH.sn]) <;> omega)))) only [go_sem, ↓reduceIte, Nat.reduceEqDiff, Nat.reduceAdd, Int.reduceToNat, Int.reduceAdd, Int.reduceNeg, Int.reduceSub, Int.reduceMul, Int.reduceLT, Int.reduceLE, Int.reduceEq, ↓GH.gp_eq, ↓GH.gp_ne, ↓GH.gs_eq, ↓GH.gs_ne, GH.push_next, GH.set_next]
    refine CallD.calm (hX.alive g1 hT1) ?_
    rintro v g2 hx2 rfl
    have hn2 := hx2.next
    simp +decide (disch := first | assumption | exact cellV_int _ _ | exact cellV_bool _ | omega | (simp only [GH.pn, GH.sn] <;> omega) | (with_reducible ((repeat (first | apply GH.ok_push | apply GH.ok_set)); assumption)) | ((try simp only [GH.push_hid, GH.set_hid]); first | assumption | (refine GH.vis ?_ ?_ <;> first | assumption | ((try simp only [GH.pn, GH.sn]) <;> omega)))) only [go_sem, ↓reduceIte, Nat.reduceEqDiff, Nat.reduceAdd, Int.reduceToNat, Int.reduceAdd, Int.reduceNeg, Int.reduceSub, Int.reduceMul, Int.reduceLT, Int.reduceLE, Int.reduceEq, ↓GH.gp_eq, ↓GH.gp_ne, ↓GH.gs_eq, ↓GH.gs_ne, GH.push_next, GH.set_next]
    intro hx0
    exact ⟨by omega, rfl⟩
  | true =>
  rw [Bool.and_eq_true, decide_eq_true_eq, decide_eq_true_eq] at hf
  simp +decide (disch := first | assumption | exact cellV_int _ _ | exact cellV_bool _ | omega | (simp only [GH.pn, GH.sn] <;> omega) | (with_reducible ((repeat (first | apply GH.ok_push | apply GH.ok_set)); assumption)) | ((try simp only [GH.push_hid, GH.set_hid]); first | assumption | (refine GH.vis ?_ ?_ <;> first | assumption | ((try simp only [GH.pn, GH.sn]) <;> omega)))) only [go_sem, ↓reduceIte, Nat.reduceEqDiff, Nat.reduceAdd, Int.reduceToNat, Int.reduceAdd, Int.reduceNeg, Int.reduceSub, Int.reduceMul, Int.reduceLT, Int.reduceLE, Int.reduceEq, ↓GH.gp_eq, ↓GH.gp_ne, ↓GH.gs_eq, ↓GH.gs_ne, GH.push_next, GH.set_next]
  refine CallD.calm (refIsShop_rets hX.toXfr L hf.1 s g1 (hs.ext hx1)) ?_
  rintro v g2 hx2 rfl
  have hn2 := hx2.next
  have hT2 := hT1.ext hx2
  have hk2 : Kept g g2 := hx1.kept.ext hx2
  cases hz : shopB L with
  | false =>
    simp +decide (disch := first | assumption | exact cellV_int _ _ | exact cellV_bool _ | omega | (simp only [GH.pn, GH.sn] <;> omega) | (with_reducible ((repeat (first | apply GH.ok_push | apply GH.ok_set)); assumption)) | ((try simp only [GH.push_hid, GH.set_hid]); first | assumption | (refine GH.vis ?_ ?_ <;> first | assumption | ((try simp only [GH.pn, GH.sn]) <;> omega)))) only [go_sem, ↓reduceIte, Nat.reduceEqDiff, Nat.reduceAdd, Int.reduceToNat, Int.reduceAdd, Int.reduceNeg, Int.reduceSub, Int.reduceMul, Int.reduceLT, Int.reduceLE, Int.reduceEq, ↓GH.gp_eq, ↓GH.gp_ne, ↓GH.gs_eq, ↓GH.gs_ne, GH.push_next, GH.set_next]
    refine CallD.calm (hX.alive g2 hT2) ?_
    rintro v g3 hx3 rfl
    have hn3 := hx3.next
    simp +decide (disch := first | assumption | exact cellV_int _ _ | exact cellV_bool _ | omega | (simp only [GH.pn, GH.sn] <;> omega) | (with_reducible ((repeat (first | apply GH.ok_push | apply GH.ok_set)); assumption)) | ((try simp only [GH.push_hid, GH.set_hid]); first | assumption | (refine GH.vis ?_ ?_ <;> first | assumption | ((try simp only [GH.pn, GH.sn]) <;> omega)))) only [go_sem, ↓reduceIte, Nat.reduceEqDiff, Nat.reduceAdd, Int.reduceToNat, Int.reduceAdd, Int.reduceNeg, Int.reduceSub, Int.reduceMul, Int.reduceLT, Int.reduceLE, Int.reduceEq, ↓GH.gp_eq, ↓GH.gp_ne, ↓GH.gs_eq, ↓GH.gs_ne, GH.push_next, GH.set_next]
    intro hx0
    exact ⟨by omega, rfl⟩
  | true =>
  obtain ⟨hL1, hL10, hA⟩ := shop_ok hz
  simp +decide (disch := first | assumption | exact cellV_int _ _ | exact cellV_bool _ | omega | (simp only [GH.pn, GH.sn] <;> omega) | (with_reducible ((repeat (first | apply GH.ok_push | apply GH.ok_set)); assumption)) | ((try simp only [GH.push_hid, GH.set_hid]); first | assumption | (refine GH.vis ?_ ?_ <;> first | assumption | ((try simp only [GH.pn, GH.sn]) <;> omega)))) only [go_sem, ↓reduceIte, Nat.reduceEqDiff, Nat.reduceAdd, Int.reduceToNat, Int.reduceAdd, Int.reduceNeg, Int.reduceSub, Int.reduceMul, Int.reduceLT, Int.reduceLE, Int.reduceEq, ↓GH.gp_eq, ↓GH.gp_ne, ↓GH.gs_eq, ↓GH.gs_ne, GH.push_next, GH.set_next]
  refine CallD.calm (Largest_rets hX L hz s g2 hT2 (hs.kept hk2)) ?_
  rintro v g3 hx3 ⟨hok3, hk3, o, rfl, hown3⟩
  have hn3 := hx3.next
  have hk3' := hk2.trans hk3
  simp +decide (disch := first | assumption | exact cellV_int _ _ | exact cellV_bool _ | omega | (simp only [GH.pn, GH.sn] <;> omega) | (with_reducible ((repeat (first | apply GH.ok_push | apply GH.ok_set)); assumption)) | ((try simp only [GH.push_hid, GH.set_hid]); first | assumption | (refine GH.vis ?_ ?_ <;> first | assumption | ((try simp only [GH.pn, GH.sn]) <;> omega)))) only [go_sem, ↓reduceIte, Nat.reduceEqDiff, Nat.reduceAdd, Int.reduceToNat, Int.reduceAdd, Int.reduceNeg, Int.reduceSub, Int.reduceMul, Int.reduceLT, Int.reduceLE, Int.reduceEq, ↓GH.gp_eq, ↓GH.gp_ne, ↓GH.gs_eq, ↓GH.gs_ne, GH.push_next, GH.set_next, ext20, ext21]
  refine CallD.calm (IsMatching_rets hX.toXfr L hf.1 s p P (by omega) g3 (hs.kept hk3') (hp.kept hk3')) ?_
  rintro v g4 hx4 rfl
  have hn4 := hx4.next
  have hk4 := hk3'.ext hx4
  have hown4 := (hown3.kept hx4.kept).read
  have hlo := hown4.len
  rw [hz, if_pos rfl]
  have hT4 := hT.kept hk4
  have hT4 := hT.kept hk4
  cases hm : matI L P with
  | false =>
    simp +decide (disch := first | assumption | exact cellV_int _ _ | exact cellV_bool _ | omega | (simp only [GH.pn, GH.sn] <;> omega) | (with_reducible ((repeat (first | apply GH.ok_push | apply GH.ok_set)); assumption)) | ((try simp only [GH.push_hid, GH.set_hid]); first | assumption | (refine GH.vis ?_ ?_ <;> first | assumption | ((try simp only [GH.pn, GH.sn]) <;> omega)))) only [go_sem, ↓reduceIte, Nat.reduceEqDiff, Nat.reduceAdd, Int.reduceToNat, Int.reduceAdd, Int.reduceNeg, Int.reduceSub, Int.reduceMul, Int.reduceLT, Int.reduceLE, Int.reduceEq, ↓GH.gp_eq, ↓GH.gp_ne, ↓GH.gs_eq, ↓GH.gs_ne, GH.push_next, GH.set_next, ext20, ext21]
    refine CallD.calm (hX.alive g4 hT4) ?_
    rintro v g5 hx5 rfl
    have hn5 := hx5.next
    simp +decide (disch := first | assumption | exact cellV_int _ _ | exact cellV_bool _ | omega | (simp only [GH.pn, GH.sn] <;> omega) | (with_reducible ((repeat (first | apply GH.ok_push | apply GH.ok_set)); assumption)) | ((try simp only [GH.push_hid, GH.set_hid]); first | assumption | (refine GH.vis ?_ ?_ <;> first | assumption | ((try simp only [GH.pn, GH.sn]) <;> omega)))) only [go_sem, ↓reduceIte, Nat.reduceEqDiff, Nat.reduceAdd, Int.reduceToNat, Int.reduceAdd, Int.reduceNeg, Int.reduceSub, Int.reduceMul, Int.reduceLT, Int.reduceLE, Int.reduceEq, ↓GH.gp_eq, ↓GH.gp_ne, ↓GH.gs_eq, ↓GH.gs_ne, GH.push_next, GH.set_next]
    intro hx0
    exact ⟨by omega, rfl⟩
  | true =>
  obtain ⟨Q, rfl, hmq⟩ := matI_mat hm
  have hfirst := lrg_first (n := L.length) (allN L.length) (all_lt L.length) Q hmq
  rw [← lrg_len] at hfirst
  generalize lrg (setF L) L.length (allN L.length) = R at *
  have hQl : (toI Q).length = Q.length := by simp [toI]
  rw [hQl] at hlp hp
  rw [cellsI_toI] at hp
  by_cases hlen : (Q.length : Int) = R.length
  case neg =>
    simp +decide (disch := first | assumption | exact cellV_int _ _ | exact cellV_bool _ | omega | (simp only [GH.pn, GH.sn] <;> omega) | (with_reducible ((repeat (first | apply GH.ok_push | apply GH.ok_set)); assumption)) | ((try simp only [GH.push_hid, GH.set_hid]); first | assumption | (refine GH.vis ?_ ?_ <;> first | assumption | ((try simp only [GH.pn, GH.sn]) <;> omega)))) only [go_sem, ↓reduceIte, Nat.reduceEqDiff, Nat.reduceAdd, Int.reduceToNat, Int.reduceAdd, Int.reduceNeg, Int.reduceSub, Int.reduceMul, Int.reduceLT, Int.reduceLE, Int.reduceEq, ↓GH.gp_eq, ↓GH.gp_ne, ↓GH.gs_eq, ↓GH.gs_ne, GH.push_next, GH.set_next, hlp, hlo, hlen, ext20, ext21]
    refine CallD.calm (hX.alive g4 hT4) ?_
    rintro v g5 hx5 rfl
    have hn5 := hx5.next
    simp +decide (disch := first | assumption | exact cellV_int _ _ | exact cellV_bool _ | omega | (simp only [GH.pn, GH.sn] <;> omega) | (with_reducible ((repeat (first | apply GH.ok_push | apply GH.ok_set)); assumption)) | ((try simp only [GH.push_hid, GH.set_hid]); first | assumption | (refine GH.vis ?_ ?_ <;> first | assumption | ((try simp only [GH.pn, GH.sn]) <;> omega)))) only [go_sem, ↓reduceIte, Nat.reduceEqDiff, Nat.reduceAdd, Int.reduceToNat, Int.reduceAdd, Int.reduceNeg, Int.reduceSub, Int.reduceMul, Int.reduceLT, Int.reduceLE, Int.reduceEq, ↓GH.gp_eq, ↓GH.gp_ne, ↓GH.gs_eq, ↓GH.gs_ne, GH.push_next, GH.set_next]
    intro hx0
    exact ⟨by omega, rfl⟩
  have hlen' : Q.length = R.length := by omega
  simp +decide (disch := first | assumption | exact cellV_int _ _ | exact cellV_bool _ | omega | (simp only [GH.pn, GH.sn] <;> omega) | (with_reducible ((repeat (first | apply GH.ok_push | apply GH.ok_set)); assumption)) | ((try simp only [GH.push_hid, GH.set_hid]); first | assumption | (refine GH.vis ?_ ?_ <;> first | assumption | ((try simp only [GH.pn, GH.sn]) <;> omega)))) only [go_sem, ↓reduceIte, Nat.reduceEqDiff, Nat.reduceAdd, Int.reduceToNat, Int.reduceAdd, Int.reduceNeg, Int.reduceSub, Int.reduceMul, Int.reduceLT, Int.reduceLE, Int.reduceEq, ↓GH.gp_eq, ↓GH.gp_ne, ↓GH.gs_eq, ↓GH.gs_ne, GH.push_next, GH.set_next, hlp, hlo, hlen, ext20, ext21]
  refine Wk.loops (fun m e g' lo => g.next ≤ lo ∧ Kept g4 g' ∧ ∃ i : Nat, i + m = Q.length ∧ (ev e (.s 1) = p ∧ ev e (.s 5) = o ∧ ev e (.s 9) = .int .i64 (i : Nat)) ∧ ∀ j, j < i → Q[j]? = R[j]?)
    (fun e g' lo => g.next ≤ lo ∧ Kept g4 g') (n := Q.length) ?_ ?_ ?_
  · exact ⟨by omega, Kept.refl _, 0, by omega, (by simp +decide (disch := first | assumption | (apply GH.ok_push; assumption) | exact cellV_int _ _ | exact cellV_bool _ | omega) only [go_sem, ↓reduceIte, Nat.reduceEqDiff, Nat.reduceAdd, Int.reduceToNat]; first | done | exact rfl), fun j hj => by omega⟩
  · rintro e g' lo hog hlg ⟨hlo', hk⟩
    simp +decide (disch := first | assumption | exact cellV_int _ _ | exact cellV_bool _ | omega | (simp only [GH.pn, GH.sn] <;> omega) | (with_reducible ((repeat (first | apply GH.ok_push | apply GH.ok_set)); assumption)) | ((try simp only [GH.push_hid, GH.set_hid]); first | assumption | (refine GH.vis ?_ ?_ <;> first | assumption | ((try simp only [GH.pn, GH.sn]) <;> omega)))) only [go_sem, ↓reduceIte, Nat.reduceEqDiff, Nat.reduceAdd, Int.reduceToNat, Int.reduceAdd, Int.reduceNeg, Int.reduceSub, Int.reduceMul, Int.reduceLT, Int.reduceLE, Int.reduceEq, ↓GH.gp_eq, ↓GH.gp_ne, ↓GH.gs_eq, ↓GH.gs_ne, GH.push_next, GH.set_next]
    refine CallD.calm (hX.alive g' (hT4.kept hk)) ?_
    rintro v g5 hx5 rfl
    simp +decide (disch := first | assumption | exact cellV_int _ _ | exact cellV_bool _ | omega | (simp only [GH.pn, GH.sn] <;> omega) | (with_reducible ((repeat (first | apply GH.ok_push | apply GH.ok_set)); assumption)) | ((try simp only [GH.push_hid, GH.set_hid]); first | assumption | (refine GH.vis ?_ ?_ <;> first | assumption | ((try simp only [GH.pn, GH.sn]) <;> omega)))) only [go_sem, ↓reduceIte, Nat.reduceEqDiff, Nat.reduceAdd, Int.reduceToNat, Int.reduceAdd, Int.reduceNeg, Int.reduceSub, Int.reduceMul, Int.reduceLT, Int.reduceLE, Int.reduceEq, ↓GH.gp_eq, ↓GH.gp_ne, ↓GH.gs_eq, ↓GH.gs_ne, GH.push_next, GH.set_next]
    intro hx0
    exact ⟨by omega, rfl⟩
  · rintro m e g' lo ho' hl' ih out ⟨hlo', hk, i, hi, he, hsame⟩
    have hkn := hk.next
    by_cases ci : i < Q.length
    case neg =>
      have ci' : ¬ (i : Int) < Q.length := by omega
      simp +decide (disch := first | assumption | exact cellV_int _ _ | exact cellV_bool _ | omega | (simp only [GH.pn, GH.sn] <;> omega) | (with_reducible ((repeat (first | apply GH.ok_push | apply GH.ok_set)); assumption)) | ((try simp only [GH.push_hid, GH.set_hid]); first | assumption | (refine GH.vis ?_ ?_ <;> first | assumption | ((try simp only [GH.pn, GH.sn]) <;> omega)))) only [go_sem, ↓reduceIte, Nat.reduceEqDiff, Nat.reduceAdd, Int.reduceToNat, Int.reduceAdd, Int.reduceNeg, Int.reduceSub, Int.reduceMul, Int.reduceLT, Int.reduceLE, Int.reduceEq, ↓GH.gp_eq, ↓GH.gp_ne, ↓GH.gs_eq, ↓GH.gs_ne, GH.push_next, GH.set_next, he, hlp, ci']
      exact out _ _ _ ⟨hlo', hk⟩
    have ci' : (i : Int) < Q.length := by omega
    have ciR : i < R.length := by omega
    obtain ⟨j, a, hj, hp1, hp2, hp3⟩ := ((hp.kept hk4).kept hk).ptr ci
    have hp1 := hp1 (i : Int) rfl
    rw [cellsP_drop Q i ci] at hp3
    obtain ⟨j2, a2, hj2, hq1, hq2, hq3⟩ := (hown4.kept hk).ptr ciR
    have hq1 := hq1 (i : Int) rfl
    rw [cellsP_drop R i ciR] at hq3
    obtain ⟨c1, c2⟩ := cellsP_get Q i ci
    obtain ⟨d1, d2⟩ := cellsP_get R i ciR
    have hp20 := fun lo => hp2 lo 0 _ (by omega) c1
    have hp21 := fun lo => hp2 lo 1 _ (by omega) c2
    have hq20 := fun lo => hq2 lo 0 _ (by omega) d1
    have hq21 := fun lo => hq2 lo 1 _ (by omega) d2
    rw [Nat.add_zero] at hp20 hq20
    have hfi := fun (hh : Q.length = R.length) => hfirst hh i Q[i].1 Q[i].2 R[i].1 R[i].2 (List.getElem?_eq_getElem ci) (List.getElem?_eq_getElem ciR) hsame
    have hfi := hfi hlen'
    have hne : (Q[i].1 = R[i].1 ∧ Q[i].2 = R[i].2) → Q[i]? = R[i]? := fun ⟨h1, h2⟩ => by
      rw [List.getElem?_eq_getElem ci, List.getElem?_eq_getElem ciR]
      exact congrArg some (Prod.ext h1 h2)
    generalize Q[i].1 = qa at *
    generalize Q[i].2 = qb at *
    generalize R[i].1 = ra at *
    generalize R[i].2 = rb at *
    simp +decide (disch := first | assumption | exact cellV_int _ _ | exact cellV_bool _ | omega | (simp only [GH.pn, GH.sn] <;> omega) | (with_reducible ((repeat (first | apply GH.ok_push | apply GH.ok_set)); assumption)) | ((try simp only [GH.push_hid, GH.set_hid]); first | assumption | (refine GH.vis ?_ ?_ <;> first | assumption | ((try simp only [GH.pn, GH.sn]) <;> omega)))) only [go_sem, ↓reduceIte, Nat.reduceEqDiff, Nat.reduceAdd, Int.reduceToNat, Int.reduceAdd, Int.reduceNeg, Int.reduceSub, Int.reduceMul, Int.reduceLT, Int.reduceLE, Int.reduceEq, ↓GH.gp_eq, ↓GH.gp_ne, ↓GH.gs_eq, ↓GH.gs_ne, GH.push_next, GH.set_next, he, hlp, ci', hp1, hp3, hq1, hq3]
    by_cases h1 : qa = ra ∧ qb = rb
    · have hd : decide ((qa : Int) = ra) = true := decide_eq_true (by omega)
      have hd2 : decide ((qb : Int) = rb) = true := decide_eq_true (by omega)
      simp +decide (disch := first | assumption | exact cellV_int _ _ | exact cellV_bool _ | omega | (simp only [GH.pn, GH.sn] <;> omega) | (with_reducible ((repeat (first | apply GH.ok_push | apply GH.ok_set)); assumption)) | ((try simp only [GH.push_hid, GH.set_hid]); first | assumption | (refine GH.vis ?_ ?_ <;> first | assumption | ((try simp only [GH.pn, GH.sn]) <;> omega)))) only [go_sem, ↓reduceIte, Nat.reduceEqDiff, Nat.reduceAdd, Int.reduceToNat, Int.reduceAdd, Int.reduceNeg, Int.reduceSub, Int.reduceMul, Int.reduceLT, Int.reduceLE, Int.reduceEq, ↓GH.gp_eq, ↓GH.gp_ne, ↓GH.gs_eq, ↓GH.gs_ne, GH.push_next, GH.set_next, he, eqA_ne, hd, hd2]
      refine ih (m - 1) _ _ _ (by omega) ⟨hlo', hk, i + 1, by omega, (by simp +decide (disch := first | assumption | (apply GH.ok_push; assumption) | exact cellV_int _ _ | exact cellV_bool _ | omega) only [go_sem, ↓reduceIte, Nat.reduceEqDiff, Nat.reduceAdd, Int.reduceToNat, he]; first | done | exact rfl), fun j hj => ?_⟩
      rcases Nat.lt_succ_iff_lt_or_eq.1 hj with c | c
      · exact hsame j c
      · rw [c]; exact hne h1
    · have hd : (decide ((qa : Int) = ra) && decide ((qb : Int) = rb)) = false := by
        rw [Bool.and_eq_false_iff, decide_eq_false_iff_not, decide_eq_false_iff_not]; omega
      simp only [eqA_ne, hd, oV_s]
      refine envR (fun e => ev e (.s 1) = p ∧ ev e (.s 5) = o ∧ ev e (.s 9) = .int .i64 (i : Nat) ∧ ev e (.s 61) = .bool true) ?h0 (fun e he => ?_)
      case h0 => exact (by simp +decide (disch := first | assumption | (apply GH.ok_push; assumption) | exact cellV_int _ _ | exact cellV_bool _ | omega) only [go_sem, ↓reduceIte, Nat.reduceEqDiff, Nat.reduceAdd, Int.reduceToNat, he]; first | done | exact rfl)
      have hal := hX.alive g' (hT4.kept hk)
      have hfin := hfi
      by_cases f1 : (ra : Int) < qa
      · simp +decide (disch := first | assumption | exact cellV_int _ _ | exact cellV_bool _ | omega | (simp only [GH.pn, GH.sn] <;> omega) | (with_reducible ((repeat (first | apply GH.ok_push | apply GH.ok_set)); assumption)) | ((try simp only [GH.push_hid, GH.set_hid]); first | assumption | (refine GH.vis ?_ ?_ <;> first | assumption | ((try simp only [GH.pn, GH.sn]) <;> omega)))) only [go_sem, ↓reduceIte, Nat.reduceEqDiff, Nat.reduceAdd, Int.reduceToNat, Int.reduceAdd, Int.reduceNeg, Int.reduceSub, Int.reduceMul, Int.reduceLT, Int.reduceLE, Int.reduceEq, ↓GH.gp_eq, ↓GH.gp_ne, ↓GH.gs_eq, ↓GH.gs_ne, GH.push_next, GH.set_next, he, hp1, hp20, hp21, hq1, hq20, hq21, f1]
        refine CallD.calm hal ?_
        rintro v g5 hx5 rfl
        simp +decide (disch := first | assumption | exact cellV_int _ _ | exact cellV_bool _ | omega | (simp only [GH.pn, GH.sn] <;> omega) | (with_reducible ((repeat (first | apply GH.ok_push | apply GH.ok_set)); assumption)) | ((try simp only [GH.push_hid, GH.set_hid]); first | assumption | (refine GH.vis ?_ ?_ <;> first | assumption | ((try simp only [GH.pn, GH.sn]) <;> omega)))) only [go_sem, ↓reduceIte, Nat.reduceEqDiff, Nat.reduceAdd, Int.reduceToNat, Int.reduceAdd, Int.reduceNeg, Int.reduceSub, Int.reduceMul, Int.reduceLT, Int.reduceLE, Int.reduceEq, ↓GH.gp_eq, ↓GH.gp_ne, ↓GH.gs_eq, ↓GH.gs_ne, GH.push_next, GH.set_next]
        intro hx0
        exact ⟨by omega, rfl⟩
      · have f2 : (ra : Int) = qa := by omega
        have f3 : (rb : Int) < qb := by omega
        simp +decide (disch := first | assumption | exact cellV_int _ _ | exact cellV_bool _ | omega | (simp only [GH.pn, GH.sn] <;> omega) | (with_reducible ((repeat (first | apply GH.ok_push | apply GH.ok_set)); assumption)) | ((try simp only [GH.push_hid, GH.set_hid]); first | assumption | (refine GH.vis ?_ ?_ <;> first | assumption | ((try simp only [GH.pn, GH.sn]) <;> omega)))) only [go_sem, ↓reduceIte, Nat.reduceEqDiff, Nat.reduceAdd, Int.reduceToNat, Int.reduceAdd, Int.reduceNeg, Int.reduceSub, Int.reduceMul, Int.reduceLT, Int.reduceLE, Int.reduceEq, ↓GH.gp_eq, ↓GH.gp_ne, ↓GH.gs_eq, ↓GH.gs_ne, GH.push_next, GH.set_next, he, hp1, hp20, hp21, hq1, hq20, hq21, f1, f2, f3]
        refine CallD.calm hal ?_
        rintro v g5 hx5 rfl
        simp +decide (disch := first | assumption | exact cellV_int _ _ | exact cellV_bool _ | omega | (simp only [GH.pn, GH.sn] <;> omega) | (with_reducible ((repeat (first | apply GH.ok_push | apply GH.ok_set)); assumption)) | ((try simp only [GH.push_hid, GH.set_hid]); first | assumption | (refine GH.vis ?_ ?_ <;> first | assumption | ((try simp only [GH.pn, GH.sn]) <;> omega)))) only [go_sem, ↓reduceIte, Nat.reduceEqDiff, Nat.reduceAdd, Int.reduceToNat, Int.reduceAdd, Int.reduceNeg, Int.reduceSub, Int.reduceMul, Int.reduceLT, Int.reduceLE, Int.reduceEq, ↓GH.gp_eq, ↓GH.gp_ne, ↓GH.gs_eq, ↓GH.gs_ne, GH.push_next, GH.set_next]
        intro hx0
        exact ⟨by omega, rfl⟩
end Go.Proofs.YtnpapnpedcbfnaaDoor
set_option linter.unusedVariables false
namespace Go.Proofs.YtnpapnpedcbfnaaDoor
open Go.Vs
/-! ## How many members -/
def pc (n : Nat) (p : Nat → Bool) : Nat := (List.range n).countP p
theorem pc_more {p q : Nat → Bool} {n k : Nat} (hk : k < n) (hq : q k = true) (hp : p k = false) (h : ∀ j, p j = true → q j = true) : pc n p + 1 ≤ pc n q := by
  have h1 := countP_one (p := fun j => p j || decide (j = k)) (q := p) (k := k) (by simp) hp (fun j hj => by simp [hj]) n hk
  have h2 : (List.range n).countP (fun j => p j || decide (j = k)) ≤ (List.range n).countP q := by
    refine List.countP_mono_left fun j hj hh => ?_
    rw [Bool.or_eq_true, decide_eq_true_eq] at hh
    rcases hh with hh | hh
    · exact h j hh
    · rw [hh]; exact hq
  unfold pc
  omega
theorem pc_le {p q : Nat → Bool} {n : Nat} (h : ∀ j, j < n → p j = true → q j = true) : pc n p ≤ pc n q :=
  List.countP_mono_left fun j hj hh => h j (List.mem_range.1 hj) hh
theorem pc_or (n s k : Nat) : pc n (s ||| 2 ^ k).testBit ≤ pc n s.testBit + 1 := by
  by_cases c : k < n ∧ s.testBit k = false
  · have := countP_one (p := (s ||| 2 ^ k).testBit) (q := s.testBit) (k := k) (by rw [Nat.testBit_or, Nat.testBit_two_pow_self]; simp) c.2 (fun j hj => by rw [Nat.testBit_or, Nat.testBit_two_pow_of_ne (Ne.symm hj), Bool.or_false]) n c.1
    unfold pc
    omega
  · have : pc n (s ||| 2 ^ k).testBit ≤ pc n s.testBit := pc_le fun j hj hh => by
      rw [Nat.testBit_or, Bool.or_eq_true] at hh
      rcases hh with hh | hh
      · exact hh
      · by_cases cj : j = k
        · subst cj
          cases h : s.testBit j with
          | true => rfl
          | false => exact absurd ⟨hj, h⟩ c
        · rw [Nat.testBit_two_pow_of_ne (Ne.symm cj)] at hh; cases hh
    omega
def sz (s : Nat) : Nat := if h : s = 0 then 0 else s % 2 + sz (s / 2)
termination_by s
decreasing_by omega
theorem sz_pc : ∀ n s, s < 2 ^ n → sz s = pc n s.testBit
  | 0, s, h => by
    obtain rfl : s = 0 := by simpa using h
    unfold sz; rfl
  | n + 1, s, h => by
    have h2 : s / 2 < 2 ^ n := by rw [Nat.pow_succ] at h; omega
    have ih := sz_pc n (s / 2) h2
    have e : pc (n + 1) s.testBit = s % 2 + pc n (s / 2).testBit := by
      unfold pc
      rw [List.range_succ_eq_map, List.countP_cons, List.countP_map]
      have e1 : s.testBit ∘ Nat.succ = (s / 2).testBit := by
        funext j
        show s.testBit (j + 1) = _
        rw [Nat.testBit_succ]
      rw [e1, Nat.testBit_zero]
      by_cases c : s % 2 = 1
      · simp [c]; omega
      · simp [c]; omega
    unfold sz
    split
    · rename_i h0
      subst h0
      rw [e]
      have : sz 0 = 0 := by unfold sz; rfl
      rw [← ih, Nat.zero_div, this]
    · rw [e, ih]
/-! ## Covers -/
def covB (A : Nat → Nat) (S i : Nat) : Bool := S.testBit i || decide (andn (A i) S = 0)
theorem cov_adj {A : Nat → Nat} {n S a b : Nat} (hn : n ≤ 10) (hS : S < 2 ^ n) (hA : A a < 2 ^ n) (h : covB A S a = true) (hab : (A a).testBit b = true) : S.testBit a = true ∨ S.testBit b = true := by
  unfold covB at h
  rw [Bool.or_eq_true, decide_eq_true_eq] at h
  rcases h with h | h
  · exact .inl h
  · have hb := bit_lt hA hab
    have h2 : 2 ^ n ≤ 1024 := Nat.pow_le_pow_right (by decide) hn
    have := andn_bit (a := A a) (b := S) (k := b) (by omega) (by omega)
    rw [h, Nat.zero_testBit, hab, Bool.true_and] at this
    right
    simpa using this.symm
theorem cov_le {A : Nat → Nat} {n S : Nat} (hn : n ≤ 10) (hS : S < 2 ^ n) (hA : ∀ i, i < n → A i < 2 ^ n) (h : ∀ i, i < n → covB A S i = true) : ∀ (P : List (Nat × Nat)) (t : Nat), t < 2 ^ n → mat A t P = true → P.length ≤ pc n (fun j => S.testBit j && t.testBit j)
  | [], t, _, _ => Nat.zero_le _
  | (a, b) :: P, t, ht, hm => by
    obtain ⟨h1, h2, h3, h4, h5⟩ := mat_cons hm
    have ha := bit_lt ht h2
    have hb := bit_lt ht h3
    have hlt : del (up t a) b < 2 ^ n := by
      apply Nat.lt_pow_two_of_testBit
      intro j hj
      rw [del_bit, up_bit]
      have := Nat.testBit_lt_two_pow (Nat.lt_of_lt_of_le ht (Nat.pow_le_pow_right (by decide) hj))
      rw [this]; rfl
    have ih := cov_le hn hS hA h P (del (up t a) b) hlt h5
    have key : ∀ k, k < n → S.testBit k = true → t.testBit k = true → (del (up t a) b).testBit k = false → P.length + 1 ≤ pc n (fun j => S.testBit j && t.testBit j) := fun k hk q1 q2 q3 => by
      have := pc_more (p := fun j => S.testBit j && (del (up t a) b).testBit j) (q := fun j => S.testBit j && t.testBit j) (n := n) hk (by simp [q1, q2]) (by simp [q3]) (fun j hj => by
        rw [Bool.and_eq_true, del_bit, up_bit, Bool.and_eq_true, Bool.and_eq_true] at hj
        rw [hj.1, hj.2.1.1]; rfl)
      omega
    rw [List.length_cons]
    rcases cov_adj hn hS (hA a ha) (h a ha) h4 with q | q
    · exact key a ha q h2 (by rw [del_bit, up_bit]; simp)
    · exact key b hb q h3 (by rw [del_bit]; simp)
theorem cov_lrg {A : Nat → Nat} {n S : Nat} (hn : n ≤ 10) (hS : S < 2 ^ n) (hA : ∀ i, i < n → A i < 2 ^ n) (h : ∀ i, i < n → covB A S i = true) : (lrg A n (allN n)).length ≤ sz S := by
  have h1 := cov_le hn hS hA h _ (allN n) (all_lt n) (lrg_mat A n (allN n))
  rw [sz_pc n S hS]
  refine Nat.le_trans h1 (pc_le fun j hj hh => ?_)
  rw [Bool.and_eq_true] at hh
  exact hh.1
/-! ## What pairs have -/
theorem tkn_pc (n : Nat) : ∀ (P : List (Int × Int)) (tk : Nat), pc n (tkn P tk).testBit ≤ pc n tk.testBit + 2 * P.length
  | [], tk => by show pc n tk.testBit ≤ _; omega
  | (a, b) :: P, tk => by
    have h1 := tkn_pc n P (tk ||| 2 ^ a.toNat ||| 2 ^ b.toNat)
    have h2 := pc_or n tk a.toNat
    have h3 := pc_or n (tk ||| 2 ^ a.toNat) b.toNat
    show pc n (tkn P (tk ||| 2 ^ a.toNat ||| 2 ^ b.toNat)).testBit ≤ _
    rw [List.length_cons]
    omega
theorem mat_mem {A : Nat → Nat} : ∀ (Q : List (Nat × Nat)) {s : Nat}, mat A s Q = true → ∀ q ∈ Q, s.testBit q.1 = true ∧ s.testBit q.2 = true
  | [], _, _, q, h => by cases h
  | (a, b) :: Q, s, hm, q, h => by
    obtain ⟨h1, h2, h3, h4, h5⟩ := mat_cons hm
    rcases List.mem_cons.1 h with rfl | h
    · exact ⟨h2, h3⟩
    · obtain ⟨q1, q2⟩ := mat_mem Q h5 q h
      rw [del_bit, up_bit, Bool.and_eq_true, Bool.and_eq_true] at q1 q2
      exact ⟨q1.1.1, q2.1.1⟩
theorem tkn_lt (n : Nat) : ∀ (Q : List (Nat × Nat)) (tk : Nat), tk < 2 ^ n → (∀ q ∈ Q, q.1 < n ∧ q.2 < n) → tkn (toI Q) tk < 2 ^ n
  | [], tk, h, _ => h
  | (a, b) :: Q, tk, h, hq => by
    have h1 := hq (a, b) (by simp)
    exact tkn_lt n Q _ (or_lt (or_lt h h1.1) h1.2) fun q hm => hq q (List.mem_cons_of_mem _ hm)
theorem tkn_sz {n : Nat} {Q : List (Nat × Nat)} (hq : ∀ q ∈ Q, q.1 < n ∧ q.2 < n) : sz (tkn (toI Q) 0) ≤ 2 * Q.length := by
  rw [sz_pc n _ (tkn_lt n Q 0 (Nat.two_pow_pos n) hq)]
  have := tkn_pc n (toI Q) 0
  have h0 : pc n (0 : Nat).testBit = 0 := by
    unfold pc
    rw [List.countP_eq_zero]
    intro j _
    simp
  have e : (toI Q).length = Q.length := by simp [toI]
  omega
end Go.Proofs.YtnpapnpedcbfnaaDoor
set_option maxRecDepth 100000
set_option maxHeartbeats 4000000
set_option linter.unusedSimpArgs false
set_option linter.unusedVariables false
namespace Go.Proofs.YtnpapnpedcbfnaaDoor
open Go.Ds Go.Vs
theorem size_rets {X : Caller} (hX : Xfr X) (S : Nat) (hS : S < 1024) (g : GH) : Rets Tryd.prog X 41 [.int .i64 (S : Int)] g (fun v g' lo => g.next ≤ lo ∧ v = .int .i64 (sz S : Nat)) := by
  refine Rets.run hX.pres p41 (hX.free 41 (by decide) _ _) rfl fun ho => ?_
  simp +decide (disch := first | assumption | exact cellV_int _ _ | exact cellV_bool _ | omega | (simp only [GH.pn, GH.sn] <;> omega) | (with_reducible ((repeat (first | apply GH.ok_push | apply GH.ok_set)); assumption)) | ((try simp only [GH.push_hid, GH.set_hid]); first | assumption | (refine GH.vis ?_ ?_ <;> first | assumption | ((try simp only [GH.pn, GH.sn]) <;> omega)))) only [go_sem, ↓reduceIte, Nat.reduceEqDiff, Nat.reduceAdd, Int.reduceToNat, Int.reduceAdd, Int.reduceNeg, Int.reduceSub, Int.reduceMul, Int.reduceLT, Int.reduceLE, Int.reduceEq, ↓GH.gp_eq, ↓GH.gp_ne, ↓GH.gs_eq, ↓GH.gs_ne, GH.push_next, GH.set_next]
  refine Wk.loops (fun m e g' lo => g' = g ∧ g.next ≤ lo ∧ ∃ acc : Nat, m < 1024 ∧ acc + m ≤ S ∧ acc + sz m = sz S ∧ (ev e (.s 0) = .int .i64 (m : Nat) ∧ ev e (.s 3) = .int .i64 (acc : Nat)))
    (fun e g' lo => g' = g ∧ g.next ≤ lo ∧ ev e (.s 3) = .int .i64 (sz S : Nat)) (n := S) ?_ ?_ ?_
  · exact ⟨rfl, Nat.le_refl _, 0, hS, by omega, by omega, (by simp +decide (disch := first | assumption | (apply GH.ok_push; assumption) | exact cellV_int _ _ | exact cellV_bool _ | omega) only [go_sem, ↓reduceIte, Nat.reduceEqDiff, Nat.reduceAdd, Int.reduceToNat]; first | done | exact rfl)⟩
  · rintro e g' lo - - ⟨rfl, hlo, he⟩
    simp +decide (disch := first | assumption | exact cellV_int _ _ | exact cellV_bool _ | omega | (simp only [GH.pn, GH.sn] <;> omega) | (with_reducible ((repeat (first | apply GH.ok_push | apply GH.ok_set)); assumption)) | ((try simp only [GH.push_hid, GH.set_hid]); first | assumption | (refine GH.vis ?_ ?_ <;> first | assumption | ((try simp only [GH.pn, GH.sn]) <;> omega)))) only [go_sem, ↓reduceIte, Nat.reduceEqDiff, Nat.reduceAdd, Int.reduceToNat, Int.reduceAdd, Int.reduceNeg, Int.reduceSub, Int.reduceMul, Int.reduceLT, Int.reduceLE, Int.reduceEq, ↓GH.gp_eq, ↓GH.gp_ne, ↓GH.gs_eq, ↓GH.gs_ne, GH.push_next, GH.set_next, he]
    intro hx0
    exact ⟨hlo, rfl⟩
  · rintro m e g' lo ho' hl' ih out ⟨rfl, hlo, acc, hm, hle, hsz, he⟩
    have hu := sz.eq_def m
    by_cases c : m = 0
    · subst c
      simp +decide (disch := first | assumption | exact cellV_int _ _ | exact cellV_bool _ | omega | (simp only [GH.pn, GH.sn] <;> omega) | (with_reducible ((repeat (first | apply GH.ok_push | apply GH.ok_set)); assumption)) | ((try simp only [GH.push_hid, GH.set_hid]); first | assumption | (refine GH.vis ?_ ?_ <;> first | assumption | ((try simp only [GH.pn, GH.sn]) <;> omega)))) only [go_sem, ↓reduceIte, Nat.reduceEqDiff, Nat.reduceAdd, Int.reduceToNat, Int.reduceAdd, Int.reduceNeg, Int.reduceSub, Int.reduceMul, Int.reduceLT, Int.reduceLE, Int.reduceEq, ↓GH.gp_eq, ↓GH.gp_ne, ↓GH.gs_eq, ↓GH.gs_ne, GH.push_next, GH.set_next, he]
      rw [dif_pos rfl] at hu
      refine out _ _ _ ⟨rfl, hlo, ?_⟩
      rw [← hsz, hu, Nat.add_zero]
      exact (by simp +decide (disch := first | assumption | (apply GH.ok_push; assumption) | exact cellV_int _ _ | exact cellV_bool _ | omega) only [go_sem, ↓reduceIte, Nat.reduceEqDiff, Nat.reduceAdd, Int.reduceToNat, he]; first | done | exact rfl)
    · have c' : (0 : Int) < m := by omega
      have r1 : ((m : Int)).tmod 2 = ((m % 2 : Nat) : Int) := rfl
      have r2 : ((m : Int)).tdiv 2 = ((m / 2 : Nat) : Int) := rfl
      rw [dif_neg c] at hu
      simp +decide (disch := first | assumption | exact cellV_int _ _ | exact cellV_bool _ | omega | (simp only [GH.pn, GH.sn] <;> omega) | (with_reducible ((repeat (first | apply GH.ok_push | apply GH.ok_set)); assumption)) | ((try simp only [GH.push_hid, GH.set_hid]); first | assumption | (refine GH.vis ?_ ?_ <;> first | assumption | ((try simp only [GH.pn, GH.sn]) <;> omega)))) only [go_sem, ↓reduceIte, Nat.reduceEqDiff, Nat.reduceAdd, Int.reduceToNat, Int.reduceAdd, Int.reduceNeg, Int.reduceSub, Int.reduceMul, Int.reduceLT, Int.reduceLE, Int.reduceEq, ↓GH.gp_eq, ↓GH.gp_ne, ↓GH.gs_eq, ↓GH.gs_ne, GH.push_next, GH.set_next, he, c', r1, r2]
      exact ih (m / 2) _ _ _ (by omega) ⟨rfl, hlo, acc + m % 2, by omega, by omega, by omega, (by simp +decide (disch := first | assumption | (apply GH.ok_push; assumption) | exact cellV_int _ _ | exact cellV_bool _ | omega) only [go_sem, ↓reduceIte, Nat.reduceEqDiff, Nat.reduceAdd, Int.reduceToNat, he]; first | done | exact rfl)⟩
end Go.Proofs.YtnpapnpedcbfnaaDoor
set_option maxRecDepth 100000
set_option maxHeartbeats 4000000
set_option linter.unusedSimpArgs false
set_option linter.unusedVariables false
namespace Go.Proofs.YtnpapnpedcbfnaaDoor
open Go.Ds Go.Vs
theorem conv_u16 {i : Nat} (hi : i < 9223372036854775808) : convF IntKind.i64 (Value.int IntKind.u16 (i : Int)) = some (Value.int IntKind.i64 (i : Int)) := by
  show some (Value.int .i64 (wrapF .i64 (i : Int))) = _
  rw [wr64 (by omega) (by omega)]
theorem tmod_nat (a b : Nat) : (a : Int).tmod (b : Int) = ((a % b : Nat) : Int) := rfl
/-- One hat of a cover. -/
theorem cov_loop {X : Caller} (hX : Xok X) (L : List Int) (hz : shopB L = true) (S : Nat) (hS : S < 2 ^ L.length) : ∀ i, i < L.length → (((S : Int) / 2 ^ i).tmod 2 = b01 (S.testBit i)) := fun i _ => by
  have := rem_fact (x := (S : Int)) (by omega) i
  rw [bitI_nat] at this
  exact this
theorem boundsLaw_rets {X : Caller} (hX : Xok X) (L : List Int) (s p : Value) (u : Int) (hu0 : 0 ≤ u) (hu1 : u < 65536) (P : List (Int × Int)) (g : GH) (hT : HasTab g) (hs : SlR g s (ints L)) (hp : SlQ g p 2 P.length (cellsI P)) :
    Rets Tryd.prog X 13 [s, .int .u16 u, p] g (fun v g' lo => g.next ≤ lo ∧ v = .bool true) := by
  obtain ⟨un, rfl⟩ : ∃ un : Nat, u = un := ⟨u.toNat, by omega⟩
  have hl := hs.len
  rw [ints_len] at hl
  have hlp := hp.len
  refine Rets.run hX.pres p13 (hX.free 13 (by decide) _ _) rfl fun ho => ?_
  simp +decide (disch := first | assumption | exact cellV_int _ _ | exact cellV_bool _ | omega | (simp only [GH.pn, GH.sn] <;> omega) | (with_reducible ((repeat (first | apply GH.ok_push | apply GH.ok_set)); assumption)) | ((try simp only [GH.push_hid, GH.set_hid]); first | assumption | (refine GH.vis ?_ ?_ <;> first | assumption | ((try simp only [GH.pn, GH.sn]) <;> omega)))) only [go_sem, ↓reduceIte, Nat.reduceEqDiff, Nat.reduceAdd, Int.reduceToNat, Int.reduceAdd, Int.reduceNeg, Int.reduceSub, Int.reduceMul, Int.reduceLT, Int.reduceLE, Int.reduceEq, ↓GH.gp_eq, ↓GH.gp_ne, ↓GH.gs_eq, ↓GH.gs_ne, GH.push_next, GH.set_next]
  refine CallD.calm (few_rets hX.toXfr s p _ _ hl hlp g) ?_
  rintro v g1 hx1 rfl
  have hn1 := hx1.next
  have hT1 := hT.ext hx1
  cases hf : (decide (L.length ≤ 40) && decide (P.length ≤ 40)) with
  | false =>
    simp +decide (disch := first | assumption | exact cellV_int _ _ | exact cellV_bool _ | omega | (simp only [GH.pn, GH.sn] <;> omega) | (with_reducible ((repeat (first | apply GH.ok_push | apply GH.ok_set)); assumption)) | ((try simp only [GH.push_hid, GH.set_hid]); first | assumption | (refine GH.vis ?_ ?_ <;> first | assumption | ((try simp only [GH.pn, GH.sn]) <;> omega)))) only [go_sem, ↓reduceIte, Nat.reduceEqDiff, Nat.reduceAdd, Int.reduceToNat, Int.reduceAdd, Int.reduceNeg, Int.reduceSub, Int.reduceMul, Int.reduceLT, Int.reduceLE, Int.reduceEq, ↓GH.gp_eq, ↓GH.gp_ne, ↓GH.gs_eq, ↓GH.gs_ne, GH.push_next, GH.set_next]
    refine CallD.calm (hX.alive g1 hT1) ?_
    rintro v g2 hx2 rfl
    have hn2 := hx2.next
    simp +decide (disch := first | assumption | exact cellV_int _ _ | exact cellV_bool _ | omega | (simp only [GH.pn, GH.sn] <;> omega) | (with_reducible ((repeat (first | apply GH.ok_push | apply GH.ok_set)); assumption)) | ((try simp only [GH.push_hid, GH.set_hid]); first | assumption | (refine GH.vis ?_ ?_ <;> first | assumption | ((try simp only [GH.pn, GH.sn]) <;> omega)))) only [go_sem, ↓reduceIte, Nat.reduceEqDiff, Nat.reduceAdd, Int.reduceToNat, Int.reduceAdd, Int.reduceNeg, Int.reduceSub, Int.reduceMul, Int.reduceLT, Int.reduceLE, Int.reduceEq, ↓GH.gp_eq, ↓GH.gp_ne, ↓GH.gs_eq, ↓GH.gs_ne, GH.push_next, GH.set_next]
    intro hx0
    exact ⟨by omega, rfl⟩
  | true =>
  rw [Bool.and_eq_true, decide_eq_true_eq, decide_eq_true_eq] at hf
  simp +decide (disch := first | assumption | exact cellV_int _ _ | exact cellV_bool _ | omega | (simp only [GH.pn, GH.sn] <;> omega) | (with_reducible ((repeat (first | apply GH.ok_push | apply GH.ok_set)); assumption)) | ((try simp only [GH.push_hid, GH.set_hid]); first | assumption | (refine GH.vis ?_ ?_ <;> first | assumption | ((try simp only [GH.pn, GH.sn]) <;> omega)))) only [go_sem, ↓reduceIte, Nat.reduceEqDiff, Nat.reduceAdd, Int.reduceToNat, Int.reduceAdd, Int.reduceNeg, Int.reduceSub, Int.reduceMul, Int.reduceLT, Int.reduceLE, Int.reduceEq, ↓GH.gp_eq, ↓GH.gp_ne, ↓GH.gs_eq, ↓GH.gs_ne, GH.push_next, GH.set_next]
  refine CallD.calm (refIsShop_rets hX.toXfr L hf.1 s g1 (hs.ext hx1)) ?_
  rintro v g2 hx2 rfl
  have hn2 := hx2.next
  have hT2 := hT1.ext hx2
  have hk2 : Kept g g2 := hx1.kept.ext hx2
  cases hz : shopB L with
  | false =>
    simp +decide (disch := first | assumption | exact cellV_int _ _ | exact cellV_bool _ | omega | (simp only [GH.pn, GH.sn] <;> omega) | (with_reducible ((repeat (first | apply GH.ok_push | apply GH.ok_set)); assumption)) | ((try simp only [GH.push_hid, GH.set_hid]); first | assumption | (refine GH.vis ?_ ?_ <;> first | assumption | ((try simp only [GH.pn, GH.sn]) <;> omega)))) only [go_sem, ↓reduceIte, Nat.reduceEqDiff, Nat.reduceAdd, Int.reduceToNat, Int.reduceAdd, Int.reduceNeg, Int.reduceSub, Int.reduceMul, Int.reduceLT, Int.reduceLE, Int.reduceEq, ↓GH.gp_eq, ↓GH.gp_ne, ↓GH.gs_eq, ↓GH.gs_ne, GH.push_next, GH.set_next]
    refine CallD.calm (hX.alive g2 hT2) ?_
    rintro v g3 hx3 rfl
    have hn3 := hx3.next
    simp +decide (disch := first | assumption | exact cellV_int _ _ | exact cellV_bool _ | omega | (simp only [GH.pn, GH.sn] <;> omega) | (with_reducible ((repeat (first | apply GH.ok_push | apply GH.ok_set)); assumption)) | ((try simp only [GH.push_hid, GH.set_hid]); first | assumption | (refine GH.vis ?_ ?_ <;> first | assumption | ((try simp only [GH.pn, GH.sn]) <;> omega)))) only [go_sem, ↓reduceIte, Nat.reduceEqDiff, Nat.reduceAdd, Int.reduceToNat, Int.reduceAdd, Int.reduceNeg, Int.reduceSub, Int.reduceMul, Int.reduceLT, Int.reduceLE, Int.reduceEq, ↓GH.gp_eq, ↓GH.gp_ne, ↓GH.gs_eq, ↓GH.gs_ne, GH.push_next, GH.set_next]
    intro hx0
    exact ⟨by omega, rfl⟩
  | true =>
  obtain ⟨hL1, hL10, hA⟩ := shop_ok hz
  simp +decide (disch := first | assumption | exact cellV_int _ _ | exact cellV_bool _ | omega | (simp only [GH.pn, GH.sn] <;> omega) | (with_reducible ((repeat (first | apply GH.ok_push | apply GH.ok_set)); assumption)) | ((try simp only [GH.push_hid, GH.set_hid]); first | assumption | (refine GH.vis ?_ ?_ <;> first | assumption | ((try simp only [GH.pn, GH.sn]) <;> omega)))) only [go_sem, ↓reduceIte, Nat.reduceEqDiff, Nat.reduceAdd, Int.reduceToNat, Int.reduceAdd, Int.reduceNeg, Int.reduceSub, Int.reduceMul, Int.reduceLT, Int.reduceLE, Int.reduceEq, ↓GH.gp_eq, ↓GH.gp_ne, ↓GH.gs_eq, ↓GH.gs_ne, GH.push_next, GH.set_next, hl]
  refine CallD.calm (Largest_rets hX L hz s g2 hT2 (hs.kept hk2)) ?_
  rintro v g3 hx3 ⟨hok3, hk3, o, rfl, hown3⟩
  have hn3 := hx3.next
  have hk3' := hk2.trans hk3
  simp +decide (disch := first | assumption | exact cellV_int _ _ | exact cellV_bool _ | omega | (simp only [GH.pn, GH.sn] <;> omega) | (with_reducible ((repeat (first | apply GH.ok_push | apply GH.ok_set)); assumption)) | ((try simp only [GH.push_hid, GH.set_hid]); first | assumption | (refine GH.vis ?_ ?_ <;> first | assumption | ((try simp only [GH.pn, GH.sn]) <;> omega)))) only [go_sem, ↓reduceIte, Nat.reduceEqDiff, Nat.reduceAdd, Int.reduceToNat, Int.reduceAdd, Int.reduceNeg, Int.reduceSub, Int.reduceMul, Int.reduceLT, Int.reduceLE, Int.reduceEq, ↓GH.gp_eq, ↓GH.gp_ne, ↓GH.gs_eq, ↓GH.gs_ne, GH.push_next, GH.set_next, ext20, ext21]
  refine CallD.calm (IsMatching_rets hX.toXfr L hf.1 s p P (by omega) g3 (hs.kept hk3') (hp.kept hk3')) ?_
  rintro v g4 hx4 rfl
  have hn4 := hx4.next
  have hk4 := hk3'.ext hx4
  have hown4 := (hown3.kept hx4.kept).read
  have hlo := hown4.len
  rw [hz, if_pos rfl]
  have hT4 := hT.kept hk4
  have hs4 := hs.kept hk4
  have hp4 := hp.kept hk4
  have hN0 := Nat.two_pow_pos L.length
  have hN1 : 2 ^ L.length ≤ 1024 := Nat.pow_le_pow_right (by decide) hL10
  obtain ⟨S, hSe⟩ : ∃ S, un % 2 ^ L.length = S := ⟨_, rfl⟩
  have hS : S < 2 ^ L.length := by rw [← hSe]; exact Nat.mod_lt _ hN0
  have hcov := cov_lrg (A := setF L) (n := L.length) hL10 (S := S) hS (fun i hi => (hA i hi).2.1)
  have hshl := shl_i (k := L.length) (by omega)
  have hcv := conv_u16 (i := un) (by omega)
  have htm := tmod_nat un (2 ^ L.length)
  rw [hSe] at htm
  have hne0 : ¬ ((2 ^ L.length : Nat) : Int) = 0 := by omega
  simp +decide (disch := first | assumption | exact cellV_int _ _ | exact cellV_bool _ | omega | (simp only [GH.pn, GH.sn] <;> omega) | (with_reducible ((repeat (first | apply GH.ok_push | apply GH.ok_set)); assumption)) | ((try simp only [GH.push_hid, GH.set_hid]); first | assumption | (refine GH.vis ?_ ?_ <;> first | assumption | ((try simp only [GH.pn, GH.sn]) <;> omega)))) only [go_sem, ↓reduceIte, Nat.reduceEqDiff, Nat.reduceAdd, Int.reduceToNat, Int.reduceAdd, Int.reduceNeg, Int.reduceSub, Int.reduceMul, Int.reduceLT, Int.reduceLE, Int.reduceEq, ↓GH.gp_eq, ↓GH.gp_ne, ↓GH.gs_eq, ↓GH.gs_ne, GH.push_next, GH.set_next, ext20, ext21, hcv, hshl, htm, hne0]
  generalize hR : lrg (setF L) L.length (allN L.length) = R at *
  -- the cover
  refine Wk.loops (fun m e g' lo => g' = g4 ∧ g.next ≤ lo ∧ ∃ i : Nat, i + m = L.length ∧ (ev e (.s 0) = s ∧ ev e (.s 2) = p ∧ ev e (.s 7) = .int .i64 (L.length : Int) ∧ ev e (.s 8) = o ∧ ev e (.s 10) = .bool (matI L P) ∧ ev e (.s 12) = .int .i64 (S : Nat) ∧ ev e (.s 14) = .int .i64 (i : Nat) ∧ ev e (.s 13) = .bool ((List.range i).all (covB (setF L) S))))
    (fun e g' lo => g' = g4 ∧ g.next ≤ lo ∧ (ev e (.s 0) = s ∧ ev e (.s 2) = p ∧ ev e (.s 7) = .int .i64 (L.length : Int) ∧ ev e (.s 8) = o ∧ ev e (.s 10) = .bool (matI L P) ∧ ev e (.s 12) = .int .i64 (S : Nat) ∧ ev e (.s 13) = .bool ((List.range L.length).all (covB (setF L) S)))) (n := L.length) ?_ ?_ ?_
  case _ => exact ⟨rfl, by omega, 0, by omega, (by simp +decide (disch := first | assumption | (apply GH.ok_push; assumption) | exact cellV_int _ _ | exact cellV_bool _ | omega) only [go_sem, ↓reduceIte, Nat.reduceEqDiff, Nat.reduceAdd, Int.reduceToNat]; first | done | exact rfl)⟩
  case _ =>
    rintro e g' lo hog hlg ⟨rfl, hlo', he⟩
    have hszr := size_rets hX.toXfr S (by omega) g'
    cases hm : matI L P with
    | false =>
      rw [hm] at he
      cases hc : (List.range L.length).all (covB (setF L) S) with
      | false =>
        rw [hc] at he
        simp +decide (disch := first | assumption | exact cellV_int _ _ | exact cellV_bool _ | omega | (simp only [GH.pn, GH.sn] <;> omega) | (with_reducible ((repeat (first | apply GH.ok_push | apply GH.ok_set)); assumption)) | ((try simp only [GH.push_hid, GH.set_hid]); first | assumption | (refine GH.vis ?_ ?_ <;> first | assumption | ((try simp only [GH.pn, GH.sn]) <;> omega)))) only [go_sem, ↓reduceIte, Nat.reduceEqDiff, Nat.reduceAdd, Int.reduceToNat, Int.reduceAdd, Int.reduceNeg, Int.reduceSub, Int.reduceMul, Int.reduceLT, Int.reduceLE, Int.reduceEq, ↓GH.gp_eq, ↓GH.gp_ne, ↓GH.gs_eq, ↓GH.gs_ne, GH.push_next, GH.set_next, he]
        refine CallD.calm (hX.alive g' hT4) ?_
        rintro v g5 hx5 rfl
        simp +decide (disch := first | assumption | exact cellV_int _ _ | exact cellV_bool _ | omega | (simp only [GH.pn, GH.sn] <;> omega) | (with_reducible ((repeat (first | apply GH.ok_push | apply GH.ok_set)); assumption)) | ((try simp only [GH.push_hid, GH.set_hid]); first | assumption | (refine GH.vis ?_ ?_ <;> first | assumption | ((try simp only [GH.pn, GH.sn]) <;> omega)))) only [go_sem, ↓reduceIte, Nat.reduceEqDiff, Nat.reduceAdd, Int.reduceToNat, Int.reduceAdd, Int.reduceNeg, Int.reduceSub, Int.reduceMul, Int.reduceLT, Int.reduceLE, Int.reduceEq, ↓GH.gp_eq, ↓GH.gp_ne, ↓GH.gs_eq, ↓GH.gs_ne, GH.push_next, GH.set_next]
        intro hx0
        exact ⟨by omega, rfl⟩
      | true =>
        rw [hc] at he
        have hgt : ¬ (sz S : Int) < R.length := by
          have := hcov (fun i hi => all_at hc hi)
          omega
        simp +decide (disch := first | assumption | exact cellV_int _ _ | exact cellV_bool _ | omega | (simp only [GH.pn, GH.sn] <;> omega) | (with_reducible ((repeat (first | apply GH.ok_push | apply GH.ok_set)); assumption)) | ((try simp only [GH.push_hid, GH.set_hid]); first | assumption | (refine GH.vis ?_ ?_ <;> first | assumption | ((try simp only [GH.pn, GH.sn]) <;> omega)))) only [go_sem, ↓reduceIte, Nat.reduceEqDiff, Nat.reduceAdd, Int.reduceToNat, Int.reduceAdd, Int.reduceNeg, Int.reduceSub, Int.reduceMul, Int.reduceLT, Int.reduceLE, Int.reduceEq, ↓GH.gp_eq, ↓GH.gp_ne, ↓GH.gs_eq, ↓GH.gs_ne, GH.push_next, GH.set_next, he, hlo]
        refine CallD.calm hszr ?_
        rintro v g5 hx5 rfl
        simp +decide (disch := first | assumption | exact cellV_int _ _ | exact cellV_bool _ | omega | (simp only [GH.pn, GH.sn] <;> omega) | (with_reducible ((repeat (first | apply GH.ok_push | apply GH.ok_set)); assumption)) | ((try simp only [GH.push_hid, GH.set_hid]); first | assumption | (refine GH.vis ?_ ?_ <;> first | assumption | ((try simp only [GH.pn, GH.sn]) <;> omega)))) only [go_sem, ↓reduceIte, Nat.reduceEqDiff, Nat.reduceAdd, Int.reduceToNat, Int.reduceAdd, Int.reduceNeg, Int.reduceSub, Int.reduceMul, Int.reduceLT, Int.reduceLE, Int.reduceEq, ↓GH.gp_eq, ↓GH.gp_ne, ↓GH.gs_eq, ↓GH.gs_ne, GH.push_next, GH.set_next, he, hgt]
        refine CallD.calm (hX.alive g5 (hT4.ext hx5)) ?_
        rintro v g6 hx6 rfl
        simp +decide (disch := first | assumption | exact cellV_int _ _ | exact cellV_bool _ | omega | (simp only [GH.pn, GH.sn] <;> omega) | (with_reducible ((repeat (first | apply GH.ok_push | apply GH.ok_set)); assumption)) | ((try simp only [GH.push_hid, GH.set_hid]); first | assumption | (refine GH.vis ?_ ?_ <;> first | assumption | ((try simp only [GH.pn, GH.sn]) <;> omega)))) only [go_sem, ↓reduceIte, Nat.reduceEqDiff, Nat.reduceAdd, Int.reduceToNat, Int.reduceAdd, Int.reduceNeg, Int.reduceSub, Int.reduceMul, Int.reduceLT, Int.reduceLE, Int.reduceEq, ↓GH.gp_eq, ↓GH.gp_ne, ↓GH.gs_eq, ↓GH.gs_ne, GH.push_next, GH.set_next]
        intro hx0
        exact ⟨by omega, rfl⟩
    | true =>
      rw [hm] at he
      obtain ⟨Q, rfl, hmq⟩ := matI_mat hm
      have hQl : (toI Q).length = Q.length := by simp [toI]
      have hmem : ∀ q ∈ Q, q.1 < L.length ∧ q.2 < L.length := fun q hq => by
        obtain ⟨q1, q2⟩ := mat_mem Q hmq q hq
        exact ⟨bit_lt (all_lt _) q1, bit_lt (all_lt _) q2⟩
      have hQR : Q.length ≤ R.length := by
        have := mat_le (n := L.length) (allN L.length) (all_lt _) Q hmq
        rw [← hR, lrg_len]
        exact this
      have htl := tkn_lt L.length Q 0 hN0 hmem
      have hts := tkn_sz hmem
      have hcov2 := cov_lrg (A := setF L) (n := L.length) hL10 (S := tkn (toI Q) 0) htl (fun i hi => (hA i hi).2.1)
      rw [hR] at hcov2
      rw [hQl] at hlp hp4
      rw [cellsI_toI] at hp4
      -- what the rest does, from any heap that keeps what was there
      cases hc : (List.range L.length).all (covB (setF L) S) with
      | false =>
        rw [hc] at he
        simp +decide (disch := first | assumption | exact cellV_int _ _ | exact cellV_bool _ | omega | (simp only [GH.pn, GH.sn] <;> omega) | (with_reducible ((repeat (first | apply GH.ok_push | apply GH.ok_set)); assumption)) | ((try simp only [GH.push_hid, GH.set_hid]); first | assumption | (refine GH.vis ?_ ?_ <;> first | assumption | ((try simp only [GH.pn, GH.sn]) <;> omega)))) only [go_sem, ↓reduceIte, Nat.reduceEqDiff, Nat.reduceAdd, Int.reduceToNat, Int.reduceAdd, Int.reduceNeg, Int.reduceSub, Int.reduceMul, Int.reduceLT, Int.reduceLE, Int.reduceEq, ↓GH.gp_eq, ↓GH.gp_ne, ↓GH.gs_eq, ↓GH.gs_ne, GH.push_next, GH.set_next, he]
        have hsX := hs4
        have hpX := hp4
        have hTX := hT4
        have hfQ : Q.length ≤ 40 := by have := hf.2; omega
        refine Wk.loops (fun m e gg lo => gg = g' ∧ g.next ≤ lo ∧ ∃ i : Nat, i + m = Q.length ∧ (ev e (.s 0) = s ∧ ev e (.s 2) = p ∧ ev e (.s 7) = .int .i64 (L.length : Int) ∧ ev e (.s 8) = o ∧ ev e (.s 15) = .int .i64 (tkn (toI (Q.take i)) 0 : Nat) ∧ ev e (.s 16) = .int .i64 (i : Nat)))
          (fun e gg lo => gg = g' ∧ g.next ≤ lo ∧ (ev e (.s 0) = s ∧ ev e (.s 2) = p ∧ ev e (.s 7) = .int .i64 (L.length : Int) ∧ ev e (.s 8) = o ∧ ev e (.s 15) = .int .i64 (tkn (toI Q) 0 : Nat))) (n := Q.length) ?_ ?_ ?_
        case _ => exact ⟨rfl, by omega, 0, by omega, (by simp +decide (disch := first | assumption | (apply GH.ok_push; assumption) | exact cellV_int _ _ | exact cellV_bool _ | omega) only [go_sem, ↓reduceIte, Nat.reduceEqDiff, Nat.reduceAdd, Int.reduceToNat, he]; first | done | exact rfl)⟩
        case _ =>
          rintro e g8 lo8 hog8 hlg8 ⟨rfl, hlo8, he⟩
          simp +decide (disch := first | assumption | exact cellV_int _ _ | exact cellV_bool _ | omega | (simp only [GH.pn, GH.sn] <;> omega) | (with_reducible ((repeat (first | apply GH.ok_push | apply GH.ok_set)); assumption)) | ((try simp only [GH.push_hid, GH.set_hid]); first | assumption | (refine GH.vis ?_ ?_ <;> first | assumption | ((try simp only [GH.pn, GH.sn]) <;> omega)))) only [go_sem, ↓reduceIte, Nat.reduceEqDiff, Nat.reduceAdd, Int.reduceToNat, Int.reduceAdd, Int.reduceNeg, Int.reduceSub, Int.reduceMul, Int.reduceLT, Int.reduceLE, Int.reduceEq, ↓GH.gp_eq, ↓GH.gp_ne, ↓GH.gs_eq, ↓GH.gs_ne, GH.push_next, GH.set_next, he]
          obtain ⟨U, hU⟩ : ∃ U, tkn (toI Q) 0 = U := ⟨_, rfl⟩
          rw [hU] at he htl hts hcov2
          refine Wk.loops (fun m e gg lo => gg = g8 ∧ g.next ≤ lo ∧ ∃ i : Nat, i + m = L.length ∧ (ev e (.s 0) = s ∧ ev e (.s 2) = p ∧ ev e (.s 7) = .int .i64 (L.length : Int) ∧ ev e (.s 8) = o ∧ ev e (.s 15) = .int .i64 (U : Nat) ∧ ev e (.s 18) = .int .i64 (i : Nat) ∧ ev e (.s 17) = .bool ((List.range i).all (covB (setF L) U))))
            (fun e gg lo => gg = g8 ∧ g.next ≤ lo ∧ (ev e (.s 2) = p ∧ ev e (.s 8) = o ∧ ev e (.s 17) = .bool ((List.range L.length).all (covB (setF L) U)))) (n := L.length) ?_ ?_ ?_
          case _ => exact ⟨rfl, by omega, 0, by omega, (by simp +decide (disch := first | assumption | (apply GH.ok_push; assumption) | exact cellV_int _ _ | exact cellV_bool _ | omega) only [go_sem, ↓reduceIte, Nat.reduceEqDiff, Nat.reduceAdd, Int.reduceToNat, he]; first | done | exact rfl)⟩
          case _ =>
            rintro e g9 lo9 hog9 hlg9 ⟨rfl, hlo9, he⟩
            have hQR' : (Q.length : Int) ≤ R.length := by omega
            have hQR2 : ¬ (R.length : Int) < Q.length := by omega
            cases hd : (List.range L.length).all (covB (setF L) U) with
            | false =>
              rw [hd] at he
              simp +decide (disch := first | assumption | exact cellV_int _ _ | exact cellV_bool _ | omega | (simp only [GH.pn, GH.sn] <;> omega) | (with_reducible ((repeat (first | apply GH.ok_push | apply GH.ok_set)); assumption)) | ((try simp only [GH.push_hid, GH.set_hid]); first | assumption | (refine GH.vis ?_ ?_ <;> first | assumption | ((try simp only [GH.pn, GH.sn]) <;> omega)))) only [go_sem, ↓reduceIte, Nat.reduceEqDiff, Nat.reduceAdd, Int.reduceToNat, Int.reduceAdd, Int.reduceNeg, Int.reduceSub, Int.reduceMul, Int.reduceLT, Int.reduceLE, Int.reduceEq, ↓GH.gp_eq, ↓GH.gp_ne, ↓GH.gs_eq, ↓GH.gs_ne, GH.push_next, GH.set_next, he, hlp, hlo, hQR', hQR2]
              refine CallD.calm (hX.alive g9 hTX) ?_
              rintro v g10 hx10 rfl
              simp +decide (disch := first | assumption | exact cellV_int _ _ | exact cellV_bool _ | omega | (simp only [GH.pn, GH.sn] <;> omega) | (with_reducible ((repeat (first | apply GH.ok_push | apply GH.ok_set)); assumption)) | ((try simp only [GH.push_hid, GH.set_hid]); first | assumption | (refine GH.vis ?_ ?_ <;> first | assumption | ((try simp only [GH.pn, GH.sn]) <;> omega)))) only [go_sem, ↓reduceIte, Nat.reduceEqDiff, Nat.reduceAdd, Int.reduceToNat, Int.reduceAdd, Int.reduceNeg, Int.reduceSub, Int.reduceMul, Int.reduceLT, Int.reduceLE, Int.reduceEq, ↓GH.gp_eq, ↓GH.gp_ne, ↓GH.gs_eq, ↓GH.gs_ne, GH.push_next, GH.set_next]
              intro hx0
              exact ⟨by omega, rfl⟩
            | true =>
              rw [hd] at he
              have hge : (R.length : Int) ≤ 2 * (Q.length : Int) := by
                have := hcov2 (fun i hi => all_at hd hi)
                omega
              simp +decide (disch := first | assumption | exact cellV_int _ _ | exact cellV_bool _ | omega | (simp only [GH.pn, GH.sn] <;> omega) | (with_reducible ((repeat (first | apply GH.ok_push | apply GH.ok_set)); assumption)) | ((try simp only [GH.push_hid, GH.set_hid]); first | assumption | (refine GH.vis ?_ ?_ <;> first | assumption | ((try simp only [GH.pn, GH.sn]) <;> omega)))) only [go_sem, ↓reduceIte, Nat.reduceEqDiff, Nat.reduceAdd, Int.reduceToNat, Int.reduceAdd, Int.reduceNeg, Int.reduceSub, Int.reduceMul, Int.reduceLT, Int.reduceLE, Int.reduceEq, ↓GH.gp_eq, ↓GH.gp_ne, ↓GH.gs_eq, ↓GH.gs_ne, GH.push_next, GH.set_next, he, hlp, hlo, hQR', hQR2, hge]
              refine CallD.calm (hX.alive g9 hTX) ?_
              rintro v g10 hx10 rfl
              simp +decide (disch := first | assumption | exact cellV_int _ _ | exact cellV_bool _ | omega | (simp only [GH.pn, GH.sn] <;> omega) | (with_reducible ((repeat (first | apply GH.ok_push | apply GH.ok_set)); assumption)) | ((try simp only [GH.push_hid, GH.set_hid]); first | assumption | (refine GH.vis ?_ ?_ <;> first | assumption | ((try simp only [GH.pn, GH.sn]) <;> omega)))) only [go_sem, ↓reduceIte, Nat.reduceEqDiff, Nat.reduceAdd, Int.reduceToNat, Int.reduceAdd, Int.reduceNeg, Int.reduceSub, Int.reduceMul, Int.reduceLT, Int.reduceLE, Int.reduceEq, ↓GH.gp_eq, ↓GH.gp_ne, ↓GH.gs_eq, ↓GH.gs_ne, GH.push_next, GH.set_next]
              intro hx0
              exact ⟨by omega, rfl⟩
          case _ =>
            rintro m e g9 lo9 ho9 hl9 ih out ⟨rfl, hlo9, i, hi, he⟩
            by_cases ci : i < L.length
            case neg =>
              have ci' : ¬ (i : Int) < L.length := by omega
              simp +decide (disch := first | assumption | exact cellV_int _ _ | exact cellV_bool _ | omega | (simp only [GH.pn, GH.sn] <;> omega) | (with_reducible ((repeat (first | apply GH.ok_push | apply GH.ok_set)); assumption)) | ((try simp only [GH.push_hid, GH.set_hid]); first | assumption | (refine GH.vis ?_ ?_ <;> first | assumption | ((try simp only [GH.pn, GH.sn]) <;> omega)))) only [go_sem, ↓reduceIte, Nat.reduceEqDiff, Nat.reduceAdd, Int.reduceToNat, Int.reduceAdd, Int.reduceNeg, Int.reduceSub, Int.reduceMul, Int.reduceLT, Int.reduceLE, Int.reduceEq, ↓GH.gp_eq, ↓GH.gp_ne, ↓GH.gs_eq, ↓GH.gs_ne, GH.push_next, GH.set_next, he, ci']
              have : i = L.length := by omega
              subst this
              exact out _ _ _ ⟨rfl, hlo9, (by simp +decide (disch := first | assumption | (apply GH.ok_push; assumption) | exact cellV_int _ _ | exact cellV_bool _ | omega) only [go_sem, ↓reduceIte, Nat.reduceEqDiff, Nat.reduceAdd, Int.reduceToNat, he]; first | done | exact rfl)⟩
            have ci' : (i : Int) < L.length := by omega
            obtain ⟨j2, o2, hj2, hq1, hq2⟩ := hsX.ptr (ints_get (D := L) (i := i) ci)
            have hq1 := hq1 (i : Int) rfl
            rw [(hA i ci).1] at hq2
            have hAi := (hA i ci).2.1
            have r1 := shr_fact (U : Int) i (by omega)
            have r2 := cov_loop hX L hz U htl i ci
            have n1 : ¬ (i : Int) < 0 := by omega
            have han := andn_i (a := setF L i) (b := U) (by omega) (by omega)
            have hall : (List.range (i + 1)).all (covB (setF L) U) = ((List.range i).all (covB (setF L) U) && covB (setF L) U i) := by
              rw [List.range_succ, List.all_append]; simp
            cases ca : (List.range i).all (covB (setF L) U) with
            | false =>
              rw [ca] at he hall
              simp +decide (disch := first | assumption | exact cellV_int _ _ | exact cellV_bool _ | omega | (simp only [GH.pn, GH.sn] <;> omega) | (with_reducible ((repeat (first | apply GH.ok_push | apply GH.ok_set)); assumption)) | ((try simp only [GH.push_hid, GH.set_hid]); first | assumption | (refine GH.vis ?_ ?_ <;> first | assumption | ((try simp only [GH.pn, GH.sn]) <;> omega)))) only [go_sem, ↓reduceIte, Nat.reduceEqDiff, Nat.reduceAdd, Int.reduceToNat, Int.reduceAdd, Int.reduceNeg, Int.reduceSub, Int.reduceMul, Int.reduceLT, Int.reduceLE, Int.reduceEq, ↓GH.gp_eq, ↓GH.gp_ne, ↓GH.gs_eq, ↓GH.gs_ne, GH.push_next, GH.set_next, he, ci']
              refine ih (m - 1) _ _ _ (by omega) ⟨rfl, hlo9, i + 1, by omega, ?_⟩
              rw [hall]
              exact (by simp +decide (disch := first | assumption | (apply GH.ok_push; assumption) | exact cellV_int _ _ | exact cellV_bool _ | omega) only [go_sem, ↓reduceIte, Nat.reduceEqDiff, Nat.reduceAdd, Int.reduceToNat, he]; first | done | exact rfl)
            | true =>
            rw [ca] at he hall
            cases cb : U.testBit i with
            | true =>
              rw [cb] at r2
              have r2' : ((U : Int) / 2 ^ i).tmod 2 = 1 := r2
              simp +decide (disch := first | assumption | exact cellV_int _ _ | exact cellV_bool _ | omega | (simp only [GH.pn, GH.sn] <;> omega) | (with_reducible ((repeat (first | apply GH.ok_push | apply GH.ok_set)); assumption)) | ((try simp only [GH.push_hid, GH.set_hid]); first | assumption | (refine GH.vis ?_ ?_ <;> first | assumption | ((try simp only [GH.pn, GH.sn]) <;> omega)))) only [go_sem, ↓reduceIte, Nat.reduceEqDiff, Nat.reduceAdd, Int.reduceToNat, Int.reduceAdd, Int.reduceNeg, Int.reduceSub, Int.reduceMul, Int.reduceLT, Int.reduceLE, Int.reduceEq, ↓GH.gp_eq, ↓GH.gp_ne, ↓GH.gs_eq, ↓GH.gs_ne, GH.push_next, GH.set_next, he, ci', ib_shr n1, r1, r2']
              refine ih (m - 1) _ _ _ (by omega) ⟨rfl, hlo9, i + 1, by omega, ?_⟩
              rw [hall, show covB (setF L) U i = true by unfold covB; rw [cb]; rfl]
              exact (by simp +decide (disch := first | assumption | (apply GH.ok_push; assumption) | exact cellV_int _ _ | exact cellV_bool _ | omega) only [go_sem, ↓reduceIte, Nat.reduceEqDiff, Nat.reduceAdd, Int.reduceToNat, he]; first | done | exact rfl)
            | false =>
              rw [cb] at r2
              have r2' : ((U : Int) / 2 ^ i).tmod 2 = 0 := r2
              by_cases cd : andn (setF L i) U = 0
              · have cd' : ((andn (setF L i) U : Nat) : Int) = 0 := by omega
                rw [cd'] at han
                simp +decide (disch := first | assumption | exact cellV_int _ _ | exact cellV_bool _ | omega | (simp only [GH.pn, GH.sn] <;> omega) | (with_reducible ((repeat (first | apply GH.ok_push | apply GH.ok_set)); assumption)) | ((try simp only [GH.push_hid, GH.set_hid]); first | assumption | (refine GH.vis ?_ ?_ <;> first | assumption | ((try simp only [GH.pn, GH.sn]) <;> omega)))) only [go_sem, ↓reduceIte, Nat.reduceEqDiff, Nat.reduceAdd, Int.reduceToNat, Int.reduceAdd, Int.reduceNeg, Int.reduceSub, Int.reduceMul, Int.reduceLT, Int.reduceLE, Int.reduceEq, ↓GH.gp_eq, ↓GH.gp_ne, ↓GH.gs_eq, ↓GH.gs_ne, GH.push_next, GH.set_next, he, ci', ib_shr n1, r1, r2', hq1, hq2, han]
                refine ih (m - 1) _ _ _ (by omega) ⟨rfl, hlo9, i + 1, by omega, ?_⟩
                rw [hall, show covB (setF L) U i = true by unfold covB; rw [cb, decide_eq_true cd]; rfl]
                exact (by simp +decide (disch := first | assumption | (apply GH.ok_push; assumption) | exact cellV_int _ _ | exact cellV_bool _ | omega) only [go_sem, ↓reduceIte, Nat.reduceEqDiff, Nat.reduceAdd, Int.reduceToNat, he]; first | done | exact rfl)
              · have cd' : ¬ ((andn (setF L i) U : Nat) : Int) = 0 := by omega
                simp +decide (disch := first | assumption | exact cellV_int _ _ | exact cellV_bool _ | omega | (simp only [GH.pn, GH.sn] <;> omega) | (with_reducible ((repeat (first | apply GH.ok_push | apply GH.ok_set)); assumption)) | ((try simp only [GH.push_hid, GH.set_hid]); first | assumption | (refine GH.vis ?_ ?_ <;> first | assumption | ((try simp only [GH.pn, GH.sn]) <;> omega)))) only [go_sem, ↓reduceIte, Nat.reduceEqDiff, Nat.reduceAdd, Int.reduceToNat, Int.reduceAdd, Int.reduceNeg, Int.reduceSub, Int.reduceMul, Int.reduceLT, Int.reduceLE, Int.reduceEq, ↓GH.gp_eq, ↓GH.gp_ne, ↓GH.gs_eq, ↓GH.gs_ne, GH.push_next, GH.set_next, he, ci', ib_shr n1, r1, r2', hq1, hq2, han, cd']
                refine ih (m - 1) _ _ _ (by omega) ⟨rfl, hlo9, i + 1, by omega, ?_⟩
                rw [hall, show covB (setF L) U i = false by unfold covB; rw [cb, decide_eq_false cd]; rfl]
                exact (by simp +decide (disch := first | assumption | (apply GH.ok_push; assumption) | exact cellV_int _ _ | exact cellV_bool _ | omega) only [go_sem, ↓reduceIte, Nat.reduceEqDiff, Nat.reduceAdd, Int.reduceToNat, he]; first | done | exact rfl)
        case _ =>
          rintro m e g8 lo8 ho8 hl8 ih out ⟨rfl, hlo8, i, hi, he⟩
          by_cases ci : i < Q.length
          case neg =>
            have ci' : ¬ (i : Int) < Q.length := by omega
            simp +decide (disch := first | assumption | exact cellV_int _ _ | exact cellV_bool _ | omega | (simp only [GH.pn, GH.sn] <;> omega) | (with_reducible ((repeat (first | apply GH.ok_push | apply GH.ok_set)); assumption)) | ((try simp only [GH.push_hid, GH.set_hid]); first | assumption | (refine GH.vis ?_ ?_ <;> first | assumption | ((try simp only [GH.pn, GH.sn]) <;> omega)))) only [go_sem, ↓reduceIte, Nat.reduceEqDiff, Nat.reduceAdd, Int.reduceToNat, Int.reduceAdd, Int.reduceNeg, Int.reduceSub, Int.reduceMul, Int.reduceLT, Int.reduceLE, Int.reduceEq, ↓GH.gp_eq, ↓GH.gp_ne, ↓GH.gs_eq, ↓GH.gs_ne, GH.push_next, GH.set_next, he, hlp, ci']
            have : i = Q.length := by omega
            subst this
            rw [List.take_length] at he
            exact out _ _ _ ⟨rfl, hlo8, (by simp +decide (disch := first | assumption | (apply GH.ok_push; assumption) | exact cellV_int _ _ | exact cellV_bool _ | omega) only [go_sem, ↓reduceIte, Nat.reduceEqDiff, Nat.reduceAdd, Int.reduceToNat, he]; first | done | exact rfl)⟩
          have ci' : (i : Int) < Q.length := by omega
          obtain ⟨j, a, hj, hp1, hp2, hp3⟩ := hpX.ptr ci
          have hp1 := hp1 (i : Int) rfl
          obtain ⟨c1, c2⟩ := cellsP_get Q i ci
          have hp20 := fun lo => hp2 lo 0 _ (by omega) c1
          have hp21 := fun lo => hp2 lo 1 _ (by omega) c2
          rw [Nat.add_zero] at hp20
          have hqm := hmem _ (List.getElem_mem ci)
          have htk : tkn (toI (Q.take (i + 1))) 0 = tkn (toI (Q.take i)) 0 ||| 2 ^ Q[i].1 ||| 2 ^ Q[i].2 := by
            rw [List.take_succ_eq_append_getElem ci]
            show tkn (List.map _ (Q.take i ++ [Q[i]])) 0 = _
            rw [List.map_append]
            exact tkn_snoc (toI (Q.take i)) ((Q[i].1 : Int), (Q[i].2 : Int)) 0
          have htl2 := tkn_lt L.length (Q.take i) 0 hN0 (fun q hq => hmem q (List.mem_of_mem_take hq))
          obtain ⟨⟨qa, qb⟩, hq⟩ : ∃ q, Q[i] = q := ⟨_, rfl⟩
          rw [hq] at hp20 hp21 hqm htk
          dsimp only at hp20 hp21 hqm htk
          generalize tkn (toI (Q.take i)) 0 = U0 at *
          have a1 : ¬ (qa : Int) < 0 := by omega
          have a2 : ¬ (qb : Int) < 0 := by omega
          have a3 : ¬ (L.length : Int) ≤ qa := by omega
          have a4 : ¬ (L.length : Int) ≤ qb := by omega
          have s1 := shl_i (k := qa) (by omega)
          have s2 := shl_i (k := qb) (by omega)
          have l1 := two_lt (k := qa) (by omega)
          have l2 := two_lt (k := qb) (by omega)
          have o1 := or_i (a := U0) (b := 2 ^ qa) (by omega) (by omega)
          have l3 := or_lt htl2 hqm.1
          have o2 := or_i (a := U0 ||| 2 ^ qa) (b := 2 ^ qb) (by omega) (by omega)
          simp +decide (disch := first | assumption | exact cellV_int _ _ | exact cellV_bool _ | omega | (simp only [GH.pn, GH.sn] <;> omega) | (with_reducible ((repeat (first | apply GH.ok_push | apply GH.ok_set)); assumption)) | ((try simp only [GH.push_hid, GH.set_hid]); first | assumption | (refine GH.vis ?_ ?_ <;> first | assumption | ((try simp only [GH.pn, GH.sn]) <;> omega)))) only [go_sem, ↓reduceIte, Nat.reduceEqDiff, Nat.reduceAdd, Int.reduceToNat, Int.reduceAdd, Int.reduceNeg, Int.reduceSub, Int.reduceMul, Int.reduceLT, Int.reduceLE, Int.reduceEq, ↓GH.gp_eq, ↓GH.gp_ne, ↓GH.gs_eq, ↓GH.gs_ne, GH.push_next, GH.set_next, he, hlp, ci', hp1, hp20, hp21, a1, a2, a3, a4, s1, s2, o1, o2]
          refine ih (m - 1) _ _ _ (by omega) ⟨rfl, hlo8, i + 1, by omega, ?_⟩
          rw [htk]
          exact (by simp +decide (disch := first | assumption | (apply GH.ok_push; assumption) | exact cellV_int _ _ | exact cellV_bool _ | omega) only [go_sem, ↓reduceIte, Nat.reduceEqDiff, Nat.reduceAdd, Int.reduceToNat, he]; first | done | exact rfl)
      | true =>
        rw [hc] at he
        have hgt : ¬ (sz S : Int) < R.length := by
          have := hcov (fun i hi => all_at hc hi)
          omega
        simp +decide (disch := first | assumption | exact cellV_int _ _ | exact cellV_bool _ | omega | (simp only [GH.pn, GH.sn] <;> omega) | (with_reducible ((repeat (first | apply GH.ok_push | apply GH.ok_set)); assumption)) | ((try simp only [GH.push_hid, GH.set_hid]); first | assumption | (refine GH.vis ?_ ?_ <;> first | assumption | ((try simp only [GH.pn, GH.sn]) <;> omega)))) only [go_sem, ↓reduceIte, Nat.reduceEqDiff, Nat.reduceAdd, Int.reduceToNat, Int.reduceAdd, Int.reduceNeg, Int.reduceSub, Int.reduceMul, Int.reduceLT, Int.reduceLE, Int.reduceEq, ↓GH.gp_eq, ↓GH.gp_ne, ↓GH.gs_eq, ↓GH.gs_ne, GH.push_next, GH.set_next, he, hlo]
        refine CallD.calm hszr ?_
        rintro v g5 hx5 rfl
        simp +decide (disch := first | assumption | exact cellV_int _ _ | exact cellV_bool _ | omega | (simp only [GH.pn, GH.sn] <;> omega) | (with_reducible ((repeat (first | apply GH.ok_push | apply GH.ok_set)); assumption)) | ((try simp only [GH.push_hid, GH.set_hid]); first | assumption | (refine GH.vis ?_ ?_ <;> first | assumption | ((try simp only [GH.pn, GH.sn]) <;> omega)))) only [go_sem, ↓reduceIte, Nat.reduceEqDiff, Nat.reduceAdd, Int.reduceToNat, Int.reduceAdd, Int.reduceNeg, Int.reduceSub, Int.reduceMul, Int.reduceLT, Int.reduceLE, Int.reduceEq, ↓GH.gp_eq, ↓GH.gp_ne, ↓GH.gs_eq, ↓GH.gs_ne, GH.push_next, GH.set_next, he, hgt]
        have hsX := hs4.ext hx5
        have hpX := hp4.kept hx5.kept
        have hTX := hT4.ext hx5
        have hfQ : Q.length ≤ 40 := by have := hf.2; omega
        refine Wk.loops (fun m e gg lo => gg = g5 ∧ g.next ≤ lo ∧ ∃ i : Nat, i + m = Q.length ∧ (ev e (.s 0) = s ∧ ev e (.s 2) = p ∧ ev e (.s 7) = .int .i64 (L.length : Int) ∧ ev e (.s 8) = o ∧ ev e (.s 15) = .int .i64 (tkn (toI (Q.take i)) 0 : Nat) ∧ ev e (.s 16) = .int .i64 (i : Nat)))
          (fun e gg lo => gg = g5 ∧ g.next ≤ lo ∧ (ev e (.s 0) = s ∧ ev e (.s 2) = p ∧ ev e (.s 7) = .int .i64 (L.length : Int) ∧ ev e (.s 8) = o ∧ ev e (.s 15) = .int .i64 (tkn (toI Q) 0 : Nat))) (n := Q.length) ?_ ?_ ?_
        case _ => exact ⟨rfl, by omega, 0, by omega, (by simp +decide (disch := first | assumption | (apply GH.ok_push; assumption) | exact cellV_int _ _ | exact cellV_bool _ | omega) only [go_sem, ↓reduceIte, Nat.reduceEqDiff, Nat.reduceAdd, Int.reduceToNat, he]; first | done | exact rfl)⟩
        case _ =>
          rintro e g8 lo8 hog8 hlg8 ⟨rfl, hlo8, he⟩
          simp +decide (disch := first | assumption | exact cellV_int _ _ | exact cellV_bool _ | omega | (simp only [GH.pn, GH.sn] <;> omega) | (with_reducible ((repeat (first | apply GH.ok_push | apply GH.ok_set)); assumption)) | ((try simp only [GH.push_hid, GH.set_hid]); first | assumption | (refine GH.vis ?_ ?_ <;> first | assumption | ((try simp only [GH.pn, GH.sn]) <;> omega)))) only [go_sem, ↓reduceIte, Nat.reduceEqDiff, Nat.reduceAdd, Int.reduceToNat, Int.reduceAdd, Int.reduceNeg, Int.reduceSub, Int.reduceMul, Int.reduceLT, Int.reduceLE, Int.reduceEq, ↓GH.gp_eq, ↓GH.gp_ne, ↓GH.gs_eq, ↓GH.gs_ne, GH.push_next, GH.set_next, he]
          obtain ⟨U, hU⟩ : ∃ U, tkn (toI Q) 0 = U := ⟨_, rfl⟩
          rw [hU] at he htl hts hcov2
          refine Wk.loops (fun m e gg lo => gg = g8 ∧ g.next ≤ lo ∧ ∃ i : Nat, i + m = L.length ∧ (ev e (.s 0) = s ∧ ev e (.s 2) = p ∧ ev e (.s 7) = .int .i64 (L.length : Int) ∧ ev e (.s 8) = o ∧ ev e (.s 15) = .int .i64 (U : Nat) ∧ ev e (.s 18) = .int .i64 (i : Nat) ∧ ev e (.s 17) = .bool ((List.range i).all (covB (setF L) U))))
            (fun e gg lo => gg = g8 ∧ g.next ≤ lo ∧ (ev e (.s 2) = p ∧ ev e (.s 8) = o ∧ ev e (.s 17) = .bool ((List.range L.length).all (covB (setF L) U)))) (n := L.length) ?_ ?_ ?_
          case _ => exact ⟨rfl, by omega, 0, by omega, (by simp +decide (disch := first | assumption | (apply GH.ok_push; assumption) | exact cellV_int _ _ | exact cellV_bool _ | omega) only [go_sem, ↓reduceIte, Nat.reduceEqDiff, Nat.reduceAdd, Int.reduceToNat, he]; first | done | exact rfl)⟩
          case _ =>
            rintro e g9 lo9 hog9 hlg9 ⟨rfl, hlo9, he⟩
            have hQR' : (Q.length : Int) ≤ R.length := by omega
            have hQR2 : ¬ (R.length : Int) < Q.length := by omega
            cases hd : (List.range L.length).all (covB (setF L) U) with
            | false =>
              rw [hd] at he
              simp +decide (disch := first | assumption | exact cellV_int _ _ | exact cellV_bool _ | omega | (simp only [GH.pn, GH.sn] <;> omega) | (with_reducible ((repeat (first | apply GH.ok_push | apply GH.ok_set)); assumption)) | ((try simp only [GH.push_hid, GH.set_hid]); first | assumption | (refine GH.vis ?_ ?_ <;> first | assumption | ((try simp only [GH.pn, GH.sn]) <;> omega)))) only [go_sem, ↓reduceIte, Nat.reduceEqDiff, Nat.reduceAdd, Int.reduceToNat, Int.reduceAdd, Int.reduceNeg, Int.reduceSub, Int.reduceMul, Int.reduceLT, Int.reduceLE, Int.reduceEq, ↓GH.gp_eq, ↓GH.gp_ne, ↓GH.gs_eq, ↓GH.gs_ne, GH.push_next, GH.set_next, he, hlp, hlo, hQR', hQR2]
              refine CallD.calm (hX.alive g9 hTX) ?_
              rintro v g10 hx10 rfl
              simp +decide (disch := first | assumption | exact cellV_int _ _ | exact cellV_bool _ | omega | (simp only [GH.pn, GH.sn] <;> omega) | (with_reducible ((repeat (first | apply GH.ok_push | apply GH.ok_set)); assumption)) | ((try simp only [GH.push_hid, GH.set_hid]); first | assumption | (refine GH.vis ?_ ?_ <;> first | assumption | ((try simp only [GH.pn, GH.sn]) <;> omega)))) only [go_sem, ↓reduceIte, Nat.reduceEqDiff, Nat.reduceAdd, Int.reduceToNat, Int.reduceAdd, Int.reduceNeg, Int.reduceSub, Int.reduceMul, Int.reduceLT, Int.reduceLE, Int.reduceEq, ↓GH.gp_eq, ↓GH.gp_ne, ↓GH.gs_eq, ↓GH.gs_ne, GH.push_next, GH.set_next]
              intro hx0
              exact ⟨by omega, rfl⟩
            | true =>
              rw [hd] at he
              have hge : (R.length : Int) ≤ 2 * (Q.length : Int) := by
                have := hcov2 (fun i hi => all_at hd hi)
                omega
              simp +decide (disch := first | assumption | exact cellV_int _ _ | exact cellV_bool _ | omega | (simp only [GH.pn, GH.sn] <;> omega) | (with_reducible ((repeat (first | apply GH.ok_push | apply GH.ok_set)); assumption)) | ((try simp only [GH.push_hid, GH.set_hid]); first | assumption | (refine GH.vis ?_ ?_ <;> first | assumption | ((try simp only [GH.pn, GH.sn]) <;> omega)))) only [go_sem, ↓reduceIte, Nat.reduceEqDiff, Nat.reduceAdd, Int.reduceToNat, Int.reduceAdd, Int.reduceNeg, Int.reduceSub, Int.reduceMul, Int.reduceLT, Int.reduceLE, Int.reduceEq, ↓GH.gp_eq, ↓GH.gp_ne, ↓GH.gs_eq, ↓GH.gs_ne, GH.push_next, GH.set_next, he, hlp, hlo, hQR', hQR2, hge]
              refine CallD.calm (hX.alive g9 hTX) ?_
              rintro v g10 hx10 rfl
              simp +decide (disch := first | assumption | exact cellV_int _ _ | exact cellV_bool _ | omega | (simp only [GH.pn, GH.sn] <;> omega) | (with_reducible ((repeat (first | apply GH.ok_push | apply GH.ok_set)); assumption)) | ((try simp only [GH.push_hid, GH.set_hid]); first | assumption | (refine GH.vis ?_ ?_ <;> first | assumption | ((try simp only [GH.pn, GH.sn]) <;> omega)))) only [go_sem, ↓reduceIte, Nat.reduceEqDiff, Nat.reduceAdd, Int.reduceToNat, Int.reduceAdd, Int.reduceNeg, Int.reduceSub, Int.reduceMul, Int.reduceLT, Int.reduceLE, Int.reduceEq, ↓GH.gp_eq, ↓GH.gp_ne, ↓GH.gs_eq, ↓GH.gs_ne, GH.push_next, GH.set_next]
              intro hx0
              exact ⟨by omega, rfl⟩
          case _ =>
            rintro m e g9 lo9 ho9 hl9 ih out ⟨rfl, hlo9, i, hi, he⟩
            by_cases ci : i < L.length
            case neg =>
              have ci' : ¬ (i : Int) < L.length := by omega
              simp +decide (disch := first | assumption | exact cellV_int _ _ | exact cellV_bool _ | omega | (simp only [GH.pn, GH.sn] <;> omega) | (with_reducible ((repeat (first | apply GH.ok_push | apply GH.ok_set)); assumption)) | ((try simp only [GH.push_hid, GH.set_hid]); first | assumption | (refine GH.vis ?_ ?_ <;> first | assumption | ((try simp only [GH.pn, GH.sn]) <;> omega)))) only [go_sem, ↓reduceIte, Nat.reduceEqDiff, Nat.reduceAdd, Int.reduceToNat, Int.reduceAdd, Int.reduceNeg, Int.reduceSub, Int.reduceMul, Int.reduceLT, Int.reduceLE, Int.reduceEq, ↓GH.gp_eq, ↓GH.gp_ne, ↓GH.gs_eq, ↓GH.gs_ne, GH.push_next, GH.set_next, he, ci']
              have : i = L.length := by omega
              subst this
              exact out _ _ _ ⟨rfl, hlo9, (by simp +decide (disch := first | assumption | (apply GH.ok_push; assumption) | exact cellV_int _ _ | exact cellV_bool _ | omega) only [go_sem, ↓reduceIte, Nat.reduceEqDiff, Nat.reduceAdd, Int.reduceToNat, he]; first | done | exact rfl)⟩
            have ci' : (i : Int) < L.length := by omega
            obtain ⟨j2, o2, hj2, hq1, hq2⟩ := hsX.ptr (ints_get (D := L) (i := i) ci)
            have hq1 := hq1 (i : Int) rfl
            rw [(hA i ci).1] at hq2
            have hAi := (hA i ci).2.1
            have r1 := shr_fact (U : Int) i (by omega)
            have r2 := cov_loop hX L hz U htl i ci
            have n1 : ¬ (i : Int) < 0 := by omega
            have han := andn_i (a := setF L i) (b := U) (by omega) (by omega)
            have hall : (List.range (i + 1)).all (covB (setF L) U) = ((List.range i).all (covB (setF L) U) && covB (setF L) U i) := by
              rw [List.range_succ, List.all_append]; simp
            cases ca : (List.range i).all (covB (setF L) U) with
            | false =>
              rw [ca] at he hall
              simp +decide (disch := first | assumption | exact cellV_int _ _ | exact cellV_bool _ | omega | (simp only [GH.pn, GH.sn] <;> omega) | (with_reducible ((repeat (first | apply GH.ok_push | apply GH.ok_set)); assumption)) | ((try simp only [GH.push_hid, GH.set_hid]); first | assumption | (refine GH.vis ?_ ?_ <;> first | assumption | ((try simp only [GH.pn, GH.sn]) <;> omega)))) only [go_sem, ↓reduceIte, Nat.reduceEqDiff, Nat.reduceAdd, Int.reduceToNat, Int.reduceAdd, Int.reduceNeg, Int.reduceSub, Int.reduceMul, Int.reduceLT, Int.reduceLE, Int.reduceEq, ↓GH.gp_eq, ↓GH.gp_ne, ↓GH.gs_eq, ↓GH.gs_ne, GH.push_next, GH.set_next, he, ci']
              refine ih (m - 1) _ _ _ (by omega) ⟨rfl, hlo9, i + 1, by omega, ?_⟩
              rw [hall]
              exact (by simp +decide (disch := first | assumption | (apply GH.ok_push; assumption) | exact cellV_int _ _ | exact cellV_bool _ | omega) only [go_sem, ↓reduceIte, Nat.reduceEqDiff, Nat.reduceAdd, Int.reduceToNat, he]; first | done | exact rfl)
            | true =>
            rw [ca] at he hall
            cases cb : U.testBit i with
            | true =>
              rw [cb] at r2
              have r2' : ((U : Int) / 2 ^ i).tmod 2 = 1 := r2
              simp +decide (disch := first | assumption | exact cellV_int _ _ | exact cellV_bool _ | omega | (simp only [GH.pn, GH.sn] <;> omega) | (with_reducible ((repeat (first | apply GH.ok_push | apply GH.ok_set)); assumption)) | ((try simp only [GH.push_hid, GH.set_hid]); first | assumption | (refine GH.vis ?_ ?_ <;> first | assumption | ((try simp only [GH.pn, GH.sn]) <;> omega)))) only [go_sem, ↓reduceIte, Nat.reduceEqDiff, Nat.reduceAdd, Int.reduceToNat, Int.reduceAdd, Int.reduceNeg, Int.reduceSub, Int.reduceMul, Int.reduceLT, Int.reduceLE, Int.reduceEq, ↓GH.gp_eq, ↓GH.gp_ne, ↓GH.gs_eq, ↓GH.gs_ne, GH.push_next, GH.set_next, he, ci', ib_shr n1, r1, r2']
              refine ih (m - 1) _ _ _ (by omega) ⟨rfl, hlo9, i + 1, by omega, ?_⟩
              rw [hall, show covB (setF L) U i = true by unfold covB; rw [cb]; rfl]
              exact (by simp +decide (disch := first | assumption | (apply GH.ok_push; assumption) | exact cellV_int _ _ | exact cellV_bool _ | omega) only [go_sem, ↓reduceIte, Nat.reduceEqDiff, Nat.reduceAdd, Int.reduceToNat, he]; first | done | exact rfl)
            | false =>
              rw [cb] at r2
              have r2' : ((U : Int) / 2 ^ i).tmod 2 = 0 := r2
              by_cases cd : andn (setF L i) U = 0
              · have cd' : ((andn (setF L i) U : Nat) : Int) = 0 := by omega
                rw [cd'] at han
                simp +decide (disch := first | assumption | exact cellV_int _ _ | exact cellV_bool _ | omega | (simp only [GH.pn, GH.sn] <;> omega) | (with_reducible ((repeat (first | apply GH.ok_push | apply GH.ok_set)); assumption)) | ((try simp only [GH.push_hid, GH.set_hid]); first | assumption | (refine GH.vis ?_ ?_ <;> first | assumption | ((try simp only [GH.pn, GH.sn]) <;> omega)))) only [go_sem, ↓reduceIte, Nat.reduceEqDiff, Nat.reduceAdd, Int.reduceToNat, Int.reduceAdd, Int.reduceNeg, Int.reduceSub, Int.reduceMul, Int.reduceLT, Int.reduceLE, Int.reduceEq, ↓GH.gp_eq, ↓GH.gp_ne, ↓GH.gs_eq, ↓GH.gs_ne, GH.push_next, GH.set_next, he, ci', ib_shr n1, r1, r2', hq1, hq2, han]
                refine ih (m - 1) _ _ _ (by omega) ⟨rfl, hlo9, i + 1, by omega, ?_⟩
                rw [hall, show covB (setF L) U i = true by unfold covB; rw [cb, decide_eq_true cd]; rfl]
                exact (by simp +decide (disch := first | assumption | (apply GH.ok_push; assumption) | exact cellV_int _ _ | exact cellV_bool _ | omega) only [go_sem, ↓reduceIte, Nat.reduceEqDiff, Nat.reduceAdd, Int.reduceToNat, he]; first | done | exact rfl)
              · have cd' : ¬ ((andn (setF L i) U : Nat) : Int) = 0 := by omega
                simp +decide (disch := first | assumption | exact cellV_int _ _ | exact cellV_bool _ | omega | (simp only [GH.pn, GH.sn] <;> omega) | (with_reducible ((repeat (first | apply GH.ok_push | apply GH.ok_set)); assumption)) | ((try simp only [GH.push_hid, GH.set_hid]); first | assumption | (refine GH.vis ?_ ?_ <;> first | assumption | ((try simp only [GH.pn, GH.sn]) <;> omega)))) only [go_sem, ↓reduceIte, Nat.reduceEqDiff, Nat.reduceAdd, Int.reduceToNat, Int.reduceAdd, Int.reduceNeg, Int.reduceSub, Int.reduceMul, Int.reduceLT, Int.reduceLE, Int.reduceEq, ↓GH.gp_eq, ↓GH.gp_ne, ↓GH.gs_eq, ↓GH.gs_ne, GH.push_next, GH.set_next, he, ci', ib_shr n1, r1, r2', hq1, hq2, han, cd']
                refine ih (m - 1) _ _ _ (by omega) ⟨rfl, hlo9, i + 1, by omega, ?_⟩
                rw [hall, show covB (setF L) U i = false by unfold covB; rw [cb, decide_eq_false cd]; rfl]
                exact (by simp +decide (disch := first | assumption | (apply GH.ok_push; assumption) | exact cellV_int _ _ | exact cellV_bool _ | omega) only [go_sem, ↓reduceIte, Nat.reduceEqDiff, Nat.reduceAdd, Int.reduceToNat, he]; first | done | exact rfl)
        case _ =>
          rintro m e g8 lo8 ho8 hl8 ih out ⟨rfl, hlo8, i, hi, he⟩
          by_cases ci : i < Q.length
          case neg =>
            have ci' : ¬ (i : Int) < Q.length := by omega
            simp +decide (disch := first | assumption | exact cellV_int _ _ | exact cellV_bool _ | omega | (simp only [GH.pn, GH.sn] <;> omega) | (with_reducible ((repeat (first | apply GH.ok_push | apply GH.ok_set)); assumption)) | ((try simp only [GH.push_hid, GH.set_hid]); first | assumption | (refine GH.vis ?_ ?_ <;> first | assumption | ((try simp only [GH.pn, GH.sn]) <;> omega)))) only [go_sem, ↓reduceIte, Nat.reduceEqDiff, Nat.reduceAdd, Int.reduceToNat, Int.reduceAdd, Int.reduceNeg, Int.reduceSub, Int.reduceMul, Int.reduceLT, Int.reduceLE, Int.reduceEq, ↓GH.gp_eq, ↓GH.gp_ne, ↓GH.gs_eq, ↓GH.gs_ne, GH.push_next, GH.set_next, he, hlp, ci']
            have : i = Q.length := by omega
            subst this
            rw [List.take_length] at he
            exact out _ _ _ ⟨rfl, hlo8, (by simp +decide (disch := first | assumption | (apply GH.ok_push; assumption) | exact cellV_int _ _ | exact cellV_bool _ | omega) only [go_sem, ↓reduceIte, Nat.reduceEqDiff, Nat.reduceAdd, Int.reduceToNat, he]; first | done | exact rfl)⟩
          have ci' : (i : Int) < Q.length := by omega
          obtain ⟨j, a, hj, hp1, hp2, hp3⟩ := hpX.ptr ci
          have hp1 := hp1 (i : Int) rfl
          obtain ⟨c1, c2⟩ := cellsP_get Q i ci
          have hp20 := fun lo => hp2 lo 0 _ (by omega) c1
          have hp21 := fun lo => hp2 lo 1 _ (by omega) c2
          rw [Nat.add_zero] at hp20
          have hqm := hmem _ (List.getElem_mem ci)
          have htk : tkn (toI (Q.take (i + 1))) 0 = tkn (toI (Q.take i)) 0 ||| 2 ^ Q[i].1 ||| 2 ^ Q[i].2 := by
            rw [List.take_succ_eq_append_getElem ci]
            show tkn (List.map _ (Q.take i ++ [Q[i]])) 0 = _
            rw [List.map_append]
            exact tkn_snoc (toI (Q.take i)) ((Q[i].1 : Int), (Q[i].2 : Int)) 0
          have htl2 := tkn_lt L.length (Q.take i) 0 hN0 (fun q hq => hmem q (List.mem_of_mem_take hq))
          obtain ⟨⟨qa, qb⟩, hq⟩ : ∃ q, Q[i] = q := ⟨_, rfl⟩
          rw [hq] at hp20 hp21 hqm htk
          dsimp only at hp20 hp21 hqm htk
          generalize tkn (toI (Q.take i)) 0 = U0 at *
          have a1 : ¬ (qa : Int) < 0 := by omega
          have a2 : ¬ (qb : Int) < 0 := by omega
          have a3 : ¬ (L.length : Int) ≤ qa := by omega
          have a4 : ¬ (L.length : Int) ≤ qb := by omega
          have s1 := shl_i (k := qa) (by omega)
          have s2 := shl_i (k := qb) (by omega)
          have l1 := two_lt (k := qa) (by omega)
          have l2 := two_lt (k := qb) (by omega)
          have o1 := or_i (a := U0) (b := 2 ^ qa) (by omega) (by omega)
          have l3 := or_lt htl2 hqm.1
          have o2 := or_i (a := U0 ||| 2 ^ qa) (b := 2 ^ qb) (by omega) (by omega)
          simp +decide (disch := first | assumption | exact cellV_int _ _ | exact cellV_bool _ | omega | (simp only [GH.pn, GH.sn] <;> omega) | (with_reducible ((repeat (first | apply GH.ok_push | apply GH.ok_set)); assumption)) | ((try simp only [GH.push_hid, GH.set_hid]); first | assumption | (refine GH.vis ?_ ?_ <;> first | assumption | ((try simp only [GH.pn, GH.sn]) <;> omega)))) only [go_sem, ↓reduceIte, Nat.reduceEqDiff, Nat.reduceAdd, Int.reduceToNat, Int.reduceAdd, Int.reduceNeg, Int.reduceSub, Int.reduceMul, Int.reduceLT, Int.reduceLE, Int.reduceEq, ↓GH.gp_eq, ↓GH.gp_ne, ↓GH.gs_eq, ↓GH.gs_ne, GH.push_next, GH.set_next, he, hlp, ci', hp1, hp20, hp21, a1, a2, a3, a4, s1, s2, o1, o2]
          refine ih (m - 1) _ _ _ (by omega) ⟨rfl, hlo8, i + 1, by omega, ?_⟩
          rw [htk]
          exact (by simp +decide (disch := first | assumption | (apply GH.ok_push; assumption) | exact cellV_int _ _ | exact cellV_bool _ | omega) only [go_sem, ↓reduceIte, Nat.reduceEqDiff, Nat.reduceAdd, Int.reduceToNat, he]; first | done | exact rfl)
  case _ =>
    rintro m e g' lo ho' hl' ih out ⟨rfl, hlo', i, hi, he⟩
    by_cases ci : i < L.length
    case neg =>
      have ci' : ¬ (i : Int) < L.length := by omega
      simp +decide (disch := first | assumption | exact cellV_int _ _ | exact cellV_bool _ | omega | (simp only [GH.pn, GH.sn] <;> omega) | (with_reducible ((repeat (first | apply GH.ok_push | apply GH.ok_set)); assumption)) | ((try simp only [GH.push_hid, GH.set_hid]); first | assumption | (refine GH.vis ?_ ?_ <;> first | assumption | ((try simp only [GH.pn, GH.sn]) <;> omega)))) only [go_sem, ↓reduceIte, Nat.reduceEqDiff, Nat.reduceAdd, Int.reduceToNat, Int.reduceAdd, Int.reduceNeg, Int.reduceSub, Int.reduceMul, Int.reduceLT, Int.reduceLE, Int.reduceEq, ↓GH.gp_eq, ↓GH.gp_ne, ↓GH.gs_eq, ↓GH.gs_ne, GH.push_next, GH.set_next, he, ci']
      have : i = L.length := by omega
      subst this
      exact out _ _ _ ⟨rfl, hlo', (by simp +decide (disch := first | assumption | (apply GH.ok_push; assumption) | exact cellV_int _ _ | exact cellV_bool _ | omega) only [go_sem, ↓reduceIte, Nat.reduceEqDiff, Nat.reduceAdd, Int.reduceToNat, he]; first | done | exact rfl)⟩
    have ci' : (i : Int) < L.length := by omega
    obtain ⟨j2, o2, hj2, hq1, hq2⟩ := hs4.ptr (ints_get (D := L) (i := i) ci)
    have hq1 := hq1 (i : Int) rfl
    rw [(hA i ci).1] at hq2
    have hAi := (hA i ci).2.1
    have r1 := shr_fact (S : Int) i (by omega)
    have r2 := cov_loop hX L hz S hS i ci
    have n1 : ¬ (i : Int) < 0 := by omega
    have han := andn_i (a := setF L i) (b := S) (by omega) (by omega)
    have hall : (List.range (i + 1)).all (covB (setF L) S) = ((List.range i).all (covB (setF L) S) && covB (setF L) S i) := by
      rw [List.range_succ, List.all_append]; simp
    cases ca : (List.range i).all (covB (setF L) S) with
    | false =>
      rw [ca] at he hall
      simp +decide (disch := first | assumption | exact cellV_int _ _ | exact cellV_bool _ | omega | (simp only [GH.pn, GH.sn] <;> omega) | (with_reducible ((repeat (first | apply GH.ok_push | apply GH.ok_set)); assumption)) | ((try simp only [GH.push_hid, GH.set_hid]); first | assumption | (refine GH.vis ?_ ?_ <;> first | assumption | ((try simp only [GH.pn, GH.sn]) <;> omega)))) only [go_sem, ↓reduceIte, Nat.reduceEqDiff, Nat.reduceAdd, Int.reduceToNat, Int.reduceAdd, Int.reduceNeg, Int.reduceSub, Int.reduceMul, Int.reduceLT, Int.reduceLE, Int.reduceEq, ↓GH.gp_eq, ↓GH.gp_ne, ↓GH.gs_eq, ↓GH.gs_ne, GH.push_next, GH.set_next, he, ci']
      refine ih (m - 1) _ _ _ (by omega) ⟨rfl, hlo', i + 1, by omega, ?_⟩
      rw [hall]
      exact (by simp +decide (disch := first | assumption | (apply GH.ok_push; assumption) | exact cellV_int _ _ | exact cellV_bool _ | omega) only [go_sem, ↓reduceIte, Nat.reduceEqDiff, Nat.reduceAdd, Int.reduceToNat, he]; first | done | exact rfl)
    | true =>
    rw [ca] at he hall
    cases cb : S.testBit i with
    | true =>
      rw [cb] at r2
      have r2' : ((S : Int) / 2 ^ i).tmod 2 = 1 := r2
      simp +decide (disch := first | assumption | exact cellV_int _ _ | exact cellV_bool _ | omega | (simp only [GH.pn, GH.sn] <;> omega) | (with_reducible ((repeat (first | apply GH.ok_push | apply GH.ok_set)); assumption)) | ((try simp only [GH.push_hid, GH.set_hid]); first | assumption | (refine GH.vis ?_ ?_ <;> first | assumption | ((try simp only [GH.pn, GH.sn]) <;> omega)))) only [go_sem, ↓reduceIte, Nat.reduceEqDiff, Nat.reduceAdd, Int.reduceToNat, Int.reduceAdd, Int.reduceNeg, Int.reduceSub, Int.reduceMul, Int.reduceLT, Int.reduceLE, Int.reduceEq, ↓GH.gp_eq, ↓GH.gp_ne, ↓GH.gs_eq, ↓GH.gs_ne, GH.push_next, GH.set_next, he, ci', ib_shr n1, r1, r2']
      refine ih (m - 1) _ _ _ (by omega) ⟨rfl, hlo', i + 1, by omega, ?_⟩
      rw [hall, show covB (setF L) S i = true by unfold covB; rw [cb]; rfl]
      exact (by simp +decide (disch := first | assumption | (apply GH.ok_push; assumption) | exact cellV_int _ _ | exact cellV_bool _ | omega) only [go_sem, ↓reduceIte, Nat.reduceEqDiff, Nat.reduceAdd, Int.reduceToNat, he]; first | done | exact rfl)
    | false =>
      rw [cb] at r2
      have r2' : ((S : Int) / 2 ^ i).tmod 2 = 0 := r2
      by_cases cd : andn (setF L i) S = 0
      · have cd' : ((andn (setF L i) S : Nat) : Int) = 0 := by omega
        rw [cd'] at han
        simp +decide (disch := first | assumption | exact cellV_int _ _ | exact cellV_bool _ | omega | (simp only [GH.pn, GH.sn] <;> omega) | (with_reducible ((repeat (first | apply GH.ok_push | apply GH.ok_set)); assumption)) | ((try simp only [GH.push_hid, GH.set_hid]); first | assumption | (refine GH.vis ?_ ?_ <;> first | assumption | ((try simp only [GH.pn, GH.sn]) <;> omega)))) only [go_sem, ↓reduceIte, Nat.reduceEqDiff, Nat.reduceAdd, Int.reduceToNat, Int.reduceAdd, Int.reduceNeg, Int.reduceSub, Int.reduceMul, Int.reduceLT, Int.reduceLE, Int.reduceEq, ↓GH.gp_eq, ↓GH.gp_ne, ↓GH.gs_eq, ↓GH.gs_ne, GH.push_next, GH.set_next, he, ci', ib_shr n1, r1, r2', hq1, hq2, han]
        refine ih (m - 1) _ _ _ (by omega) ⟨rfl, hlo', i + 1, by omega, ?_⟩
        rw [hall, show covB (setF L) S i = true by unfold covB; rw [cb, decide_eq_true cd]; rfl]
        exact (by simp +decide (disch := first | assumption | (apply GH.ok_push; assumption) | exact cellV_int _ _ | exact cellV_bool _ | omega) only [go_sem, ↓reduceIte, Nat.reduceEqDiff, Nat.reduceAdd, Int.reduceToNat, he]; first | done | exact rfl)
      · have cd' : ¬ ((andn (setF L i) S : Nat) : Int) = 0 := by omega
        simp +decide (disch := first | assumption | exact cellV_int _ _ | exact cellV_bool _ | omega | (simp only [GH.pn, GH.sn] <;> omega) | (with_reducible ((repeat (first | apply GH.ok_push | apply GH.ok_set)); assumption)) | ((try simp only [GH.push_hid, GH.set_hid]); first | assumption | (refine GH.vis ?_ ?_ <;> first | assumption | ((try simp only [GH.pn, GH.sn]) <;> omega)))) only [go_sem, ↓reduceIte, Nat.reduceEqDiff, Nat.reduceAdd, Int.reduceToNat, Int.reduceAdd, Int.reduceNeg, Int.reduceSub, Int.reduceMul, Int.reduceLT, Int.reduceLE, Int.reduceEq, ↓GH.gp_eq, ↓GH.gp_ne, ↓GH.gs_eq, ↓GH.gs_ne, GH.push_next, GH.set_next, he, ci', ib_shr n1, r1, r2', hq1, hq2, han, cd']
        refine ih (m - 1) _ _ _ (by omega) ⟨rfl, hlo', i + 1, by omega, ?_⟩
        rw [hall, show covB (setF L) S i = false by unfold covB; rw [cb, decide_eq_false cd]; rfl]
        exact (by simp +decide (disch := first | assumption | (apply GH.ok_push; assumption) | exact cellV_int _ _ | exact cellV_bool _ | omega) only [go_sem, ↓reduceIte, Nat.reduceEqDiff, Nat.reduceAdd, Int.reduceToNat, he]; first | done | exact rfl)
end Go.Proofs.YtnpapnpedcbfnaaDoor
