import Derived.Test.YtnpapnpedcbfnaaDoorJ2
import Derived.Test.YtnpapnpedcbfnaaDoorDtM
set_option linter.all false
set_option linter.unusedSimpArgs false
set_option linter.unnecessarySimpa false
set_option linter.unusedVariables false
set_option linter.unusedSectionVars false
set_option linter.unusedVariables false
namespace Go.Proofs.YtnpapnpedcbfnaaDoor
open Go.Vs
/-! ## Pairs that are a matching -/
theorem scan_mat {L : List Int} : ∀ (P : List (Int × Int)) (last : Int) (tk s : Nat), -1 ≤ last → (∀ j, s.testBit j = (decide (j < L.length) && decide (last < (j : Int)) && !tk.testBit j)) → scanM L P last tk = true → ∃ Q, P = toI Q ∧ mat (setF L) s Q = true
  | [], last, tk, s, _, _, _ => ⟨[], rfl, rfl⟩
  | (x, y) :: P, last, tk, s, hl, hs, h => by
    have h : (goodP L last tk x y && scanM L P x (tk ||| 2 ^ x.toNat ||| 2 ^ y.toNat)) = true := h
    rw [Bool.and_eq_true] at h
    obtain ⟨h1, h2⟩ := h
    unfold goodP at h1
    simp only [Bool.and_eq_true, decide_eq_true_eq, Bool.not_eq_true'] at h1
    obtain ⟨⟨⟨⟨⟨q1, q2⟩, q3⟩, q4⟩, q5⟩, q6⟩ := h1
    obtain ⟨a, rfl⟩ : ∃ a : Nat, x = a := ⟨x.toNat, by omega⟩
    obtain ⟨b, rfl⟩ : ∃ b : Nat, y = b := ⟨y.toNat, by omega⟩
    simp only [Int.toNat_natCast] at q4 q5 q6 h2
    obtain ⟨Q, hQ, hm⟩ := scan_mat P a (tk ||| 2 ^ a ||| 2 ^ b) (del (up s a) b) (by omega) (fun j => by
      rw [del_bit, up_bit, hs, Nat.testBit_or, Nat.testBit_or]
      by_cases c1 : j < L.length
      · by_cases c2 : a < j
        · have e1 : (2 ^ a).testBit j = false := Nat.testBit_two_pow_of_ne (by omega)
          rw [decide_eq_true c1, decide_eq_true (p := last < (j : Int)) (by omega), decide_eq_true c2, decide_eq_true (p := (a : Int) < j) (by omega), e1]
          by_cases c3 : j = b
          · subst c3; rw [Nat.testBit_two_pow_self]; simp
          · rw [Nat.testBit_two_pow_of_ne (Ne.symm c3)]; simp [c3]
        · rw [decide_eq_false c2, decide_eq_false (p := (a : Int) < j) (by omega)]; simp
      · rw [decide_eq_false c1]; simp) h2
    refine ⟨(a, b) :: Q, by rw [hQ]; rfl, mat_mk (by omega) ?_ ?_ q4 hm⟩
    · rw [hs, q5, decide_eq_true (p := a < L.length) (by omega), decide_eq_true (p := last < (a : Int)) (by omega)]; rfl
    · rw [hs, q6, decide_eq_true (p := b < L.length) (by omega), decide_eq_true (p := last < (b : Int)) (by omega)]; rfl
theorem matI_mat {L : List Int} {P : List (Int × Int)} (h : matI L P = true) : ∃ Q, P = toI Q ∧ mat (setF L) (allN L.length) Q = true :=
  scan_mat P (-1) 0 (allN L.length) (by omega) (fun j => by
    rw [all_bit, decide_eq_true (p := (-1 : Int) < (j : Int)) (by omega)]
    simp) h
theorem all_lt (n : Nat) : allN n < 2 ^ n := by unfold allN; have := Nat.two_pow_pos n; omega
end Go.Proofs.YtnpapnpedcbfnaaDoor
set_option maxRecDepth 100000
set_option maxHeartbeats 4000000
set_option linter.unusedSimpArgs false
set_option linter.unusedVariables false
namespace Go.Proofs.YtnpapnpedcbfnaaDoor
open Go.Ds Go.Vs
theorem ext20 (a b : Value) : extF (.tuple #[a, b]) 0 = some a := Eq.trans rfl rfl
theorem ext21 (a b : Value) : extF (.tuple #[a, b]) 1 = some b := Eq.trans rfl rfl
theorem eqA_ne (a b c d : Int) : eqAF true 2 (.agg #[.int .i64 a, .int .i64 b]) (.agg #[.int .i64 c, .int .i64 d]) = some (.bool (!(decide (a = c) && decide (b = d)))) := by
  simp [eqAF, intEqs, kindEq, eq_i]
  cases decide (a = c) <;> cases decide (b = d) <;> rfl
theorem cellsP_drop (L : List (Nat × Nat)) (i : Nat) (h : i < L.length) : (((cellsP L).drop (i * 2)).take 2).toArray = #[.int .i64 (L[i].1 : Int), .int .i64 (L[i].2 : Int)] := by
  have h1 := cellsI_drop (toI L) i (by simpa [toI] using h)
  rw [cellsI_toI] at h1
  rw [h1]
  simp [toI]
theorem cellsP_get (L : List (Nat × Nat)) (i : Nat) (h : i < L.length) : (cellsP L)[i * 2]? = some (.int .i64 (L[i].1 : Int)) ∧ (cellsP L)[i * 2 + 1]? = some (.int .i64 (L[i].2 : Int)) := by
  have h1 := cellsI_get (toI L) i (by simpa [toI] using h)
  rw [cellsI_toI] at h1
  simpa [toI] using h1
theorem firstLaw_rets {X : Caller} (hX : Xok X) (L : List Int) (s p : Value) (P : List (Int × Int)) (g : GH) (hT : HasTab g) (hs : SlR g s (ints L)) (hp : SlQ g p 2 P.length (cellsI P)) :
    Rets Tryd.prog X 14 [s, p] g (fun v g' lo => g.next ≤ lo ∧ v = .bool true) := by
  have hl := hs.len
  rw [ints_len] at hl
  have hlp := hp.len
  refine Rets.run hX.pres p14 (hX.free 14 (by decide) _ _) rfl fun ho => ?_
  simp +decide (disch := first | assumption | exact cellV_int _ _ | exact cellV_bool _ | omega | (simp only [GH.pn, GH.sn] <;> omega) | (with_reducible ((repeat (first | apply GH.ok_push | apply GH.ok_set)); assumption)) | ((try simp only [GH.push_hid, GH.set_hid]); first | assumption | (refine GH.vis ?_ ?_ <;> first | assumption | ((try simp only [GH.pn, GH.sn]) <;> omega)))) only [go_sem, ↓reduceIte, Nat.reduceEqDiff, Nat.reduceAdd, Int.reduceToNat, Int.reduceAdd, Int.reduceNeg, Int.reduceSub, Int.reduceMul, Int.reduceLT, Int.reduceLE, Int.reduceEq, ↓GH.gp_eq, ↓GH.gp_ne, ↓GH.gs_eq, ↓GH.gs_ne, GH.push_next, GH.set_next]
  refine CallD.calm (few_rets hX.toXfr s p _ _ hl hlp g) ?_
  rintro v g1 hx1 rfl
  have hn1 := hx1.next
  have hT1 := hT.ext hx1
  cases hf : (decide (L.length ≤ 40) && decide (P.length ≤ 40)) with
  | false =>
    simp +decide (disch := first | assumption | exact cellV_int _ _ | exact cellV_bool _ | omega | (simp only [GH.pn, GH.sn] <;> omega) | (with_reducible ((repeat (first | apply GH.ok_push | apply GH.ok_set)); assumption)) | ((try simp only [GH.push_hid, GH.set_hid]); first | assumption | (refine GH.vis ?_ ?_ <;> first | assumption | ((try simp only [GH.pn, GH.sn]) <;> omega)))) only [go_sem, ↓reduceIte, Nat.reduceEqDiff, Nat.reduceAdd, Int.reduceToNat, Int.reduceAdd, Int.reduceNeg, Int.reduceSub, Int.reduceMul, Int.reduceLT, Int.reduceLE, Int.reduceEq, ↓GH.gp_eq, ↓GH.gp_ne, ↓GH.gs_eq, ↓GH.gs_ne, GH.push_next, GH.set_next]
    refine CallD.calm (hX.alive g1 hT1) ?_
    rintro v g2 hx2 rfl
    have hn2 := hx2.next
    simp +decide (disch := first | assumption | exact cellV_int _ _ | exact cellV_bool _ | omega | (simp only [GH.pn, GH.sn] <;> omega) | (with_reducible ((repeat (first | apply GH.ok_push | apply GH.ok_set)); assumption)) | ((try simp only [GH.push_hid, GH.set_hid]); first | assumption | (refine GH.vis ?_ ?_ <;> first | assumption | ((try simp only [GH.pn, GH.sn]) <;> omega)))) only [go_sem, ↓reduceIte, Nat.reduceEqDiff, Nat.reduceAdd, Int.reduceToNat, Int.reduceAdd, Int.reduceNeg, Int.reduceSub, Int.reduceMul, Int.reduceLT, Int.reduceLE, Int.reduceEq, ↓GH.gp_eq, ↓GH.gp_ne, ↓GH.gs_eq, ↓GH.gs_ne, GH.push_next, GH.set_next]
    intro hx0
    exact ⟨by omega, rfl⟩
  | true =>
  rw [Bool.and_eq_true, decide_eq_true_eq, decide_eq_true_eq] at hf
  simp +decide (disch := first | assumption | exact cellV_int _ _ | exact cellV_bool _ | omega | (simp only [GH.pn, GH.sn] <;> omega) | (with_reducible ((repeat (first | apply GH.ok_push | apply GH.ok_set)); assumption)) | ((try simp only [GH.push_hid, GH.set_hid]); first | assumption | (refine GH.vis ?_ ?_ <;> first | assumption | ((try simp only [GH.pn, GH.sn]) <;> omega)))) only [go_sem, ↓reduceIte, Nat.reduceEqDiff, Nat.reduceAdd, Int.reduceToNat, Int.reduceAdd, Int.reduceNeg, Int.reduceSub, Int.reduceMul, Int.reduceLT, Int.reduceLE, Int.reduceEq, ↓GH.gp_eq, ↓GH.gp_ne, ↓GH.gs_eq, ↓GH.gs_ne, GH.push_next, GH.set_next]
  refine CallD.calm (refIsShop_rets hX.toXfr L hf.1 s g1 (hs.ext hx1)) ?_
  rintro v g2 hx2 rfl
  have hn2 := hx2.next
  have hT2 := hT1.ext hx2
  have hk2 : Kept g g2 := hx1.kept.ext hx2
  cases hz : shopB L with
  | false =>
    simp +decide (disch := first | assumption | exact cellV_int _ _ | exact cellV_bool _ | omega | (simp only [GH.pn, GH.sn] <;> omega) | (with_reducible ((repeat (first | apply GH.ok_push | apply GH.ok_set)); assumption)) | ((try simp only [GH.push_hid, GH.set_hid]); first | assumption | (refine GH.vis ?_ ?_ <;> first | assumption | ((try simp only [GH.pn, GH.sn]) <;> omega)))) only [go_sem, ↓reduceIte, Nat.reduceEqDiff, Nat.reduceAdd, Int.reduceToNat, Int.reduceAdd, Int.reduceNeg, Int.reduceSub, Int.reduceMul, Int.reduceLT, Int.reduceLE, Int.reduceEq, ↓GH.gp_eq, ↓GH.gp_ne, ↓GH.gs_eq, ↓GH.gs_ne, GH.push_next, GH.set_next]
    refine CallD.calm (hX.alive g2 hT2) ?_
    rintro v g3 hx3 rfl
    have hn3 := hx3.next
    simp +decide (disch := first | assumption | exact cellV_int _ _ | exact cellV_bool _ | omega | (simp only [GH.pn, GH.sn] <;> omega) | (with_reducible ((repeat (first | apply GH.ok_push | apply GH.ok_set)); assumption)) | ((try simp only [GH.push_hid, GH.set_hid]); first | assumption | (refine GH.vis ?_ ?_ <;> first | assumption | ((try simp only [GH.pn, GH.sn]) <;> omega)))) only [go_sem, ↓reduceIte, Nat.reduceEqDiff, Nat.reduceAdd, Int.reduceToNat, Int.reduceAdd, Int.reduceNeg, Int.reduceSub, Int.reduceMul, Int.reduceLT, Int.reduceLE, Int.reduceEq, ↓GH.gp_eq, ↓GH.gp_ne, ↓GH.gs_eq, ↓GH.gs_ne, GH.push_next, GH.set_next]
    intro hx0
    exact ⟨by omega, rfl⟩
  | true =>
  obtain ⟨hL1, hL10, hA⟩ := shop_ok hz
  simp +decide (disch := first | assumption | exact cellV_int _ _ | exact cellV_bool _ | omega | (simp only [GH.pn, GH.sn] <;> omega) | (with_reducible ((repeat (first | apply GH.ok_push | apply GH.ok_set)); assumption)) | ((try simp only [GH.push_hid, GH.set_hid]); first | assumption | (refine GH.vis ?_ ?_ <;> first | assumption | ((try simp only [GH.pn, GH.sn]) <;> omega)))) only [go_sem, ↓reduceIte, Nat.reduceEqDiff, Nat.reduceAdd, Int.reduceToNat, Int.reduceAdd, Int.reduceNeg, Int.reduceSub, Int.reduceMul, Int.reduceLT, Int.reduceLE, Int.reduceEq, ↓GH.gp_eq, ↓GH.gp_ne, ↓GH.gs_eq, ↓GH.gs_ne, GH.push_next, GH.set_next]
  refine CallD.calm (Largest_rets hX L hz s g2 hT2 (hs.kept hk2)) ?_
  rintro v g3 hx3 ⟨hok3, hk3, o, rfl, hown3⟩
  have hn3 := hx3.next
  have hk3' := hk2.trans hk3
  simp +decide (disch := first | assumption | exact cellV_int _ _ | exact cellV_bool _ | omega | (simp only [GH.pn, GH.sn] <;> omega) | (with_reducible ((repeat (first | apply GH.ok_push | apply GH.ok_set)); assumption)) | ((try simp only [GH.push_hid, GH.set_hid]); first | assumption | (refine GH.vis ?_ ?_ <;> first | assumption | ((try simp only [GH.pn, GH.sn]) <;> omega)))) only [go_sem, ↓reduceIte, Nat.reduceEqDiff, Nat.reduceAdd, Int.reduceToNat, Int.reduceAdd, Int.reduceNeg, Int.reduceSub, Int.reduceMul, Int.reduceLT, Int.reduceLE, Int.reduceEq, ↓GH.gp_eq, ↓GH.gp_ne, ↓GH.gs_eq, ↓GH.gs_ne, GH.push_next, GH.set_next, ext20, ext21]
  refine CallD.calm (IsMatching_rets hX.toXfr L hf.1 s p P (by omega) g3 (hs.kept hk3') (hp.kept hk3')) ?_
  rintro v g4 hx4 rfl
  have hn4 := hx4.next
  have hk4 := hk3'.ext hx4
  have hown4 := (hown3.kept hx4.kept).read
  have hlo := hown4.len
  rw [hz, if_pos rfl]
  have hT4 := hT.kept hk4
  have hT4 := hT.kept hk4
  cases hm : matI L P with
  | false =>
    simp +decide (disch := first | assumption | exact cellV_int _ _ | exact cellV_bool _ | omega | (simp only [GH.pn, GH.sn] <;> omega) | (with_reducible ((repeat (first | apply GH.ok_push | apply GH.ok_set)); assumption)) | ((try simp only [GH.push_hid, GH.set_hid]); first | assumption | (refine GH.vis ?_ ?_ <;> first | assumption | ((try simp only [GH.pn, GH.sn]) <;> omega)))) only [go_sem, ↓reduceIte, Nat.reduceEqDiff, Nat.reduceAdd, Int.reduceToNat, Int.reduceAdd, Int.reduceNeg, Int.reduceSub, Int.reduceMul, Int.reduceLT, Int.reduceLE, Int.reduceEq, ↓GH.gp_eq, ↓GH.gp_ne, ↓GH.gs_eq, ↓GH.gs_ne, GH.push_next, GH.set_next, ext20, ext21]
    refine CallD.calm (hX.alive g4 hT4) ?_
    rintro v g5 hx5 rfl
    have hn5 := hx5.next
    simp +decide (disch := first | assumption | exact cellV_int _ _ | exact cellV_bool _ | omega | (simp only [GH.pn, GH.sn] <;> omega) | (with_reducible ((repeat (first | apply GH.ok_push | apply GH.ok_set)); assumption)) | ((try simp only [GH.push_hid, GH.set_hid]); first | assumption | (refine GH.vis ?_ ?_ <;> first | assumption | ((try simp only [GH.pn, GH.sn]) <;> omega)))) only [go_sem, ↓reduceIte, Nat.reduceEqDiff, Nat.reduceAdd, Int.reduceToNat, Int.reduceAdd, Int.reduceNeg, Int.reduceSub, Int.reduceMul, Int.reduceLT, Int.reduceLE, Int.reduceEq, ↓GH.gp_eq, ↓GH.gp_ne, ↓GH.gs_eq, ↓GH.gs_ne, GH.push_next, GH.set_next]
    intro hx0
    exact ⟨by omega, rfl⟩
  | true =>
  obtain ⟨Q, rfl, hmq⟩ := matI_mat hm
  have hfirst := lrg_first (n := L.length) (allN L.length) (all_lt L.length) Q hmq
  rw [← lrg_len] at hfirst
  generalize lrg (setF L) L.length (allN L.length) = R at *
  have hQl : (toI Q).length = Q.length := by simp [toI]
  rw [hQl] at hlp hp
  rw [cellsI_toI] at hp
  by_cases hlen : (Q.length : Int) = R.length
  case neg =>
    simp +decide (disch := first | assumption | exact cellV_int _ _ | exact cellV_bool _ | omega | (simp only [GH.pn, GH.sn] <;> omega) | (with_reducible ((repeat (first | apply GH.ok_push | apply GH.ok_set)); assumption)) | ((try simp only [GH.push_hid, GH.set_hid]); first | assumption | (refine GH.vis ?_ ?_ <;> first | assumption | ((try simp only [GH.pn, GH.sn]) <;> omega)))) only [go_sem, ↓reduceIte, Nat.reduceEqDiff, Nat.reduceAdd, Int.reduceToNat, Int.reduceAdd, Int.reduceNeg, Int.reduceSub, Int.reduceMul, Int.reduceLT, Int.reduceLE, Int.reduceEq, ↓GH.gp_eq, ↓GH.gp_ne, ↓GH.gs_eq, ↓GH.gs_ne, GH.push_next, GH.set_next, hlp, hlo, hlen, ext20, ext21]
    refine CallD.calm (hX.alive g4 hT4) ?_
    rintro v g5 hx5 rfl
    have hn5 := hx5.next
    simp +decide (disch := first | assumption | exact cellV_int _ _ | exact cellV_bool _ | omega | (simp only [GH.pn, GH.sn] <;> omega) | (with_reducible ((repeat (first | apply GH.ok_push | apply GH.ok_set)); assumption)) | ((try simp only [GH.push_hid, GH.set_hid]); first | assumption | (refine GH.vis ?_ ?_ <;> first | assumption | ((try simp only [GH.pn, GH.sn]) <;> omega)))) only [go_sem, ↓reduceIte, Nat.reduceEqDiff, Nat.reduceAdd, Int.reduceToNat, Int.reduceAdd, Int.reduceNeg, Int.reduceSub, Int.reduceMul, Int.reduceLT, Int.reduceLE, Int.reduceEq, ↓GH.gp_eq, ↓GH.gp_ne, ↓GH.gs_eq, ↓GH.gs_ne, GH.push_next, GH.set_next]
    intro hx0
    exact ⟨by omega, rfl⟩
  have hlen' : Q.length = R.length := by omega
  simp +decide (disch := first | assumption | exact cellV_int _ _ | exact cellV_bool _ | omega | (simp only [GH.pn, GH.sn] <;> omega) | (with_reducible ((repeat (first | apply GH.ok_push | apply GH.ok_set)); assumption)) | ((try simp only [GH.push_hid, GH.set_hid]); first | assumption | (refine GH.vis ?_ ?_ <;> first | assumption | ((try simp only [GH.pn, GH.sn]) <;> omega)))) only [go_sem, ↓reduceIte, Nat.reduceEqDiff, Nat.reduceAdd, Int.reduceToNat, Int.reduceAdd, Int.reduceNeg, Int.reduceSub, Int.reduceMul, Int.reduceLT, Int.reduceLE, Int.reduceEq, ↓GH.gp_eq, ↓GH.gp_ne, ↓GH.gs_eq, ↓GH.gs_ne, GH.push_next, GH.set_next, hlp, hlo, hlen, ext20, ext21]
  refine Wk.loops (fun m e g' lo => g.next ≤ lo ∧ Kept g4 g' ∧ ∃ i : Nat, i + m = Q.length ∧ (ev e (.s 1) = p ∧ ev e (.s 5) = o ∧ ev e (.s 9) = .int .i64 (i : Nat)) ∧ ∀ j, j < i → Q[j]? = R[j]?)
    (fun e g' lo => g.next ≤ lo ∧ Kept g4 g') (n := Q.length) ?_ ?_ ?_
  · exact ⟨by omega, Kept.refl _, 0, by omega, (by simp +decide (disch := first | assumption | (apply GH.ok_push; assumption) | exact cellV_int _ _ | exact cellV_bool _ | omega) only [go_sem, ↓reduceIte, Nat.reduceEqDiff, Nat.reduceAdd, Int.reduceToNat]; first | done | exact rfl), fun j hj => by omega⟩
  · rintro e g' lo hog hlg ⟨hlo', hk⟩
    simp +decide (disch := first | assumption | exact cellV_int _ _ | exact cellV_bool _ | omega | (simp only [GH.pn, GH.sn] <;> omega) | (with_reducible ((repeat (first | apply GH.ok_push | apply GH.ok_set)); assumption)) | ((try simp only [GH.push_hid, GH.set_hid]); first | assumption | (refine GH.vis ?_ ?_ <;> first | assumption | ((try simp only [GH.pn, GH.sn]) <;> omega)))) only [go_sem, ↓reduceIte, Nat.reduceEqDiff, Nat.reduceAdd, Int.reduceToNat, Int.reduceAdd, Int.reduceNeg, Int.reduceSub, Int.reduceMul, Int.reduceLT, Int.reduceLE, Int.reduceEq, ↓GH.gp_eq, ↓GH.gp_ne, ↓GH.gs_eq, ↓GH.gs_ne, GH.push_next, GH.set_next]
    refine CallD.calm (hX.alive g' (hT4.kept hk)) ?_
    rintro v g5 hx5 rfl
    simp +decide (disch := first | assumption | exact cellV_int _ _ | exact cellV_bool _ | omega | (simp only [GH.pn, GH.sn] <;> omega) | (with_reducible ((repeat (first | apply GH.ok_push | apply GH.ok_set)); assumption)) | ((try simp only [GH.push_hid, GH.set_hid]); first | assumption | (refine GH.vis ?_ ?_ <;> first | assumption | ((try simp only [GH.pn, GH.sn]) <;> omega)))) only [go_sem, ↓reduceIte, Nat.reduceEqDiff, Nat.reduceAdd, Int.reduceToNat, Int.reduceAdd, Int.reduceNeg, Int.reduceSub, Int.reduceMul, Int.reduceLT, Int.reduceLE, Int.reduceEq, ↓GH.gp_eq, ↓GH.gp_ne, ↓GH.gs_eq, ↓GH.gs_ne, GH.push_next, GH.set_next]
    intro hx0
    exact ⟨by omega, rfl⟩
  · rintro m e g' lo ho' hl' ih out ⟨hlo', hk, i, hi, he, hsame⟩
    have hkn := hk.next
    by_cases ci : i < Q.length
    case neg =>
      have ci' : ¬ (i : Int) < Q.length := by omega
      simp +decide (disch := first | assumption | exact cellV_int _ _ | exact cellV_bool _ | omega | (simp only [GH.pn, GH.sn] <;> omega) | (with_reducible ((repeat (first | apply GH.ok_push | apply GH.ok_set)); assumption)) | ((try simp only [GH.push_hid, GH.set_hid]); first | assumption | (refine GH.vis ?_ ?_ <;> first | assumption | ((try simp only [GH.pn, GH.sn]) <;> omega)))) only [go_sem, ↓reduceIte, Nat.reduceEqDiff, Nat.reduceAdd, Int.reduceToNat, Int.reduceAdd, Int.reduceNeg, Int.reduceSub, Int.reduceMul, Int.reduceLT, Int.reduceLE, Int.reduceEq, ↓GH.gp_eq, ↓GH.gp_ne, ↓GH.gs_eq, ↓GH.gs_ne, GH.push_next, GH.set_next, he, hlp, ci']
      exact out _ _ _ ⟨hlo', hk⟩
    have ci' : (i : Int) < Q.length := by omega
    have ciR : i < R.length := by omega
    obtain ⟨j, a, hj, hp1, hp2, hp3⟩ := ((hp.kept hk4).kept hk).ptr ci
    have hp1 := hp1 (i : Int) rfl
    rw [cellsP_drop Q i ci] at hp3
    obtain ⟨j2, a2, hj2, hq1, hq2, hq3⟩ := (hown4.kept hk).ptr ciR
    have hq1 := hq1 (i : Int) rfl
    rw [cellsP_drop R i ciR] at hq3
    obtain ⟨c1, c2⟩ := cellsP_get Q i ci
    obtain ⟨d1, d2⟩ := cellsP_get R i ciR
    have hp20 := fun lo => hp2 lo 0 _ (by omega) c1
    have hp21 := fun lo => hp2 lo 1 _ (by omega) c2
    have hq20 := fun lo => hq2 lo 0 _ (by omega) d1
    have hq21 := fun lo => hq2 lo 1 _ (by omega) d2
    rw [Nat.add_zero] at hp20 hq20
    have hfi := fun (hh : Q.length = R.length) => hfirst hh i Q[i].1 Q[i].2 R[i].1 R[i].2 (List.getElem?_eq_getElem ci) (List.getElem?_eq_getElem ciR) hsame
    have hfi := hfi hlen'
    have hne : (Q[i].1 = R[i].1 ∧ Q[i].2 = R[i].2) → Q[i]? = R[i]? := fun ⟨h1, h2⟩ => by
      rw [List.getElem?_eq_getElem ci, List.getElem?_eq_getElem ciR]
      exact congrArg some (Prod.ext h1 h2)
    generalize Q[i].1 = qa at *
    generalize Q[i].2 = qb at *
    generalize R[i].1 = ra at *
    generalize R[i].2 = rb at *
    simp +decide (disch := first | assumption | exact cellV_int _ _ | exact cellV_bool _ | omega | (simp only [GH.pn, GH.sn] <;> omega) | (with_reducible ((repeat (first | apply GH.ok_push | apply GH.ok_set)); assumption)) | ((try simp only [GH.push_hid, GH.set_hid]); first | assumption | (refine GH.vis ?_ ?_ <;> first | assumption | ((try simp only [GH.pn, GH.sn]) <;> omega)))) only [go_sem, ↓reduceIte, Nat.reduceEqDiff, Nat.reduceAdd, Int.reduceToNat, Int.reduceAdd, Int.reduceNeg, Int.reduceSub, Int.reduceMul, Int.reduceLT, Int.reduceLE, Int.reduceEq, ↓GH.gp_eq, ↓GH.gp_ne, ↓GH.gs_eq, ↓GH.gs_ne, GH.push_next, GH.set_next, he, hlp, ci', hp1, hp3, hq1, hq3]
    by_cases h1 : qa = ra ∧ qb = rb
    · have hd : decide ((qa : Int) = ra) = true := decide_eq_true (by omega)
      have hd2 : decide ((qb : Int) = rb) = true := decide_eq_true (by omega)
      simp +decide (disch := first | assumption | exact cellV_int _ _ | exact cellV_bool _ | omega | (simp only [GH.pn, GH.sn] <;> omega) | (with_reducible ((repeat (first | apply GH.ok_push | apply GH.ok_set)); assumption)) | ((try simp only [GH.push_hid, GH.set_hid]); first | assumption | (refine GH.vis ?_ ?_ <;> first | assumption | ((try simp only [GH.pn, GH.sn]) <;> omega)))) only [go_sem, ↓reduceIte, Nat.reduceEqDiff, Nat.reduceAdd, Int.reduceToNat, Int.reduceAdd, Int.reduceNeg, Int.reduceSub, Int.reduceMul, Int.reduceLT, Int.reduceLE, Int.reduceEq, ↓GH.gp_eq, ↓GH.gp_ne, ↓GH.gs_eq, ↓GH.gs_ne, GH.push_next, GH.set_next, he, eqA_ne, hd, hd2]
      refine ih (m - 1) _ _ _ (by omega) ⟨hlo', hk, i + 1, by omega, (by simp +decide (disch := first | assumption | (apply GH.ok_push; assumption) | exact cellV_int _ _ | exact cellV_bool _ | omega) only [go_sem, ↓reduceIte, Nat.reduceEqDiff, Nat.reduceAdd, Int.reduceToNat, he]; first | done | exact rfl), fun j hj => ?_⟩
      rcases Nat.lt_succ_iff_lt_or_eq.1 hj with c | c
      · exact hsame j c
      · rw [c]; exact hne h1
    · have hd : (decide ((qa : Int) = ra) && decide ((qb : Int) = rb)) = false := by
        rw [Bool.and_eq_false_iff, decide_eq_false_iff_not, decide_eq_false_iff_not]; omega
      simp only [eqA_ne, hd, oV_s]
      refine envR (fun e => ev e (.s 1) = p ∧ ev e (.s 5) = o ∧ ev e (.s 9) = .int .i64 (i : Nat) ∧ ev e (.s 61) = .bool true) ?h0 (fun e he => ?_)
      case h0 => exact (by simp +decide (disch := first | assumption | (apply GH.ok_push; assumption) | exact cellV_int _ _ | exact cellV_bool _ | omega) only [go_sem, ↓reduceIte, Nat.reduceEqDiff, Nat.reduceAdd, Int.reduceToNat, he]; first | done | exact rfl)
      have hal := hX.alive g' (hT4.kept hk)
      have hfin := hfi
      by_cases f1 : (ra : Int) < qa
      · simp +decide (disch := first | assumption | exact cellV_int _ _ | exact cellV_bool _ | omega | (simp only [GH.pn, GH.sn] <;> omega) | (with_reducible ((repeat (first | apply GH.ok_push | apply GH.ok_set)); assumption)) | ((try simp only [GH.push_hid, GH.set_hid]); first | assumption | (refine GH.vis ?_ ?_ <;> first | assumption | ((try simp only [GH.pn, GH.sn]) <;> omega)))) only [go_sem, ↓reduceIte, Nat.reduceEqDiff, Nat.reduceAdd, Int.reduceToNat, Int.reduceAdd, Int.reduceNeg, Int.reduceSub, Int.reduceMul, Int.reduceLT, Int.reduceLE, Int.reduceEq, ↓GH.gp_eq, ↓GH.gp_ne, ↓GH.gs_eq, ↓GH.gs_ne, GH.push_next, GH.set_next, he, hp1, hp20, hp21, hq1, hq20, hq21, f1]
        refine CallD.calm hal ?_
        rintro v g5 hx5 rfl
        simp +decide (disch := first | assumption | exact cellV_int _ _ | exact cellV_bool _ | omega | (simp only [GH.pn, GH.sn] <;> omega) | (with_reducible ((repeat (first | apply GH.ok_push | apply GH.ok_set)); assumption)) | ((try simp only [GH.push_hid, GH.set_hid]); first | assumption | (refine GH.vis ?_ ?_ <;> first | assumption | ((try simp only [GH.pn, GH.sn]) <;> omega)))) only [go_sem, ↓reduceIte, Nat.reduceEqDiff, Nat.reduceAdd, Int.reduceToNat, Int.reduceAdd, Int.reduceNeg, Int.reduceSub, Int.reduceMul, Int.reduceLT, Int.reduceLE, Int.reduceEq, ↓GH.gp_eq, ↓GH.gp_ne, ↓GH.gs_eq, ↓GH.gs_ne, GH.push_next, GH.set_next]
        intro hx0
        exact ⟨by omega, rfl⟩
      · have f2 : (ra : Int) = qa := by omega
        have f3 : (rb : Int) < qb := by omega
        simp +decide (disch := first | assumption | exact cellV_int _ _ | exact cellV_bool _ | omega | (simp only [GH.pn, GH.sn] <;> omega) | (with_reducible ((repeat (first | apply GH.ok_push | apply GH.ok_set)); assumption)) | ((try simp only [GH.push_hid, GH.set_hid]); first | assumption | (refine GH.vis ?_ ?_ <;> first | assumption | ((try simp only [GH.pn, GH.sn]) <;> omega)))) only [go_sem, ↓reduceIte, Nat.reduceEqDiff, Nat.reduceAdd, Int.reduceToNat, Int.reduceAdd, Int.reduceNeg, Int.reduceSub, Int.reduceMul, Int.reduceLT, Int.reduceLE, Int.reduceEq, ↓GH.gp_eq, ↓GH.gp_ne, ↓GH.gs_eq, ↓GH.gs_ne, GH.push_next, GH.set_next, he, hp1, hp20, hp21, hq1, hq20, hq21, f1, f2, f3]
        refine CallD.calm hal ?_
        rintro v g5 hx5 rfl
        simp +decide (disch := first | assumption | exact cellV_int _ _ | exact cellV_bool _ | omega | (simp only [GH.pn, GH.sn] <;> omega) | (with_reducible ((repeat (first | apply GH.ok_push | apply GH.ok_set)); assumption)) | ((try simp only [GH.push_hid, GH.set_hid]); first | assumption | (refine GH.vis ?_ ?_ <;> first | assumption | ((try simp only [GH.pn, GH.sn]) <;> omega)))) only [go_sem, ↓reduceIte, Nat.reduceEqDiff, Nat.reduceAdd, Int.reduceToNat, Int.reduceAdd, Int.reduceNeg, Int.reduceSub, Int.reduceMul, Int.reduceLT, Int.reduceLE, Int.reduceEq, ↓GH.gp_eq, ↓GH.gp_ne, ↓GH.gs_eq, ↓GH.gs_ne, GH.push_next, GH.set_next]
        intro hx0
        exact ⟨by omega, rfl⟩
end Go.Proofs.YtnpapnpedcbfnaaDoor
set_option maxRecDepth 100000
set_option maxHeartbeats 4000000
set_option linter.unusedSimpArgs false
set_option linter.unusedVariables false
namespace Go.Proofs.YtnpapnpedcbfnaaDoor
open Go.Ds Go.Vs
/-! ## The answer -/
def ansF : List (Int × Int) → Int → Int
  | [], _ => -1
  | p :: P, h => if p.1 = h then p.2 else if p.2 = h then p.1 else ansF P h
def ansV (L : List Int) (P : List (Int × Int)) (h : Int) : Value := if shopB L && matI L P && (decide (0 ≤ h) && decide (h < L.length)) then .tuple #[.int .i64 (ansF P h), .int .i64 0] else .tuple #[.int .i64 0, eArg]
theorem ans_drop (P : List (Int × Int)) (i : Nat) (hi : i < P.length) (h : Int) : ansF (P.drop i) h = if P[i].1 = h then P[i].2 else if P[i].2 = h then P[i].1 else ansF (P.drop (i + 1)) h := by
  rw [List.drop_eq_getElem_cons hi]
  rfl
theorem answer_rets {X : Caller} (hX : Xfr X) (L : List Int) (hL : L.length ≤ 40) (s p : Value) (P : List (Int × Int)) (hP : P.length ≤ 1000) (h : Int) (g : GH) (hs : SlR g s (ints L)) (hp : SlQ g p 2 P.length (cellsI P)) :
    Rets Tryd.prog X 33 [s, p, .int .i64 h] g (fun v g' lo => g.next ≤ lo ∧ v = ansV L P h) := by
  have hl := hp.len
  generalize hr : ansV L P h = r
  refine Rets.run hX.pres p33 (hX.free 33 (by decide) _ _) rfl fun ho => ?_
  simp +decide (disch := first | assumption | exact cellV_int _ _ | exact cellV_bool _ | omega | (simp only [GH.pn, GH.sn] <;> omega) | (with_reducible ((repeat (first | apply GH.ok_push | apply GH.ok_set)); assumption)) | ((try simp only [GH.push_hid, GH.set_hid]); first | assumption | (refine GH.vis ?_ ?_ <;> first | assumption | ((try simp only [GH.pn, GH.sn]) <;> omega)))) only [go_sem, ↓reduceIte, Nat.reduceEqDiff, Nat.reduceAdd, Int.reduceToNat, Int.reduceAdd, Int.reduceNeg, Int.reduceSub, Int.reduceMul, Int.reduceLT, Int.reduceLE, Int.reduceEq, ↓GH.gp_eq, ↓GH.gp_ne, ↓GH.gs_eq, ↓GH.gs_ne, GH.push_next, GH.set_next]
  refine CallD.calm (IsShop_rets hX L hL s g hs) ?_
  rintro v g1 hx1 rfl
  have hn1 := hx1.next
  cases hz : shopB L with
  | false =>
    simp +decide (disch := first | assumption | exact cellV_int _ _ | exact cellV_bool _ | omega | (simp only [GH.pn, GH.sn] <;> omega) | (with_reducible ((repeat (first | apply GH.ok_push | apply GH.ok_set)); assumption)) | ((try simp only [GH.push_hid, GH.set_hid]); first | assumption | (refine GH.vis ?_ ?_ <;> first | assumption | ((try simp only [GH.pn, GH.sn]) <;> omega)))) only [go_sem, ↓reduceIte, Nat.reduceEqDiff, Nat.reduceAdd, Int.reduceToNat, Int.reduceAdd, Int.reduceNeg, Int.reduceSub, Int.reduceMul, Int.reduceLT, Int.reduceLE, Int.reduceEq, ↓GH.gp_eq, ↓GH.gp_ne, ↓GH.gs_eq, ↓GH.gs_ne, GH.push_next, GH.set_next]
    intro hx0
    exact ⟨by omega, by rw [← hr, ansV, hz]; rfl⟩
  | true =>
  simp +decide (disch := first | assumption | exact cellV_int _ _ | exact cellV_bool _ | omega | (simp only [GH.pn, GH.sn] <;> omega) | (with_reducible ((repeat (first | apply GH.ok_push | apply GH.ok_set)); assumption)) | ((try simp only [GH.push_hid, GH.set_hid]); first | assumption | (refine GH.vis ?_ ?_ <;> first | assumption | ((try simp only [GH.pn, GH.sn]) <;> omega)))) only [go_sem, ↓reduceIte, Nat.reduceEqDiff, Nat.reduceAdd, Int.reduceToNat, Int.reduceAdd, Int.reduceNeg, Int.reduceSub, Int.reduceMul, Int.reduceLT, Int.reduceLE, Int.reduceEq, ↓GH.gp_eq, ↓GH.gp_ne, ↓GH.gs_eq, ↓GH.gs_ne, GH.push_next, GH.set_next]
  refine CallD.calm (matching_rets hX L hz s p P hP g1 (hs.ext hx1) (hp.kept hx1.kept)) ?_
  rintro v g2 hx2 rfl
  have hn2 := hx2.next
  have hk2 := hx1.kept.ext hx2
  cases hm : matI L P with
  | false =>
    simp +decide (disch := first | assumption | exact cellV_int _ _ | exact cellV_bool _ | omega | (simp only [GH.pn, GH.sn] <;> omega) | (with_reducible ((repeat (first | apply GH.ok_push | apply GH.ok_set)); assumption)) | ((try simp only [GH.push_hid, GH.set_hid]); first | assumption | (refine GH.vis ?_ ?_ <;> first | assumption | ((try simp only [GH.pn, GH.sn]) <;> omega)))) only [go_sem, ↓reduceIte, Nat.reduceEqDiff, Nat.reduceAdd, Int.reduceToNat, Int.reduceAdd, Int.reduceNeg, Int.reduceSub, Int.reduceMul, Int.reduceLT, Int.reduceLE, Int.reduceEq, ↓GH.gp_eq, ↓GH.gp_ne, ↓GH.gs_eq, ↓GH.gs_ne, GH.push_next, GH.set_next]
    intro hx0
    exact ⟨by omega, by rw [← hr, ansV, hz, hm]; rfl⟩
  | true =>
  simp +decide (disch := first | assumption | exact cellV_int _ _ | exact cellV_bool _ | omega | (simp only [GH.pn, GH.sn] <;> omega) | (with_reducible ((repeat (first | apply GH.ok_push | apply GH.ok_set)); assumption)) | ((try simp only [GH.push_hid, GH.set_hid]); first | assumption | (refine GH.vis ?_ ?_ <;> first | assumption | ((try simp only [GH.pn, GH.sn]) <;> omega)))) only [go_sem, ↓reduceIte, Nat.reduceEqDiff, Nat.reduceAdd, Int.reduceToNat, Int.reduceAdd, Int.reduceNeg, Int.reduceSub, Int.reduceMul, Int.reduceLT, Int.reduceLE, Int.reduceEq, ↓GH.gp_eq, ↓GH.gp_ne, ↓GH.gs_eq, ↓GH.gs_ne, GH.push_next, GH.set_next]
  refine CallD.calm (isHat_rets hX L (by omega) h s g2 (hs.kept hk2)) ?_
  rintro v g3 hx3 rfl
  have hn3 := hx3.next
  have hk3 := hk2.ext hx3
  cases hh : (decide (0 ≤ h) && decide (h < (L.length : Int))) with
  | false =>
    simp +decide (disch := first | assumption | exact cellV_int _ _ | exact cellV_bool _ | omega | (simp only [GH.pn, GH.sn] <;> omega) | (with_reducible ((repeat (first | apply GH.ok_push | apply GH.ok_set)); assumption)) | ((try simp only [GH.push_hid, GH.set_hid]); first | assumption | (refine GH.vis ?_ ?_ <;> first | assumption | ((try simp only [GH.pn, GH.sn]) <;> omega)))) only [go_sem, ↓reduceIte, Nat.reduceEqDiff, Nat.reduceAdd, Int.reduceToNat, Int.reduceAdd, Int.reduceNeg, Int.reduceSub, Int.reduceMul, Int.reduceLT, Int.reduceLE, Int.reduceEq, ↓GH.gp_eq, ↓GH.gp_ne, ↓GH.gs_eq, ↓GH.gs_ne, GH.push_next, GH.set_next]
    intro hx0
    exact ⟨by omega, by rw [← hr, ansV, hz, hm, hh]; rfl⟩
  | true =>
  have hr : r = .tuple #[.int .i64 (ansF P h), .int .i64 0] := by rw [← hr, ansV, hz, hm, hh]; rfl
  simp +decide (disch := first | assumption | exact cellV_int _ _ | exact cellV_bool _ | omega | (simp only [GH.pn, GH.sn] <;> omega) | (with_reducible ((repeat (first | apply GH.ok_push | apply GH.ok_set)); assumption)) | ((try simp only [GH.push_hid, GH.set_hid]); first | assumption | (refine GH.vis ?_ ?_ <;> first | assumption | ((try simp only [GH.pn, GH.sn]) <;> omega)))) only [go_sem, ↓reduceIte, Nat.reduceEqDiff, Nat.reduceAdd, Int.reduceToNat, Int.reduceAdd, Int.reduceNeg, Int.reduceSub, Int.reduceMul, Int.reduceLT, Int.reduceLE, Int.reduceEq, ↓GH.gp_eq, ↓GH.gp_ne, ↓GH.gs_eq, ↓GH.gs_ne, GH.push_next, GH.set_next, hl]
  refine Wk.loops (fun m e g' lo => g.next ≤ lo ∧ Kept g g' ∧ ∃ i : Nat, i + m = P.length ∧ (ev e (.s 2) = .int .i64 h ∧ ev e (.s 25) = p ∧ ev e (.s 26) = .int .i64 (P.length : Int) ∧ ev e (.s 27) = .int .i64 (i : Nat)) ∧ ansF (P.drop i) h = ansF P h)
    (fun e g' lo => g.next ≤ lo ∧ ansF P h = -1) (n := P.length) ?_ ?_ ?_
  · exact ⟨by omega, hk3, 0, by omega, (by simp +decide (disch := first | assumption | (apply GH.ok_push; assumption) | exact cellV_int _ _ | exact cellV_bool _ | omega) only [go_sem, ↓reduceIte, Nat.reduceEqDiff, Nat.reduceAdd, Int.reduceToNat, hl]; first | done | exact rfl), rfl⟩
  · rintro e g' lo - - ⟨hlo, hq⟩
    simp +decide (disch := first | assumption | exact cellV_int _ _ | exact cellV_bool _ | omega | (simp only [GH.pn, GH.sn] <;> omega) | (with_reducible ((repeat (first | apply GH.ok_push | apply GH.ok_set)); assumption)) | ((try simp only [GH.push_hid, GH.set_hid]); first | assumption | (refine GH.vis ?_ ?_ <;> first | assumption | ((try simp only [GH.pn, GH.sn]) <;> omega)))) only [go_sem, ↓reduceIte, Nat.reduceEqDiff, Nat.reduceAdd, Int.reduceToNat, Int.reduceAdd, Int.reduceNeg, Int.reduceSub, Int.reduceMul, Int.reduceLT, Int.reduceLE, Int.reduceEq, ↓GH.gp_eq, ↓GH.gp_ne, ↓GH.gs_eq, ↓GH.gs_ne, GH.push_next, GH.set_next]
    intro hx0
    exact ⟨hlo, by rw [hr, hq]⟩
  · rintro m e g' lo ho' hl' ih out ⟨hlo, hk, i, hi, he, ha⟩
    have hkn := hk.next
    by_cases ci : i < P.length
    case neg =>
      have ci' : ¬ (i : Int) < P.length := by omega
      simp +decide (disch := first | assumption | exact cellV_int _ _ | exact cellV_bool _ | omega | (simp only [GH.pn, GH.sn] <;> omega) | (with_reducible ((repeat (first | apply GH.ok_push | apply GH.ok_set)); assumption)) | ((try simp only [GH.push_hid, GH.set_hid]); first | assumption | (refine GH.vis ?_ ?_ <;> first | assumption | ((try simp only [GH.pn, GH.sn]) <;> omega)))) only [go_sem, ↓reduceIte, Nat.reduceEqDiff, Nat.reduceAdd, Int.reduceToNat, Int.reduceAdd, Int.reduceNeg, Int.reduceSub, Int.reduceMul, Int.reduceLT, Int.reduceLE, Int.reduceEq, ↓GH.gp_eq, ↓GH.gp_ne, ↓GH.gs_eq, ↓GH.gs_ne, GH.push_next, GH.set_next, he, ci']
      have : i = P.length := by omega
      subst this
      rw [List.drop_length] at ha
      exact out _ _ _ ⟨hlo, ha.symm⟩
    have ci' : (i : Int) < P.length := by omega
    obtain ⟨j, a, hj, hp1, hp2, hp3⟩ := (hp.kept hk).ptr ci
    have hp1 := hp1 (i : Int) rfl
    rw [cellsI_drop P i ci] at hp3
    have had := ans_drop P i ci h
    rw [ha] at had
    obtain ⟨q, hq⟩ : ∃ q, P[i] = q := ⟨_, rfl⟩
    obtain ⟨x, y⟩ := q
    rw [hq] at hp3 had
    dsimp only at hp3 had
    have hg0 : (g'.push (cellsOb [.int .i64 0, .int .i64 0] 56)).get g'.next = cellsOb [.int .i64 0, .int .i64 0] 56 := (by simp (disch := first | assumption | exact cellV_int _ _ | exact cellV_bool _ | omega | (simp only [GH.pn, GH.sn] <;> omega) | (with_reducible ((repeat (first | apply GH.ok_push | apply GH.ok_set)); assumption)) | ((try simp only [GH.push_hid, GH.set_hid]); first | assumption | (refine GH.vis ?_ ?_ <;> first | assumption | ((try simp only [GH.pn, GH.sn]) <;> omega)))) only [↓GH.gp_eq, ↓GH.gp_ne, ↓GH.gs_eq, ↓GH.gs_ne, GH.push_next, GH.set_next]; first | done | exact rfl)
    have hg1 : ((g'.push (cellsOb [.int .i64 0, .int .i64 0] 56)).set g'.next (cellsOb [.int .i64 x, .int .i64 y] 56)).get g'.next = cellsOb [.int .i64 x, .int .i64 y] 56 := (by simp (disch := first | assumption | exact cellV_int _ _ | exact cellV_bool _ | omega | (simp only [GH.pn, GH.sn] <;> omega) | (with_reducible ((repeat (first | apply GH.ok_push | apply GH.ok_set)); assumption)) | ((try simp only [GH.push_hid, GH.set_hid]); first | assumption | (refine GH.vis ?_ ?_ <;> first | assumption | ((try simp only [GH.pn, GH.sn]) <;> omega)))) only [↓GH.gp_eq, ↓GH.gp_ne, ↓GH.gs_eq, ↓GH.gs_ne, GH.push_next, GH.set_next]; first | done | exact rfl)
    have hkG : Kept g ((g'.push (cellsOb [.int .i64 0, .int .i64 0] 56)).set g'.next (cellsOb [.int .i64 x, .int .i64 y] 56)) := (by (repeat' first | exact Kept.refl _ | assumption | refine Kept.push ?_ ?_ _ | refine Kept.setV ?_ ?_ ?_ _) <;> (first | assumption | exact cellV_int _ _ | exact cellV_bool _ | omega | (simp only [GH.pn, GH.sn] <;> omega) | (with_reducible ((repeat (first | apply GH.ok_push | apply GH.ok_set)); assumption)) | ((try simp only [GH.push_hid, GH.set_hid]); first | assumption | (refine GH.vis ?_ ?_ <;> first | assumption | ((try simp only [GH.pn, GH.sn]) <;> omega)))))
    have hsp : splice 0 [Value.int .i64 0, Value.int .i64 0] [Value.int .i64 x, Value.int .i64 y] = [.int .i64 x, .int .i64 y] := Eq.trans rfl rfl
    have hob : obLoad none (cellsOb [.int .i64 x, .int .i64 y] 56) 0 = some (.int .i64 x) := rfl
    have hob2 : obLoad none (cellsOb [.int .i64 x, .int .i64 y] 56) 1 = some (.int .i64 y) := rfl
    by_cases f1 : x = h
    · subst f1
      simp +decide (disch := first | assumption | (apply GH.ok_push; assumption) | exact cellV_int _ _ | exact cellV_bool _ | omega) only [go_sem, ↓reduceIte, Nat.reduceEqDiff, Nat.reduceAdd, Int.reduceToNat, he, ci', hp1, hp3, hg0, hsp, hg1, hob, hob2, oV_s]
      intro hx0
      exact ⟨by omega, by rw [hr, had, if_pos rfl]⟩
    have f1' : ¬ h = x := fun h' => f1 h'.symm
    by_cases f2 : y = h
    · subst f2
      simp +decide (disch := first | assumption | (apply GH.ok_push; assumption) | exact cellV_int _ _ | exact cellV_bool _ | omega) only [go_sem, ↓reduceIte, Nat.reduceEqDiff, Nat.reduceAdd, Int.reduceToNat, he, ci', hp1, hp3, hg0, hsp, hg1, hob, hob2, oV_s, f1']
      intro hx0
      exact ⟨by omega, by rw [hr, had, if_neg f1, if_pos rfl]⟩
    have f2' : ¬ h = y := fun h' => f2 h'.symm
    simp +decide (disch := first | assumption | (apply GH.ok_push; assumption) | exact cellV_int _ _ | exact cellV_bool _ | omega) only [go_sem, ↓reduceIte, Nat.reduceEqDiff, Nat.reduceAdd, Int.reduceToNat, he, ci', hp1, hp3, hg0, hsp, hg1, hob, hob2, oV_s, f1', f2']
    exact ih (m - 1) _ _ _ (by omega) ⟨by omega, hkG, i + 1, by omega, (by simp +decide (disch := first | assumption | (apply GH.ok_push; assumption) | exact cellV_int _ _ | exact cellV_bool _ | omega) only [go_sem, ↓reduceIte, Nat.reduceEqDiff, Nat.reduceAdd, Int.reduceToNat, he]; first | done | exact rfl), by rw [had, if_neg f1, if_neg f2]⟩
end Go.Proofs.YtnpapnpedcbfnaaDoor
set_option maxRecDepth 100000
set_option maxHeartbeats 4000000
set_option linter.unusedSimpArgs false
set_option linter.unusedVariables false
namespace Go.Proofs.YtnpapnpedcbfnaaDoor
open Go.Ds Go.Vs
theorem rem_nat (x k : Nat) : ((x : Int) / 2 ^ k).tmod 2 = b01 (x.testBit k) := by
  have := rem_fact (x := (x : Int)) (by omega) k
  rw [bitI_nat] at this
  exact this
theorem refMatching_rets {X : Caller} (hX : Xfr X) (L : List Int) (hL : shopB L = true) (s p : Value) (P : List (Int × Int)) (hP : P.length ≤ 1000) (g : GH) (hs : SlR g s (ints L)) (hp : SlQ g p 2 P.length (cellsI P)) :
    Rets Tryd.prog X 49 [s, p] g (fun v g' lo => g.next ≤ lo ∧ v = .bool (matI L P)) := by
  obtain ⟨hL1, hL10, hA⟩ := shop_ok hL
  have hl := hp.len
  have hls := hs.len
  rw [ints_len] at hls
  generalize hr : matI L P = r
  refine Rets.run hX.pres p49 (hX.free 49 (by decide) _ _) rfl fun ho => ?_
  simp +decide (disch := first | assumption | exact cellV_int _ _ | exact cellV_bool _ | omega | (simp only [GH.pn, GH.sn] <;> omega) | (with_reducible ((repeat (first | apply GH.ok_push | apply GH.ok_set)); assumption)) | ((try simp only [GH.push_hid, GH.set_hid]); first | assumption | (refine GH.vis ?_ ?_ <;> first | assumption | ((try simp only [GH.pn, GH.sn]) <;> omega)))) only [go_sem, ↓reduceIte, Nat.reduceEqDiff, Nat.reduceAdd, Int.reduceToNat, Int.reduceAdd, Int.reduceNeg, Int.reduceSub, Int.reduceMul, Int.reduceLT, Int.reduceLE, Int.reduceEq, ↓GH.gp_eq, ↓GH.gp_ne, ↓GH.gs_eq, ↓GH.gs_ne, GH.push_next, GH.set_next, hl]
  refine Wk.loops (fun m e g' lo => g.next ≤ lo ∧ Kept g g' ∧ ∃ i : Nat, i + m = P.length ∧ (ev e (.s 0) = s ∧ ev e (.s 1) = p ∧ ev e (.s 6) = .int .i64 (i : Nat) ∧ ev e (.s 5) = .int .i64 (tkn (P.take i) 0 : Nat)) ∧ matI L (P.take i) = true)
    (fun e g' lo => g.next ≤ lo ∧ r = true) (n := P.length) ?_ ?_ ?_
  · refine ⟨Nat.le_refl _, Kept.refl _, 0, by omega, ?_, rfl⟩
    rw [List.take_zero]
    show _ ∧ _ ∧ _ ∧ _ = Value.int .i64 0
    exact (by simp +decide (disch := first | assumption | (apply GH.ok_push; assumption) | exact cellV_int _ _ | exact cellV_bool _ | omega) only [go_sem, ↓reduceIte, Nat.reduceEqDiff, Nat.reduceAdd, Int.reduceToNat, hl]; first | done | exact rfl)
  · rintro e g' lo - - ⟨hlo, h⟩
    simp +decide (disch := first | assumption | exact cellV_int _ _ | exact cellV_bool _ | omega | (simp only [GH.pn, GH.sn] <;> omega) | (with_reducible ((repeat (first | apply GH.ok_push | apply GH.ok_set)); assumption)) | ((try simp only [GH.push_hid, GH.set_hid]); first | assumption | (refine GH.vis ?_ ?_ <;> first | assumption | ((try simp only [GH.pn, GH.sn]) <;> omega)))) only [go_sem, ↓reduceIte, Nat.reduceEqDiff, Nat.reduceAdd, Int.reduceToNat, Int.reduceAdd, Int.reduceNeg, Int.reduceSub, Int.reduceMul, Int.reduceLT, Int.reduceLE, Int.reduceEq, ↓GH.gp_eq, ↓GH.gp_ne, ↓GH.gs_eq, ↓GH.gs_ne, GH.push_next, GH.set_next]
    intro hx0
    exact ⟨hlo, by rw [h]⟩
  · rintro m e g' lo ho' hl' ih out ⟨hlo, hk, i, hi, he, hm⟩
    have hkn := hk.next
    by_cases ci : i < P.length
    case neg =>
      have ci' : ¬ (i : Int) < P.length := by omega
      simp +decide (disch := first | assumption | exact cellV_int _ _ | exact cellV_bool _ | omega | (simp only [GH.pn, GH.sn] <;> omega) | (with_reducible ((repeat (first | apply GH.ok_push | apply GH.ok_set)); assumption)) | ((try simp only [GH.push_hid, GH.set_hid]); first | assumption | (refine GH.vis ?_ ?_ <;> first | assumption | ((try simp only [GH.pn, GH.sn]) <;> omega)))) only [go_sem, ↓reduceIte, Nat.reduceEqDiff, Nat.reduceAdd, Int.reduceToNat, Int.reduceAdd, Int.reduceNeg, Int.reduceSub, Int.reduceMul, Int.reduceLT, Int.reduceLE, Int.reduceEq, ↓GH.gp_eq, ↓GH.gp_ne, ↓GH.gs_eq, ↓GH.gs_ne, GH.push_next, GH.set_next, he, ci', hl]
      have : i = P.length := by omega
      subst this
      rw [List.take_length] at hm
      exact out _ _ _ ⟨hlo, by rw [← hr, hm]⟩
    have ci' : (i : Int) < P.length := by omega
    obtain ⟨j, a, hj, hp1, hp2, hp3⟩ := (hp.kept hk).ptr ci
    have hp1 := hp1 (i : Int) rfl
    rw [cellsI_drop P i ci] at hp3
    have hbad := mat_bad L P i ci
    have htk := mat_take L P i ci
    rw [hm, Bool.true_and] at htk
    have htt := take_tkn P i ci
    obtain ⟨hv1, hv2, hv3⟩ := mat_inv hL10 _ hm
    have hla0 : i = 0 → lastM (P.take i) = -1 := by rintro rfl; rfl
    have hlas : 0 < i → ∃ (h : i - 1 < P.length), lastM (P.take i) = P[i - 1].1 := fun h => by
      obtain ⟨k, rfl⟩ : ∃ k, i = k + 1 := ⟨i - 1, by omega⟩
      exact ⟨by omega, take_last P k (by omega)⟩
    obtain ⟨q, hq⟩ : ∃ q, P[i] = q := ⟨_, rfl⟩
    obtain ⟨x, y⟩ := q
    rw [hq] at hp3 hbad htk htt
    dsimp only at hp3 hbad htk htt
    generalize hla : lastM (P.take i) = la at *
    generalize htka : tkn (P.take i) 0 = tk at *
    have hg0 : (g'.push (cellsOb [.int .i64 0, .int .i64 0] 56)).get g'.next = cellsOb [.int .i64 0, .int .i64 0] 56 := (by simp (disch := first | assumption | exact cellV_int _ _ | exact cellV_bool _ | omega | (simp only [GH.pn, GH.sn] <;> omega) | (with_reducible ((repeat (first | apply GH.ok_push | apply GH.ok_set)); assumption)) | ((try simp only [GH.push_hid, GH.set_hid]); first | assumption | (refine GH.vis ?_ ?_ <;> first | assumption | ((try simp only [GH.pn, GH.sn]) <;> omega)))) only [↓GH.gp_eq, ↓GH.gp_ne, ↓GH.gs_eq, ↓GH.gs_ne, GH.push_next, GH.set_next]; first | done | exact rfl)
    have hgL : ((g'.push (cellsOb [.int .i64 0, .int .i64 0] 56)).set g'.next (cellsOb [.int .i64 x, .int .i64 y] 56)).get g'.next = cellsOb [.int .i64 x, .int .i64 y] 56 := (by simp (disch := first | assumption | exact cellV_int _ _ | exact cellV_bool _ | omega | (simp only [GH.pn, GH.sn] <;> omega) | (with_reducible ((repeat (first | apply GH.ok_push | apply GH.ok_set)); assumption)) | ((try simp only [GH.push_hid, GH.set_hid]); first | assumption | (refine GH.vis ?_ ?_ <;> first | assumption | ((try simp only [GH.pn, GH.sn]) <;> omega)))) only [↓GH.gp_eq, ↓GH.gp_ne, ↓GH.gs_eq, ↓GH.gs_ne, GH.push_next, GH.set_next]; first | done | exact rfl)
    have hkL : Kept g ((g'.push (cellsOb [.int .i64 0, .int .i64 0] 56)).set g'.next (cellsOb [.int .i64 x, .int .i64 y] 56)) := (by (repeat' first | exact Kept.refl _ | assumption | refine Kept.push ?_ ?_ _ | refine Kept.setV ?_ ?_ ?_ _) <;> (first | assumption | exact cellV_int _ _ | exact cellV_bool _ | omega | (simp only [GH.pn, GH.sn] <;> omega) | (with_reducible ((repeat (first | apply GH.ok_push | apply GH.ok_set)); assumption)) | ((try simp only [GH.push_hid, GH.set_hid]); first | assumption | (refine GH.vis ?_ ?_ <;> first | assumption | ((try simp only [GH.pn, GH.sn]) <;> omega)))))
    have hsp : splice 0 [Value.int .i64 0, Value.int .i64 0] [Value.int .i64 x, Value.int .i64 y] = [.int .i64 x, .int .i64 y] := Eq.trans rfl rfl
    have hob : obLoad none (cellsOb [.int .i64 x, .int .i64 y] 56) 0 = some (.int .i64 x) := rfl
    have hob2 : obLoad none (cellsOb [.int .i64 x, .int .i64 y] 56) 1 = some (.int .i64 y) := rfl
    simp +decide (disch := first | assumption | (apply GH.ok_push; assumption) | exact cellV_int _ _ | exact cellV_bool _ | omega) only [go_sem, ↓reduceIte, Nat.reduceEqDiff, Nat.reduceAdd, Int.reduceToNat, he, ci', hl, hp1, hp3, hg0, hsp]
    simp only [hgL, hob, oV_s]
    refine envR (fun e => ev e (.s 0) = s ∧ ev e (.s 1) = p ∧ ev e (.s 6) = .int .i64 (i : Nat) ∧ ev e (.s 5) = .int .i64 (tk : Nat) ∧ ev e (.s 7) = ptrTo g'.next ∧ ev e (.s 19) = .int .i64 x) ?h0 (fun e he => ?_)
    case h0 => exact (by simp +decide (disch := first | assumption | (apply GH.ok_push; assumption) | exact cellV_int _ _ | exact cellV_bool _ | omega) only [go_sem, ↓reduceIte, Nat.reduceEqDiff, Nat.reduceAdd, Int.reduceToNat, he]; first | done | exact rfl)
    refine Wk.nameR fun G hG => ?_
    have hkG : Kept g G := by rw [hG]; exact hkL
    have hnG : G.next = g'.next + 1 := by rw [hG]; rfl
    have hltG : g'.next < G.next := by omega
    have hg1 : G.get g'.next = cellsOb [.int .i64 x, .int .i64 y] 56 := by rw [hG]; exact hgL
    clear hG hkL hgL hg0
    by_cases f0 : x < 0
    · simp +decide (disch := first | assumption | (apply GH.ok_push; assumption) | exact cellV_int _ _ | exact cellV_bool _ | omega) only [go_sem, ↓reduceIte, Nat.reduceEqDiff, Nat.reduceAdd, Int.reduceToNat, he, hnG, f0]
      intro hx0
      exact ⟨by omega, by rw [← hr, hbad (by unfold goodP; rw [decide_eq_false (p := la < x) (by omega)]; rfl)]⟩
    by_cases f2 : y ≤ x
    · simp +decide (disch := first | assumption | (apply GH.ok_push; assumption) | exact cellV_int _ _ | exact cellV_bool _ | omega) only [go_sem, ↓reduceIte, Nat.reduceEqDiff, Nat.reduceAdd, Int.reduceToNat, he, hnG, hg1, hob, hob2, oV_s, f0, f2]
      intro hx0
      exact ⟨by omega, by rw [← hr, hbad (by unfold goodP; rw [decide_eq_false (p := x < y) (by omega), Bool.and_false]; rfl)]⟩
    by_cases f3 : (L.length : Int) ≤ y
    · simp +decide (disch := first | assumption | (apply GH.ok_push; assumption) | exact cellV_int _ _ | exact cellV_bool _ | omega) only [go_sem, ↓reduceIte, Nat.reduceEqDiff, Nat.reduceAdd, Int.reduceToNat, he, hnG, hls, hg1, hob, hob2, oV_s, f0, f2, f3]
      intro hx0
      exact ⟨by omega, by rw [← hr, hbad (by unfold goodP; rw [decide_eq_false (p := y < (L.length : Int)) (by omega), Bool.and_false]; rfl)]⟩
    obtain ⟨nx, rfl⟩ : ∃ nx : Nat, x = nx := ⟨x.toNat, by omega⟩
    obtain ⟨ny, rfl⟩ : ∃ ny : Nat, y = ny := ⟨y.toNat, by omega⟩
    have hxn : nx < L.length := by omega
    obtain ⟨j2, o2, hj2, hq1, hq2⟩ := (hs.kept hkG).ptr (ints_get (D := L) (i := nx) hxn)
    have hq1 := hq1 (nx : Int) rfl
    rw [(hA nx hxn).1] at hq2
    have hq2' := hq2 0
    simp only [go_sem] at hq2'
    have n1 : ¬ (nx : Int) < 0 := by omega
    have n2 : ¬ (ny : Int) < 0 := by omega
    have r1 := shr_fact ((setF L nx : Nat) : Int) ny (by omega)
    have r2 := rem_nat (setF L nx) ny
    have r3 := shr_fact ((tk : Nat) : Int) nx (by omega)
    have r4 := rem_nat tk nx
    have r5 := shr_fact ((tk : Nat) : Int) ny (by omega)
    have r6 := rem_nat tk ny
    have hgd : goodP L la tk nx ny = (decide (la < (nx : Int)) && (setF L nx).testBit ny && !tk.testBit nx && !tk.testBit ny) := by
      unfold goodP
      rw [decide_eq_true (p := (nx : Int) < ny) (by omega), decide_eq_true (p := (ny : Int) < L.length) (by omega), Bool.and_true, Bool.and_true]
      rfl
    simp +decide (disch := first | assumption | (apply GH.ok_push; assumption) | exact cellV_int _ _ | exact cellV_bool _ | omega) only [go_sem, ↓reduceIte, Nat.reduceEqDiff, Nat.reduceAdd, Int.reduceToNat, he, hnG, hls, hg1, hob, hob2, oV_s, f0, f2, f3, hq1]
    simp only [hq2', oV_s]
    refine envR (fun e => ev e (.s 0) = s ∧ ev e (.s 1) = p ∧ ev e (.s 6) = .int .i64 (i : Nat) ∧ ev e (.s 5) = .int .i64 (tk : Nat) ∧ ev e (.s 7) = ptrTo g'.next ∧ ev e (.s 35) = .bool false ∧ ev e (.s 40) = .int .i64 (setF L nx : Nat)) ?h2 (fun e he => ?_)
    case h2 => exact (by simp +decide (disch := first | assumption | (apply GH.ok_push; assumption) | exact cellV_int _ _ | exact cellV_bool _ | omega) only [go_sem, ↓reduceIte, Nat.reduceEqDiff, Nat.reduceAdd, Int.reduceToNat, he]; first | done | exact rfl)
    cases cb : (setF L nx).testBit ny with
    | false =>
      rw [cb] at r2
      have r2' : (((setF L nx : Nat) : Int) / 2 ^ ny).tmod 2 = 0 := r2
      simp +decide (disch := first | assumption | (apply GH.ok_push; assumption) | exact cellV_int _ _ | exact cellV_bool _ | omega) only [go_sem, ↓reduceIte, Nat.reduceEqDiff, Nat.reduceAdd, Int.reduceToNat, he, hnG, hg1, hob2, oV_s, ib_shr n2, r1, r2']
      intro hx0
      exact ⟨by omega, by rw [← hr, hbad (by rw [hgd, cb, Bool.and_false]; rfl)]⟩
    | true =>
    rw [cb] at r2 hgd
    have r2' : (((setF L nx : Nat) : Int) / 2 ^ ny).tmod 2 = 1 := r2
    cases ca : tk.testBit nx with
    | true =>
      rw [ca] at r4
      have r4' : ((tk : Int) / 2 ^ nx).tmod 2 = 1 := r4
      simp +decide (disch := first | assumption | (apply GH.ok_push; assumption) | exact cellV_int _ _ | exact cellV_bool _ | omega) only [go_sem, ↓reduceIte, Nat.reduceEqDiff, Nat.reduceAdd, Int.reduceToNat, he, hnG, hg1, hob, hob2, oV_s, ib_shr n2, ib_shr n1, r1, r2', r3, r4']
      intro hx0
      exact ⟨by omega, by rw [← hr, hbad (by rw [hgd, ca]; simp)]⟩
    | false =>
    rw [ca] at r4 hgd
    have r4' : ((tk : Int) / 2 ^ nx).tmod 2 = 0 := r4
    cases cc : tk.testBit ny with
    | true =>
      rw [cc] at r6
      have r6' : ((tk : Int) / 2 ^ ny).tmod 2 = 1 := r6
      simp +decide (disch := first | assumption | (apply GH.ok_push; assumption) | exact cellV_int _ _ | exact cellV_bool _ | omega) only [go_sem, ↓reduceIte, Nat.reduceEqDiff, Nat.reduceAdd, Int.reduceToNat, he, hnG, hg1, hob, hob2, oV_s, ib_shr n2, ib_shr n1, r1, r2', r3, r4', r5, r6']
      intro hx0
      exact ⟨by omega, by rw [← hr, hbad (by rw [hgd, cc]; simp)]⟩
    | false =>
    rw [cc] at r6 hgd
    have r6' : ((tk : Int) / 2 ^ ny).tmod 2 = 0 := r6
    have s1 := shl_i (k := nx) (by omega)
    have s2 := shl_i (k := ny) (by omega)
    have l1 := two_lt (k := nx) (by omega)
    have l2 := two_lt (k := ny) (by omega)
    have hv3' : tk < 2 ^ 10 := hv3
    have l3 := or_lt hv3' (show nx < 10 by omega)
    have o1 := or_i (a := tk) (b := 2 ^ nx) (by omega) (by omega)
    have o2' := or_i (a := tk ||| 2 ^ nx) (b := 2 ^ ny) (by omega) (by omega)
    by_cases ci0 : i = 0
    · have hla' := hla0 ci0
      have hgd' : goodP L la tk nx ny = true := by rw [hgd, decide_eq_true (p := la < (nx : Int)) (by omega)]; rfl
      rw [hgd'] at htk
      have i0 : ¬ (0 : Int) < (i : Nat) := by omega
      simp +decide (disch := first | assumption | (apply GH.ok_push; assumption) | exact cellV_int _ _ | exact cellV_bool _ | omega) only [go_sem, ↓reduceIte, Nat.reduceEqDiff, Nat.reduceAdd, Int.reduceToNat, he, hnG, hg1, hob, hob2, oV_s, ib_shr n2, ib_shr n1, r1, r2', r3, r4', r5, r6', i0, s1, s2, o1, o2']
      refine ih (m - 1) _ _ _ (by omega) ⟨by omega, hkG, i + 1, by omega, ?_, htk⟩
      rw [htt]
      exact (by simp +decide (disch := first | assumption | (apply GH.ok_push; assumption) | exact cellV_int _ _ | exact cellV_bool _ | omega) only [go_sem, ↓reduceIte, Nat.reduceEqDiff, Nat.reduceAdd, Int.reduceToNat, he]; first | done | exact rfl)
    · obtain ⟨hi1, hla'⟩ := hlas (by omega)
      have i0 : (0 : Int) < (i : Nat) := by omega
      obtain ⟨j3, a3, hj3, ht1, ht2, ht3⟩ := (hp.kept hkG).ptr hi1
      have ht1 := ht1 ((i : Int) - 1) (by omega)
      obtain ⟨c1, c2⟩ := cellsI_get P (i - 1) hi1
      have ht20 := fun lo => ht2 lo 0 _ (by omega) c1
      rw [Nat.add_zero, ← hla'] at ht20
      by_cases f5 : la < (nx : Int)
      · have hgd' : goodP L la tk nx ny = true := by rw [hgd, decide_eq_true f5]; rfl
        rw [hgd'] at htk
        have f5' : ¬ (nx : Int) ≤ la := by omega
        simp +decide (disch := first | assumption | (apply GH.ok_push; assumption) | exact cellV_int _ _ | exact cellV_bool _ | omega) only [go_sem, ↓reduceIte, Nat.reduceEqDiff, Nat.reduceAdd, Int.reduceToNat, he, hnG, hg1, hob, hob2, oV_s, ib_shr n2, ib_shr n1, r1, r2', r3, r4', r5, r6', i0, ht1, ht20, s1, s2, o1, o2', f5']
        refine ih (m - 1) _ _ _ (by omega) ⟨by omega, hkG, i + 1, by omega, ?_, htk⟩
        rw [htt]
        exact (by simp +decide (disch := first | assumption | (apply GH.ok_push; assumption) | exact cellV_int _ _ | exact cellV_bool _ | omega) only [go_sem, ↓reduceIte, Nat.reduceEqDiff, Nat.reduceAdd, Int.reduceToNat, he]; first | done | exact rfl)
      · have f5' : (nx : Int) ≤ la := by omega
        simp +decide (disch := first | assumption | (apply GH.ok_push; assumption) | exact cellV_int _ _ | exact cellV_bool _ | omega) only [go_sem, ↓reduceIte, Nat.reduceEqDiff, Nat.reduceAdd, Int.reduceToNat, he, hnG, hg1, hob, hob2, oV_s, ib_shr n2, ib_shr n1, r1, r2', r3, r4', r5, r6', i0, ht1, ht20, f5']
        intro hx0
        exact ⟨by omega, by rw [← hr, hbad (by rw [hgd, decide_eq_false f5]; rfl)]⟩
end Go.Proofs.YtnpapnpedcbfnaaDoor
set_option maxRecDepth 100000
set_option maxHeartbeats 4000000
set_option linter.unusedSimpArgs false
set_option linter.unusedVariables false
namespace Go.Proofs.YtnpapnpedcbfnaaDoor
open Go.Ds Go.Vs
theorem add_or {x k : Nat} (h : x < 2 ^ k) : x + 2 ^ k = x ||| 2 ^ k := by
  have e := Nat.two_pow_add_eq_or_of_lt h 1
  rw [Nat.mul_one] at e
  rw [Nat.add_comm, e, Nat.or_comm]
theorem most_rets {X : Caller} (hX : Xfr X) (L : List Int) (hL : shopB L = true) (s : Value) (left : Nat) (hleft : left < 2 ^ L.length) (g : GH) (hs : SlR g s (ints L)) :
    Rets Tryd.prog X 47 [s, .int .i64 (left : Nat)] g (fun v g' lo => g.next ≤ lo ∧ v = .int .i64 (best (setF L) L.length left : Nat)) := by
  obtain ⟨hL1, hL10, hA⟩ := shop_ok hL
  have hl := hs.len
  rw [ints_len] at hl
  have hN1024 : 2 ^ L.length ≤ 1024 := Nat.pow_le_pow_right (by decide) hL10
  have hsh := shl_i (k := L.length) (by omega)
  have hbl : ∀ i, i ≠ 0 → i < 2 ^ L.length → low i < L.length := fun i h1 h2 => low_lt h1 h2
  obtain ⟨N, hNe⟩ : ∃ N, 2 ^ L.length = N := ⟨_, rfl⟩
  have hAb := fun i hi => (hA i hi).2.2.1
  rw [hNe] at hA hsh hleft hN1024 hbl
  obtain ⟨A, hAe⟩ : ∃ A, setF L = A := ⟨_, rfl⟩
  rw [hAe] at hA hAb ⊢
  refine Rets.run hX.pres p47 (hX.free 47 (by decide) _ _) rfl fun ho => ?_
  simp +decide (disch := first | assumption | exact cellV_int _ _ | exact cellV_bool _ | omega | (simp only [GH.pn, GH.sn] <;> omega) | (with_reducible ((repeat (first | apply GH.ok_push | apply GH.ok_set)); assumption)) | ((try simp only [GH.push_hid, GH.set_hid]); first | assumption | (refine GH.vis ?_ ?_ <;> first | assumption | ((try simp only [GH.pn, GH.sn]) <;> omega)))) only [go_sem, ↓reduceIte, Nat.reduceEqDiff, Nat.reduceAdd, Int.reduceToNat, Int.reduceAdd, Int.reduceNeg, Int.reduceSub, Int.reduceMul, Int.reduceLT, Int.reduceLE, Int.reduceEq, ↓GH.gp_eq, ↓GH.gp_ne, ↓GH.gs_eq, ↓GH.gs_ne, GH.push_next, GH.set_next, hl, hsh]
  refine Wk.mkslice (n := N) (c := N) (by simp +decide (disch := first | assumption | exact cellV_int _ _ | exact cellV_bool _ | omega | (simp only [GH.pn, GH.sn] <;> omega) | (with_reducible ((repeat (first | apply GH.ok_push | apply GH.ok_set)); assumption)) | ((try simp only [GH.push_hid, GH.set_hid]); first | assumption | (refine GH.vis ?_ ?_ <;> first | assumption | ((try simp only [GH.pn, GH.sn]) <;> omega)))) only [go_sem, ↓reduceIte, Nat.reduceEqDiff, Nat.reduceAdd, Int.reduceToNat, Int.reduceAdd, Int.reduceNeg, Int.reduceSub, Int.reduceMul, Int.reduceLT, Int.reduceLE, Int.reduceEq, ↓GH.gp_eq, ↓GH.gp_ne, ↓GH.gs_eq, ↓GH.gs_ne, GH.push_next, GH.set_next, hsh]; first | done | exact rfl) (by simp +decide (disch := first | assumption | exact cellV_int _ _ | exact cellV_bool _ | omega | (simp only [GH.pn, GH.sn] <;> omega) | (with_reducible ((repeat (first | apply GH.ok_push | apply GH.ok_set)); assumption)) | ((try simp only [GH.push_hid, GH.set_hid]); first | assumption | (refine GH.vis ?_ ?_ <;> first | assumption | ((try simp only [GH.pn, GH.sn]) <;> omega)))) only [go_sem, ↓reduceIte, Nat.reduceEqDiff, Nat.reduceAdd, Int.reduceToNat, Int.reduceAdd, Int.reduceNeg, Int.reduceSub, Int.reduceMul, Int.reduceLT, Int.reduceLE, Int.reduceEq, ↓GH.gp_eq, ↓GH.gp_ne, ↓GH.gs_eq, ↓GH.gs_ne, GH.push_next, GH.set_next, hsh]; first | done | exact rfl) (Nat.le_refl _) (by omega) ?_
  simp +decide (disch := first | assumption | exact cellV_int _ _ | exact cellV_bool _ | omega | (simp only [GH.pn, GH.sn] <;> omega) | (with_reducible ((repeat (first | apply GH.ok_push | apply GH.ok_set)); assumption)) | ((try simp only [GH.push_hid, GH.set_hid]); first | assumption | (refine GH.vis ?_ ?_ <;> first | assumption | ((try simp only [GH.pn, GH.sn]) <;> omega)))) only [go_sem, ↓reduceIte, Nat.reduceEqDiff, Nat.reduceAdd, Int.reduceToNat, Int.reduceAdd, Int.reduceNeg, Int.reduceSub, Int.reduceMul, Int.reduceLT, Int.reduceLE, Int.reduceEq, ↓GH.gp_eq, ↓GH.gp_ne, ↓GH.gs_eq, ↓GH.gs_ne, GH.push_next, GH.set_next, hl, hsh]
  obtain ⟨J, hJ⟩ : ∃ J, g.next = J := ⟨_, rfl⟩
  rw [hJ]
  have hJ0 : g.next ≤ J := by omega
  refine Wk.loops (fun m e g' lo => g.next ≤ lo ∧ Kept g g' ∧ J < g'.next ∧ ∃ i : Nat, i + m = left + 1 ∧ 1 ≤ i ∧ (ev e (.s 0) = s ∧ ev e (.s 1) = .int .i64 (left : Nat) ∧ ev e (.s 5) = .slice (some ⟨J, 0, none⟩) N N ∧ ev e (.s 6) = .int .i64 (i : Nat)) ∧ ∃ T : List Int, g'.get J = cellsOb (ints T) 3 ∧ T.length = N ∧ ∀ j, j < i → T.getD j 0 = (best A L.length j : Int))
    (fun e g' lo => g.next ≤ lo ∧ J < g'.next ∧ (ev e (.s 1) = .int .i64 (left : Nat) ∧ ev e (.s 5) = .slice (some ⟨J, 0, none⟩) N N) ∧ ∃ T : List Int, g'.get J = cellsOb (ints T) 3 ∧ T.length = N ∧ T.getD left 0 = (best A L.length left : Int)) (n := left) ?_ ?_ ?_
  · refine ⟨by omega, (Kept.refl g).push ho _, by rw [← hJ]; exact Nat.lt_succ_self _, 1, by omega, Nat.le_refl _, (by simp +decide (disch := first | assumption | (apply GH.ok_push; assumption) | exact cellV_int _ _ | exact cellV_bool _ | omega) only [go_sem, ↓reduceIte, Nat.reduceEqDiff, Nat.reduceAdd, Int.reduceToNat]; first | done | exact rfl), List.replicate N 0, ?_, by simp, fun j hj => ?_⟩
    · rw [GH.get_push ho, if_pos hJ, repeatN_ints]
    · rw [show j = 0 by omega, best_zero, List.getD_eq_getElem?_getD, List.getElem?_replicate]
      split <;> rfl
  · rintro e g' lo hog hlg ⟨hlo, hnx, he, T, hget, hTl, hT⟩
    have hp := iaddrS_at (j := J) (n := N) (c := N) (m := left) (x := (left : Nat)) rfl hleft
    have hc : (ints T)[left]? = some (.int .i64 (best A L.length left : Nat)) := by rw [ints_get (by omega), hT]
    simp +decide (disch := first | assumption | exact cellV_int _ _ | exact cellV_bool _ | omega | (simp only [GH.pn, GH.sn] <;> omega) | (with_reducible ((repeat (first | apply GH.ok_push | apply GH.ok_set)); assumption)) | ((try simp only [GH.push_hid, GH.set_hid]); first | assumption | (refine GH.vis ?_ ?_ <;> first | assumption | ((try simp only [GH.pn, GH.sn]) <;> omega)))) only [go_sem, ↓reduceIte, Nat.reduceEqDiff, Nat.reduceAdd, Int.reduceToNat, Int.reduceAdd, Int.reduceNeg, Int.reduceSub, Int.reduceMul, Int.reduceLT, Int.reduceLE, Int.reduceEq, ↓GH.gp_eq, ↓GH.gp_ne, ↓GH.gs_eq, ↓GH.gs_ne, GH.push_next, GH.set_next, he, hp, hget, hc]
    intro hx0
    exact ⟨by omega, rfl⟩
  · rintro m e g' lo ho' hl' ih out ⟨hlo, hk, hnx, i, hi, hi1, he, T, hget, hTl, hTb⟩
    have hkn := hk.next
    by_cases ci : i ≤ left
    case neg =>
      have ci' : ¬ (i : Int) ≤ left := by omega
      simp +decide (disch := first | assumption | exact cellV_int _ _ | exact cellV_bool _ | omega | (simp only [GH.pn, GH.sn] <;> omega) | (with_reducible ((repeat (first | apply GH.ok_push | apply GH.ok_set)); assumption)) | ((try simp only [GH.push_hid, GH.set_hid]); first | assumption | (refine GH.vis ?_ ?_ <;> first | assumption | ((try simp only [GH.pn, GH.sn]) <;> omega)))) only [go_sem, ↓reduceIte, Nat.reduceEqDiff, Nat.reduceAdd, Int.reduceToNat, Int.reduceAdd, Int.reduceNeg, Int.reduceSub, Int.reduceMul, Int.reduceLT, Int.reduceLE, Int.reduceEq, ↓GH.gp_eq, ↓GH.gp_ne, ↓GH.gs_eq, ↓GH.gs_ne, GH.push_next, GH.set_next, he, ci']
      exact out _ _ _ ⟨hlo, hnx, (by simp +decide (disch := first | assumption | (apply GH.ok_push; assumption) | exact cellV_int _ _ | exact cellV_bool _ | omega) only [go_sem, ↓reduceIte, Nat.reduceEqDiff, Nat.reduceAdd, Int.reduceToNat, he]; first | done | exact rfl), T, hget, hTl, hTb left (by omega)⟩
    have ci' : (i : Int) ≤ left := by omega
    have hi0 : i ≠ 0 := by omega
    have hlow := hbl i hi0 (by omega)
    have hlb := low_bit hi0
    have hll := fun j => @low_least i j hi0
    have hsub := bit_sub (low i) hlb
    have hbe := best_eq A L.length hi0
    have hAl := hA (low i) hlow
    have hAll := hAb (low i) hlow
    have hdb := del_bit i (low i)
    have hslo := shl_i (k := low i) (by omega)
    have htlo := two_lt (k := low i) (by omega)
    obtain ⟨w, hw⟩ : ∃ w, low i = w := ⟨_, rfl⟩
    rw [hw] at hlow hlb hll hsub hbe hAl hAll hdb hslo htlo
    obtain ⟨R, hR⟩ : ∃ R, del i w = R := ⟨_, rfl⟩
    rw [hR] at hsub hbe hdb
    obtain ⟨tp, htp⟩ : ∃ tp, 2 ^ w = tp := ⟨_, rfl⟩
    rw [htp] at hsub hslo htlo
    have htp0 : 0 < tp := by rw [← htp]; exact Nat.two_pow_pos _
    simp +decide (disch := first | assumption | exact cellV_int _ _ | exact cellV_bool _ | omega | (simp only [GH.pn, GH.sn] <;> omega) | (with_reducible ((repeat (first | apply GH.ok_push | apply GH.ok_set)); assumption)) | ((try simp only [GH.push_hid, GH.set_hid]); first | assumption | (refine GH.vis ?_ ?_ <;> first | assumption | ((try simp only [GH.pn, GH.sn]) <;> omega)))) only [go_sem, ↓reduceIte, Nat.reduceEqDiff, Nat.reduceAdd, Int.reduceToNat, Int.reduceAdd, Int.reduceNeg, Int.reduceSub, Int.reduceMul, Int.reduceLT, Int.reduceLE, Int.reduceEq, ↓GH.gp_eq, ↓GH.gp_ne, ↓GH.gs_eq, ↓GH.gs_ne, GH.push_next, GH.set_next, he, ci']
    refine Wk.loops (fun m' e' g'' lo' => g'' = g' ∧ g.next ≤ lo' ∧ ∃ p : Nat, p + m' = w ∧ (ev e' (.s 0) = s ∧ ev e' (.s 1) = .int .i64 (left : Nat) ∧ ev e' (.s 5) = .slice (some ⟨J, 0, none⟩) N N ∧ ev e' (.s 6) = .int .i64 (i : Nat) ∧ ev e' (.s 7) = .int .i64 (p : Nat)))
      (fun e' g'' lo' => g'' = g' ∧ g.next ≤ lo' ∧ (ev e' (.s 0) = s ∧ ev e' (.s 1) = .int .i64 (left : Nat) ∧ ev e' (.s 5) = .slice (some ⟨J, 0, none⟩) N N ∧ ev e' (.s 6) = .int .i64 (i : Nat) ∧ ev e' (.s 7) = .int .i64 (w : Nat))) (n := w) ?_ ?_ ?_
    · exact ⟨rfl, hlo, 0, by omega, (by simp +decide (disch := first | assumption | (apply GH.ok_push; assumption) | exact cellV_int _ _ | exact cellV_bool _ | omega) only [go_sem, ↓reduceIte, Nat.reduceEqDiff, Nat.reduceAdd, Int.reduceToNat, he]; first | done | exact rfl)⟩
    · rintro e' g'' lo' - - ⟨rfl, hlo', he'⟩
      have hRi : R < i := by omega
      have hpa := iaddrS_at (j := J) (n := N) (c := N) (m := R) (x := (i : Int) - (tp : Int)) (by omega) (by omega)
      have hpb := iaddrS_at (j := J) (n := N) (c := N) (m := i) (x := (i : Nat)) rfl (by omega)
      have hcell : (ints T)[R]? = some (.int .i64 (best A L.length R : Nat)) := by rw [ints_get (by omega), hTb _ hRi]
      have hlenT : (ints T).length = N := by rw [ints_len, hTl]
      simp +decide (disch := first | assumption | exact cellV_int _ _ | exact cellV_bool _ | omega | (simp only [GH.pn, GH.sn] <;> omega) | (with_reducible ((repeat (first | apply GH.ok_push | apply GH.ok_set)); assumption)) | ((try simp only [GH.push_hid, GH.set_hid]); first | assumption | (refine GH.vis ?_ ?_ <;> first | assumption | ((try simp only [GH.pn, GH.sn]) <;> omega)))) only [go_sem, ↓reduceIte, Nat.reduceEqDiff, Nat.reduceAdd, Int.reduceToNat, Int.reduceAdd, Int.reduceNeg, Int.reduceSub, Int.reduceMul, Int.reduceLT, Int.reduceLE, Int.reduceEq, ↓GH.gp_eq, ↓GH.gp_ne, ↓GH.gs_eq, ↓GH.gs_ne, GH.push_next, GH.set_next, he', hslo, hpa, hpb, hget, hcell, hlenT, hl]
      have hw1 := Wrote.set (o := cellsOb (splice i (ints T) [.int .i64 (best A L.length R : Nat)]) 3) hget Nat.one_ne_zero ho'
      have hkw := hw1.kept hk hJ0
      have hgw := hw1.get.trans (congrArg (fun z => cellsOb z 3) (show splice i (ints T) [.int .i64 (best A L.length R : Nat)] = ints (T.set i (best A L.length R : Nat)) by rw [splice_set _ _ _ (by rw [hlenT]; omega), ints_set]))
      have hnw := hw1.next
      refine Wk.loops (fun m' e' g' lo' => g.next ≤ lo' ∧ Kept g g' ∧ J < g'.next ∧ ∃ k : Nat, k + m' = L.length ∧ (ev e' (.s 0) = s ∧ ev e' (.s 1) = .int .i64 (left : Nat) ∧ ev e' (.s 5) = .slice (some ⟨J, 0, none⟩) N N ∧ ev e' (.s 6) = .int .i64 (i : Nat) ∧ ev e' (.s 7) = .int .i64 (w : Nat) ∧ ev e' (.s 8) = .int .i64 (k : Nat)) ∧ ∃ T : List Int, g'.get J = cellsOb (ints T) 3 ∧ T.length = N ∧ (∀ j, j < i → T.getD j 0 = (best A L.length j : Int)) ∧ T.getD i 0 = (mxs (fun k => (R &&& A w).testBit k) (fun k => best A L.length (del R k) + 1) (best A L.length R) k : Nat))
        (fun e' g' lo' => g.next ≤ lo' ∧ Kept g g' ∧ J < g'.next ∧ (ev e' (.s 0) = s ∧ ev e' (.s 1) = .int .i64 (left : Nat) ∧ ev e' (.s 5) = .slice (some ⟨J, 0, none⟩) N N ∧ ev e' (.s 6) = .int .i64 (i : Nat)) ∧ ∃ T : List Int, g'.get J = cellsOb (ints T) 3 ∧ T.length = N ∧ ∀ j, j < i + 1 → T.getD j 0 = (best A L.length j : Int)) (n := L.length) ?_ ?_ ?_
      · refine ⟨by omega, hkw, by omega, 0, by omega, (by simp +decide (disch := first | assumption | (apply GH.ok_push; assumption) | exact cellV_int _ _ | exact cellV_bool _ | omega) only [go_sem, ↓reduceIte, Nat.reduceEqDiff, Nat.reduceAdd, Int.reduceToNat, he']; first | done | exact rfl), _, hgw, by simp [hTl], fun j hj => ?_, ?_⟩
        · rw [getD_set _ _ _ _ (by omega), if_neg (by omega)]; exact hTb j hj
        · rw [getD_set _ _ _ _ (by omega), if_pos rfl]; rfl
      · rintro e2 g2 lo2 - - ⟨hlo2, hk2, hnx2, he2, T2, hget2, hTl2, hTb2⟩
        simp +decide (disch := first | assumption | exact cellV_int _ _ | exact cellV_bool _ | omega | (simp only [GH.pn, GH.sn] <;> omega) | (with_reducible ((repeat (first | apply GH.ok_push | apply GH.ok_set)); assumption)) | ((try simp only [GH.push_hid, GH.set_hid]); first | assumption | (refine GH.vis ?_ ?_ <;> first | assumption | ((try simp only [GH.pn, GH.sn]) <;> omega)))) only [go_sem, ↓reduceIte, Nat.reduceEqDiff, Nat.reduceAdd, Int.reduceToNat, Int.reduceAdd, Int.reduceNeg, Int.reduceSub, Int.reduceMul, Int.reduceLT, Int.reduceLE, Int.reduceEq, ↓GH.gp_eq, ↓GH.gp_ne, ↓GH.gs_eq, ↓GH.gs_ne, GH.push_next, GH.set_next, he2]
        exact ih (m - 1) _ _ _ (by omega) ⟨hlo2, hk2, hnx2, i + 1, by omega, by omega, (by simp +decide (disch := first | assumption | (apply GH.ok_push; assumption) | exact cellV_int _ _ | exact cellV_bool _ | omega) only [go_sem, ↓reduceIte, Nat.reduceEqDiff, Nat.reduceAdd, Int.reduceToNat, he2]; first | done | exact rfl), T2, hget2, hTl2, hTb2⟩
      · rintro m2 e2 g2 lo2 ho2 hl2 ih2 out2 ⟨hlo2, hk2, hnx2, k, hkm, he2, T2, hget2, hTl2, hTb2, hTi2⟩
        have hkn2 := hk2.next
        by_cases ck : k < L.length
        case neg =>
          have ck' : ¬ (k : Int) < L.length := by omega
          simp +decide (disch := first | assumption | exact cellV_int _ _ | exact cellV_bool _ | omega | (simp only [GH.pn, GH.sn] <;> omega) | (with_reducible ((repeat (first | apply GH.ok_push | apply GH.ok_set)); assumption)) | ((try simp only [GH.push_hid, GH.set_hid]); first | assumption | (refine GH.vis ?_ ?_ <;> first | assumption | ((try simp only [GH.pn, GH.sn]) <;> omega)))) only [go_sem, ↓reduceIte, Nat.reduceEqDiff, Nat.reduceAdd, Int.reduceToNat, Int.reduceAdd, Int.reduceNeg, Int.reduceSub, Int.reduceMul, Int.reduceLT, Int.reduceLE, Int.reduceEq, ↓GH.gp_eq, ↓GH.gp_ne, ↓GH.gs_eq, ↓GH.gs_ne, GH.push_next, GH.set_next, he2, hl, ck']
          have : k = L.length := by omega
          subst this
          rw [← hbe] at hTi2
          refine out2 _ _ _ ⟨hlo2, hk2, hnx2, (by simp +decide (disch := first | assumption | (apply GH.ok_push; assumption) | exact cellV_int _ _ | exact cellV_bool _ | omega) only [go_sem, ↓reduceIte, Nat.reduceEqDiff, Nat.reduceAdd, Int.reduceToNat, he2]; first | done | exact rfl), T2, hget2, hTl2, fun j hj => ?_⟩
          rcases Nat.lt_succ_iff_lt_or_eq.1 hj with c | c
          · exact hTb2 j c
          · rw [c]; exact hTi2
        have ck' : (k : Int) < L.length := by omega
        have n1 : ¬ (k : Int) < 0 := by omega
        obtain ⟨j2, o2, hj2, hq1, hq2⟩ := (hs.kept hk2).ptr (ints_get (D := L) (i := w) hlow)
        have hq1 := hq1 (w : Int) rfl
        rw [hAl.1] at hq2
        have hAw := hAl.2.1
        have hand := and_i (a := A w) (b := i) (by omega) (by omega)
        have r1 := shr_fact ((A w &&& i : Nat) : Int) k (by omega)
        have r2 := rem_nat (A w &&& i) k
        have hbit : (R &&& A w).testBit k = (A w &&& i).testBit k := by
          rw [Nat.testBit_and, Nat.testBit_and, hdb]
          by_cases c : k = w
          · rw [c, hAll]; simp
          · rw [decide_eq_false c, Bool.not_false, Bool.and_true, Bool.and_comm]
        rw [← hbit] at r2
        cases cb : (R &&& A w).testBit k with
        | false =>
          rw [cb] at r2
          have r2' : (((A w &&& i : Nat) : Int) / 2 ^ k).tmod 2 = 0 := r2
          simp +decide (disch := first | assumption | exact cellV_int _ _ | exact cellV_bool _ | omega | (simp only [GH.pn, GH.sn] <;> omega) | (with_reducible ((repeat (first | apply GH.ok_push | apply GH.ok_set)); assumption)) | ((try simp only [GH.push_hid, GH.set_hid]); first | assumption | (refine GH.vis ?_ ?_ <;> first | assumption | ((try simp only [GH.pn, GH.sn]) <;> omega)))) only [go_sem, ↓reduceIte, Nat.reduceEqDiff, Nat.reduceAdd, Int.reduceToNat, Int.reduceAdd, Int.reduceNeg, Int.reduceSub, Int.reduceMul, Int.reduceLT, Int.reduceLE, Int.reduceEq, ↓GH.gp_eq, ↓GH.gp_ne, ↓GH.gs_eq, ↓GH.gs_ne, GH.push_next, GH.set_next, he2, hl, ck', hq1, hq2, hand, ib_shr n1, r1, r2']
          refine ih2 (m2 - 1) _ _ _ (by omega) ⟨hlo2, hk2, hnx2, k + 1, by omega, (by simp +decide (disch := first | assumption | (apply GH.ok_push; assumption) | exact cellV_int _ _ | exact cellV_bool _ | omega) only [go_sem, ↓reduceIte, Nat.reduceEqDiff, Nat.reduceAdd, Int.reduceToNat, he2]; first | done | exact rfl), T2, hget2, hTl2, hTb2, ?_⟩
          rw [hTi2, mxs, cb]; rfl
        | true =>
          rw [cb] at r2
          have r2' : (((A w &&& i : Nat) : Int) / 2 ^ k).tmod 2 = 1 := r2
          have hkR : R.testBit k = true := by rw [Nat.testBit_and, Bool.and_eq_true] at cb; exact cb.1
          have hsubk := bit_sub k hkR
          have hsk := shl_i (k := k) (by omega)
          have htk := two_lt (k := k) (by omega)
          have hlenT2 : (ints T2).length = N := by rw [ints_len, hTl2]
          have hDi : del R k < i := Nat.lt_of_le_of_lt (del_le R k) hRi
          have hbs := best_small A L.length (del R k)
          have hmz : mxs (fun k => (R &&& A w).testBit k) (fun k => best A L.length (del R k) + 1) (best A L.length R) (k + 1) = max (mxs (fun k => (R &&& A w).testBit k) (fun k => best A L.length (del R k) + 1) (best A L.length R) k) (best A L.length (del R k) + 1) := by
            rw [mxs, if_pos cb]
          have hci : (ints T2)[i]? = some (.int .i64 (mxs (fun k => (R &&& A w).testBit k) (fun k => best A L.length (del R k) + 1) (best A L.length R) k : Nat)) := by
            rw [ints_get (by omega), hTi2]
          have hcd : (ints T2)[del R k]? = some (.int .i64 (best A L.length (del R k) : Nat)) := by
            rw [ints_get (by omega), hTb2 _ hDi]
          generalize mxs (fun k => (R &&& A w).testBit k) (fun k => best A L.length (del R k) + 1) (best A L.length R) k = mk at *
          generalize hBk : best A L.length (del R k) = bk at *
          obtain ⟨tk, htke⟩ : ∃ tk, 2 ^ k = tk := ⟨_, rfl⟩
          rw [htke] at hsubk hsk htk
          obtain ⟨D, hD⟩ : ∃ D, del R k = D := ⟨_, rfl⟩
          rw [hD] at hsubk hDi hcd hbs
          have hmx := mx_ints (mk : Int) ((bk : Int) + 1)
          have hpd := iaddrS_at (j := J) (n := N) (c := N) (m := D) (x := (i : Int) - (tp : Int) - (tk : Int)) (by omega) (by omega)
          simp +decide (disch := first | assumption | exact cellV_int _ _ | exact cellV_bool _ | omega | (simp only [GH.pn, GH.sn] <;> omega) | (with_reducible ((repeat (first | apply GH.ok_push | apply GH.ok_set)); assumption)) | ((try simp only [GH.push_hid, GH.set_hid]); first | assumption | (refine GH.vis ?_ ?_ <;> first | assumption | ((try simp only [GH.pn, GH.sn]) <;> omega)))) only [go_sem, ↓reduceIte, Nat.reduceEqDiff, Nat.reduceAdd, Int.reduceToNat, Int.reduceAdd, Int.reduceNeg, Int.reduceSub, Int.reduceMul, Int.reduceLT, Int.reduceLE, Int.reduceEq, ↓GH.gp_eq, ↓GH.gp_ne, ↓GH.gs_eq, ↓GH.gs_ne, GH.push_next, GH.set_next, he2, hl, ck', hq1, hq2, hand, ib_shr n1, r1, r2', hslo, hsk, hpb, hpd, hget2, hci, hcd, hmx, hlenT2]
          have hw5 := Wrote.set (o := cellsOb (splice i (ints T2) [.int .i64 (if (mk : Int) < (bk : Int) + 1 then (bk : Int) + 1 else mk)]) 3) hget2 Nat.one_ne_zero ho2
          have hg5 := hw5.get.trans (congrArg (fun z => cellsOb z 3) (show splice i (ints T2) [.int .i64 (if (mk : Int) < (bk : Int) + 1 then (bk : Int) + 1 else mk)] = ints (T2.set i (if (mk : Int) < (bk : Int) + 1 then (bk : Int) + 1 else mk)) by rw [splice_set _ _ _ (by rw [hlenT2]; omega), ints_set]))
          refine ih2 (m2 - 1) _ _ _ (by omega) ⟨by omega, hw5.kept hk2 hJ0, by rw [hw5.next]; omega, k + 1, by omega, (by simp +decide (disch := first | assumption | (apply GH.ok_push; assumption) | exact cellV_int _ _ | exact cellV_bool _ | omega) only [go_sem, ↓reduceIte, Nat.reduceEqDiff, Nat.reduceAdd, Int.reduceToNat, he2]; first | done | exact rfl), _, hg5, by simp [hTl2], fun j hj => ?_, ?_⟩
          · rw [getD_set _ _ _ _ (by omega), if_neg (by omega)]; exact hTb2 j hj
          · rw [getD_set _ _ _ _ (by omega), if_pos rfl, hmz]
            split <;> omega
    · rintro m' e' g'' lo' ho'' hl'' ih' out' ⟨rfl, hlo', p, hpm, he'⟩
      have n1 : ¬ (p : Int) < 0 := by omega
      have r1 := shr_fact ((i : Nat) : Int) p (by omega)
      have r2 := rem_nat i p
      by_cases cp : p < w
      · rw [hll p cp] at r2
        have r2' : ((i : Int) / 2 ^ p).tmod 2 = 0 := r2
        simp +decide (disch := first | assumption | exact cellV_int _ _ | exact cellV_bool _ | omega | (simp only [GH.pn, GH.sn] <;> omega) | (with_reducible ((repeat (first | apply GH.ok_push | apply GH.ok_set)); assumption)) | ((try simp only [GH.push_hid, GH.set_hid]); first | assumption | (refine GH.vis ?_ ?_ <;> first | assumption | ((try simp only [GH.pn, GH.sn]) <;> omega)))) only [go_sem, ↓reduceIte, Nat.reduceEqDiff, Nat.reduceAdd, Int.reduceToNat, Int.reduceAdd, Int.reduceNeg, Int.reduceSub, Int.reduceMul, Int.reduceLT, Int.reduceLE, Int.reduceEq, ↓GH.gp_eq, ↓GH.gp_ne, ↓GH.gs_eq, ↓GH.gs_ne, GH.push_next, GH.set_next, he', ib_shr n1, r1, r2']
        exact ih' (m' - 1) _ _ _ (by omega) ⟨rfl, hlo', p + 1, by omega, (by simp +decide (disch := first | assumption | (apply GH.ok_push; assumption) | exact cellV_int _ _ | exact cellV_bool _ | omega) only [go_sem, ↓reduceIte, Nat.reduceEqDiff, Nat.reduceAdd, Int.reduceToNat, he']; first | done | exact rfl)⟩
      · have : p = w := by omega
        subst this
        rw [hlb] at r2
        have r2' : ((i : Int) / 2 ^ p).tmod 2 = 1 := r2
        simp +decide (disch := first | assumption | exact cellV_int _ _ | exact cellV_bool _ | omega | (simp only [GH.pn, GH.sn] <;> omega) | (with_reducible ((repeat (first | apply GH.ok_push | apply GH.ok_set)); assumption)) | ((try simp only [GH.push_hid, GH.set_hid]); first | assumption | (refine GH.vis ?_ ?_ <;> first | assumption | ((try simp only [GH.pn, GH.sn]) <;> omega)))) only [go_sem, ↓reduceIte, Nat.reduceEqDiff, Nat.reduceAdd, Int.reduceToNat, Int.reduceAdd, Int.reduceNeg, Int.reduceSub, Int.reduceMul, Int.reduceLT, Int.reduceLE, Int.reduceEq, ↓GH.gp_eq, ↓GH.gp_ne, ↓GH.gs_eq, ↓GH.gs_ne, GH.push_next, GH.set_next, he', ib_shr n1, r1, r2']
        exact out' _ _ _ ⟨rfl, hlo', (by simp +decide (disch := first | assumption | (apply GH.ok_push; assumption) | exact cellV_int _ _ | exact cellV_bool _ | omega) only [go_sem, ↓reduceIte, Nat.reduceEqDiff, Nat.reduceAdd, Int.reduceToNat, he']; first | done | exact rfl)⟩
end Go.Proofs.YtnpapnpedcbfnaaDoor
set_option maxRecDepth 100000
set_option maxHeartbeats 4000000
set_option linter.unusedSimpArgs false
set_option linter.unusedVariables false
namespace Go.Proofs.YtnpapnpedcbfnaaDoor
open Go.Ds Go.Vs
theorem andn_bits {a b n : Nat} (ha : a < 2 ^ n) (hn : n ≤ 10) (hb : b < 18446744073709551616) (k : Nat) : (andn a b).testBit k = (a.testBit k && !b.testBit k) := by
  by_cases hk : k < 64
  · exact andn_bit hb hk
  · have h1 : a < 2 ^ k := Nat.lt_of_lt_of_le ha (Nat.pow_le_pow_right (by decide) (by omega))
    rw [Nat.testBit_lt_two_pow h1, Nat.testBit_lt_two_pow (Nat.lt_of_le_of_lt (andn_le a b) h1)]
    rfl
/-- What is left, without the hats up to a and without b. -/
theorem rest_is {lf F a b n : Nat} (hl : lf < 2 ^ n) (hn : n ≤ 10) (ha : a < n) (hb : b < n) (h : ∀ j, a ≤ j → lf.testBit j = F.testBit j) (hF : ∀ j, j < a → F.testBit j = false) : andn (andn lf (2 ^ (a + 1) - 1)) (2 ^ b) = del (del F a) b := by
  have h1 := two_lt (k := a + 1) (by omega)
  have h2 := two_lt (k := b) (by omega)
  apply Nat.eq_of_testBit_eq
  intro j
  rw [andn_bits (n := n) (Nat.lt_of_le_of_lt (andn_le _ _) hl) hn (by omega), andn_bits hl hn (by omega), del_bit, del_bit, Nat.testBit_two_pow_sub_one, Nat.testBit_two_pow]
  by_cases c : j < a
  · rw [decide_eq_true (show j < a + 1 by omega), hF j c]; simp
  · rw [h j (by omega)]
    by_cases d : j = a
    · subst d; simp
    · rw [decide_eq_false (show ¬ j < a + 1 by omega), decide_eq_false d]
      by_cases e : j = b
      · subst e; simp
      · rw [decide_eq_false e, decide_eq_false (fun h => e h.symm)]
theorem best_not {A : Nat → Nat} {n s i : Nat} (h0 : s ≠ 0) (hl : low s = i) (h3 : ∀ j, j < n → ((del s i &&& A i).testBit j && decide (1 + best A n (del (del s i) j) = best A n s)) = false) : best A n s = best A n (del s i) := by
  rcases best_case A n h0 with h | ⟨k, h1, h2, h4⟩
  · rw [hl] at h; exact h
  · rw [hl] at h2 h4
    have := h3 k h1
    rw [h2, decide_eq_true (by omega)] at this
    cases this
theorem refLargest_rets {X : Caller} (hX : Xfr X) (L : List Int) (hL : shopB L = true) (s : Value) (g : GH) (hs : SlR g s (ints L)) :
    Rets Tryd.prog X 20 [s] g (fun v g' lo => g.next ≤ lo ∧ g'.ok ∧ Kept g g' ∧ ∃ o, v = .tuple #[o, .int .i64 0] ∧ OwnQ g' o 2 (lrg (setF L) L.length (allN L.length)).length (cellsP (lrg (setF L) L.length (allN L.length))) 56 g.next) := by
  obtain ⟨hL1, hL10, hA⟩ := shop_ok hL
  have hl := hs.len
  rw [ints_len] at hl
  have hish := refIsShop_rets hX L (by omega) s g hs
  rw [hL] at hish
  have hN1024 : 2 ^ L.length ≤ 1024 := Nat.pow_le_pow_right (by decide) hL10
  have hsh := shl_i (k := L.length) (by omega)
  have hal := all_lt L.length
  have hall : allN L.length = 2 ^ L.length - 1 := rfl
  have hmost := fun (G : GH) (hk : Kept g G) left (h : left < 2 ^ L.length) => most_rets hX L hL s left h G (hs.kept hk)
  have hdel := fun s k (h : s < 2 ^ L.length) => del_lt (s := s) (k := k) (n := L.length) h
  have hrest := fun lf F a b (h : lf < 2 ^ L.length) => @rest_is lf F a b L.length h hL10
  have hz0 : ∀ F, F < 2 ^ L.length → (∀ j, j < L.length → F.testBit j = false) → F = 0 := fun F hF hFb => by
    apply Nat.eq_of_testBit_eq
    intro j
    rw [Nat.zero_testBit]
    rcases Nat.lt_or_ge j L.length with c | c
    · exact hFb j c
    · exact Nat.testBit_lt_two_pow (Nat.lt_of_lt_of_le hF (Nat.pow_le_pow_right (by decide) c))
  have hN0 := Nat.two_pow_pos L.length
  obtain ⟨N, hNe⟩ : ∃ N, 2 ^ L.length = N := ⟨_, rfl⟩
  rw [hNe] at hsh hN1024 hal hall hmost hdel hN0 hrest hz0 hA
  obtain ⟨A, hAe⟩ : ∃ A, setF L = A := ⟨_, rfl⟩
  rw [hAe] at hA hmost ⊢
  generalize allN L.length = all at *
  have hsub : (N : Int) - 1 = (all : Int) := by omega
  refine Rets.run hX.pres p20 (hX.free 20 (by decide) _ _) rfl fun ho => ?_
  simp +decide (disch := first | assumption | exact cellV_int _ _ | exact cellV_bool _ | omega | (simp only [GH.pn, GH.sn] <;> omega) | (with_reducible ((repeat (first | apply GH.ok_push | apply GH.ok_set)); assumption)) | ((try simp only [GH.push_hid, GH.set_hid]); first | assumption | (refine GH.vis ?_ ?_ <;> first | assumption | ((try simp only [GH.pn, GH.sn]) <;> omega)))) only [go_sem, ↓reduceIte, Nat.reduceEqDiff, Nat.reduceAdd, Int.reduceToNat, Int.reduceAdd, Int.reduceNeg, Int.reduceSub, Int.reduceMul, Int.reduceLT, Int.reduceLE, Int.reduceEq, ↓GH.gp_eq, ↓GH.gp_ne, ↓GH.gs_eq, ↓GH.gs_ne, GH.push_next, GH.set_next]
  refine CallD.calm hish ?_
  rintro v g1 hx1 rfl
  have hn1 := hx1.next
  have hk1 : Kept g g1 := hx1.kept
  have hok1 := hx1.ok ho
  simp +decide (disch := first | assumption | exact cellV_int _ _ | exact cellV_bool _ | omega | (simp only [GH.pn, GH.sn] <;> omega) | (with_reducible ((repeat (first | apply GH.ok_push | apply GH.ok_set)); assumption)) | ((try simp only [GH.push_hid, GH.set_hid]); first | assumption | (refine GH.vis ?_ ?_ <;> first | assumption | ((try simp only [GH.pn, GH.sn]) <;> omega)))) only [go_sem, ↓reduceIte, Nat.reduceEqDiff, Nat.reduceAdd, Int.reduceToNat, Int.reduceAdd, Int.reduceNeg, Int.reduceSub, Int.reduceMul, Int.reduceLT, Int.reduceLE, Int.reduceEq, ↓GH.gp_eq, ↓GH.gp_ne, ↓GH.gs_eq, ↓GH.gs_ne, GH.push_next, GH.set_next, hl, hsh, hsub]
  refine CallD.calm (hmost g1 hk1 all hal) ?_
  rintro v g2 hx2 rfl
  have hn2 := hx2.next
  have hk2 : Kept g g2 := hk1.ext hx2
  have hok2 := hx2.ok hok1
  simp +decide (disch := first | assumption | exact cellV_int _ _ | exact cellV_bool _ | omega | (simp only [GH.pn, GH.sn] <;> omega) | (with_reducible ((repeat (first | apply GH.ok_push | apply GH.ok_set)); assumption)) | ((try simp only [GH.push_hid, GH.set_hid]); first | assumption | (refine GH.vis ?_ ?_ <;> first | assumption | ((try simp only [GH.pn, GH.sn]) <;> omega)))) only [go_sem, ↓reduceIte, Nat.reduceEqDiff, Nat.reduceAdd, Int.reduceToNat, Int.reduceAdd, Int.reduceNeg, Int.reduceSub, Int.reduceMul, Int.reduceLT, Int.reduceLE, Int.reduceEq, ↓GH.gp_eq, ↓GH.gp_ne, ↓GH.gs_eq, ↓GH.gs_ne, GH.push_next, GH.set_next]
  refine Wk.loops (fun m e g' lo => g.next ≤ lo ∧ Kept g2 g' ∧ ∃ a lf F P o, a + m = L.length ∧ (ev e (.s 0) = s ∧ ev e (.s 4) = .int .i64 (L.length : Int) ∧ ev e (.s 5) = .int .i64 (lf : Nat) ∧ ev e (.s 6) = .int .i64 (best A L.length F : Nat) ∧ ev e (.s 7) = o ∧ ev e (.s 8) = .int .i64 (a : Nat)) ∧ lf < N ∧ F < N ∧ (∀ j, a ≤ j → lf.testBit j = F.testBit j) ∧ (∀ j, j < a → F.testBit j = false) ∧ P ++ lrg A L.length F = lrg A L.length all ∧ OwnQ g' o 2 P.length (cellsP P) 56 g2.next)
    (fun e g' lo => g.next ≤ lo ∧ Kept g2 g' ∧ ∃ o, ev e (.s 7) = o ∧ OwnQ g' o 2 (lrg A L.length all).length (cellsP (lrg A L.length all)) 56 g2.next) (n := L.length) ?_ ?_ ?_
  · exact ⟨by omega, Kept.refl _, 0, all, all, [], _, by omega, (by simp +decide (disch := first | assumption | (apply GH.ok_push; assumption) | exact cellV_int _ _ | exact cellV_bool _ | omega) only [go_sem, ↓reduceIte, Nat.reduceEqDiff, Nat.reduceAdd, Int.reduceToNat]; first | done | exact rfl), hal, hal, fun j hj => rfl, fun j hj => by omega, rfl, OwnQ.nil⟩
  · rintro e g' lo hog hlg ⟨hlo, hk, o, he, hown⟩
    simp +decide (disch := first | assumption | exact cellV_int _ _ | exact cellV_bool _ | omega | (simp only [GH.pn, GH.sn] <;> omega) | (with_reducible ((repeat (first | apply GH.ok_push | apply GH.ok_set)); assumption)) | ((try simp only [GH.push_hid, GH.set_hid]); first | assumption | (refine GH.vis ?_ ?_ <;> first | assumption | ((try simp only [GH.pn, GH.sn]) <;> omega)))) only [go_sem, ↓reduceIte, Nat.reduceEqDiff, Nat.reduceAdd, Int.reduceToNat, Int.reduceAdd, Int.reduceNeg, Int.reduceSub, Int.reduceMul, Int.reduceLT, Int.reduceLE, Int.reduceEq, ↓GH.gp_eq, ↓GH.gp_ne, ↓GH.gs_eq, ↓GH.gs_ne, GH.push_next, GH.set_next, he]
    intro hx0
    exact ⟨hlo, hog, hk2.trans hk, _, rfl, ownQ_low hown (by omega)⟩
  · rintro m e g' lo ho' hl' ih out ⟨hlo, hk, a, lf, F, P, o, hi, he, hlf, hF, hlF, hFb, hP, hown⟩
    have hkn := hk.next
    by_cases ca : a < L.length
    case neg =>
      have ca' : ¬ (a : Int) < L.length := by omega
      simp +decide (disch := first | assumption | exact cellV_int _ _ | exact cellV_bool _ | omega | (simp only [GH.pn, GH.sn] <;> omega) | (with_reducible ((repeat (first | apply GH.ok_push | apply GH.ok_set)); assumption)) | ((try simp only [GH.push_hid, GH.set_hid]); first | assumption | (refine GH.vis ?_ ?_ <;> first | assumption | ((try simp only [GH.pn, GH.sn]) <;> omega)))) only [go_sem, ↓reduceIte, Nat.reduceEqDiff, Nat.reduceAdd, Int.reduceToNat, Int.reduceAdd, Int.reduceNeg, Int.reduceSub, Int.reduceMul, Int.reduceLT, Int.reduceLE, Int.reduceEq, ↓GH.gp_eq, ↓GH.gp_ne, ↓GH.gs_eq, ↓GH.gs_ne, GH.push_next, GH.set_next, he, ca']
      have : a = L.length := by omega
      subst this
      rw [hz0 F hF hFb, lrg_zero, List.append_nil] at hP
      rw [hP] at hown
      exact out _ _ _ ⟨hlo, hk, o, (by simp +decide (disch := first | assumption | (apply GH.ok_push; assumption) | exact cellV_int _ _ | exact cellV_bool _ | omega) only [go_sem, ↓reduceIte, Nat.reduceEqDiff, Nat.reduceAdd, Int.reduceToNat, he]; first | done | exact rfl), hown⟩
    have ca' : (a : Int) < L.length := by omega
    have na : ¬ (a : Int) < 0 := by omega
    have hPl : P.length ≤ 1024 := by
      have h1 := congrArg List.length hP
      rw [List.length_append, lrg_len, lrg_len] at h1
      have := best_small A L.length all
      omega
    obtain ⟨R, hR⟩ : ∃ R, del F a = R := ⟨_, rfl⟩
    have hdb := del_bit F a
    rw [hR] at hdb
    have hRb : ∀ j, j < a + 1 → R.testBit j = false := fun j hj => by
      rw [hdb]
      rcases Nat.lt_succ_iff_lt_or_eq.1 hj with c | c
      · rw [hFb j c]; rfl
      · rw [c]; simp
    have hRN : R < N := by rw [← hR]; exact hdel _ _ hF
    simp +decide (disch := first | assumption | exact cellV_int _ _ | exact cellV_bool _ | omega | (simp only [GH.pn, GH.sn] <;> omega) | (with_reducible ((repeat (first | apply GH.ok_push | apply GH.ok_set)); assumption)) | ((try simp only [GH.push_hid, GH.set_hid]); first | assumption | (refine GH.vis ?_ ?_ <;> first | assumption | ((try simp only [GH.pn, GH.sn]) <;> omega)))) only [go_sem, ↓reduceIte, Nat.reduceEqDiff, Nat.reduceAdd, Int.reduceToNat, Int.reduceAdd, Int.reduceNeg, Int.reduceSub, Int.reduceMul, Int.reduceLT, Int.reduceLE, Int.reduceEq, ↓GH.gp_eq, ↓GH.gp_ne, ↓GH.gs_eq, ↓GH.gs_ne, GH.push_next, GH.set_next, he, ca']
    -- searching, or done
    refine Wk.loops (fun m' e' g' lo' => g.next ≤ lo' ∧ Kept g2 g' ∧ ∃ (b lf' F' : Nat) (P' : List (Nat × Nat)) (o' : Value), b + m' = L.length + 1 ∧ a < b ∧ (ev e' (.s 0) = s ∧ ev e' (.s 4) = .int .i64 (L.length : Int) ∧ ev e' (.s 5) = .int .i64 (lf' : Nat) ∧ ev e' (.s 6) = .int .i64 (best A L.length F' : Nat) ∧ ev e' (.s 7) = o' ∧ ev e' (.s 8) = .int .i64 (a : Nat) ∧ ev e' (.s 9) = .int .i64 (b : Nat)) ∧ OwnQ g' o' 2 P'.length (cellsP P') 56 g2.next ∧
        ((lf' = lf ∧ F' = F ∧ P' = P ∧ F.testBit a = true ∧ ∀ j, j < b → ((R &&& A a).testBit j && decide (1 + best A L.length (del R j) = best A L.length F)) = false) ∨ (lf' < N ∧ F' < N ∧ lf'.testBit a = false ∧ (∀ j, a ≤ j → lf'.testBit j = F'.testBit j) ∧ (∀ j, j < a + 1 → F'.testBit j = false) ∧ P' ++ lrg A L.length F' = lrg A L.length all)))
      (fun e' g' lo' => g.next ≤ lo' ∧ Kept g2 g' ∧ ∃ (lf' F' : Nat) (P' : List (Nat × Nat)) (o' : Value), (ev e' (.s 0) = s ∧ ev e' (.s 4) = .int .i64 (L.length : Int) ∧ ev e' (.s 5) = .int .i64 (lf' : Nat) ∧ ev e' (.s 6) = .int .i64 (best A L.length F' : Nat) ∧ ev e' (.s 7) = o' ∧ ev e' (.s 8) = .int .i64 (a : Nat)) ∧ OwnQ g' o' 2 P'.length (cellsP P') 56 g2.next ∧ lf' < N ∧ F' < N ∧ (∀ j, a + 1 ≤ j → lf'.testBit j = F'.testBit j) ∧ (∀ j, j < a + 1 → F'.testBit j = false) ∧ P' ++ lrg A L.length F' = lrg A L.length all) (n := L.length - a) ?_ ?_ ?_
    · refine ⟨hlo, hk, a + 1, lf, F, P, o, by omega, by omega, (by simp +decide (disch := first | assumption | (apply GH.ok_push; assumption) | exact cellV_int _ _ | exact cellV_bool _ | omega) only [go_sem, ↓reduceIte, Nat.reduceEqDiff, Nat.reduceAdd, Int.reduceToNat, he]; first | done | exact rfl), hown, ?_⟩
      cases cF : F.testBit a with
      | true =>
        refine .inl ⟨rfl, rfl, rfl, rfl, fun j hj => ?_⟩
        rw [Nat.testBit_and, hRb j hj]; rfl
      | false =>
        refine .inr ⟨hlf, hF, by rw [hlF a (Nat.le_refl _), cF], hlF, fun j hj => ?_, hP⟩
        rcases Nat.lt_succ_iff_lt_or_eq.1 hj with c | c
        · exact hFb j c
        · rw [c]; exact cF
    · rintro e' g' lo' - - ⟨hlo', hk', lf', F', P', o', he', hown', q1, q2, q3, q4, q5⟩
      simp +decide (disch := first | assumption | exact cellV_int _ _ | exact cellV_bool _ | omega | (simp only [GH.pn, GH.sn] <;> omega) | (with_reducible ((repeat (first | apply GH.ok_push | apply GH.ok_set)); assumption)) | ((try simp only [GH.push_hid, GH.set_hid]); first | assumption | (refine GH.vis ?_ ?_ <;> first | assumption | ((try simp only [GH.pn, GH.sn]) <;> omega)))) only [go_sem, ↓reduceIte, Nat.reduceEqDiff, Nat.reduceAdd, Int.reduceToNat, Int.reduceAdd, Int.reduceNeg, Int.reduceSub, Int.reduceMul, Int.reduceLT, Int.reduceLE, Int.reduceEq, ↓GH.gp_eq, ↓GH.gp_ne, ↓GH.gs_eq, ↓GH.gs_ne, GH.push_next, GH.set_next, he']
      exact ih (m - 1) _ _ _ (by omega) ⟨hlo', hk', a + 1, lf', F', P', o', by omega, (by simp +decide (disch := first | assumption | (apply GH.ok_push; assumption) | exact cellV_int _ _ | exact cellV_bool _ | omega) only [go_sem, ↓reduceIte, Nat.reduceEqDiff, Nat.reduceAdd, Int.reduceToNat, he']; first | done | exact rfl), q1, q2, q3, q4, q5, hown'⟩
    · rintro m' e' g' lo' ho'' hl'' ih' out' ⟨hlo', hk', b, lf', F', P', o', hbm, hab, he', hown', hst⟩
      have hkn' := hk'.next
      rcases hst with ⟨rfl, rfl, rfl, cF, hno⟩ | ⟨q1, q2, q3, q4, q5, q6⟩
      · have hlow : low F' = a := low_is cF hFb
        have hF0 : F' ≠ 0 := by rintro rfl; simp at cF
        by_cases cb : b < L.length
        case neg =>
          have cb' : ¬ (b : Int) < L.length := by omega
          simp +decide (disch := first | assumption | exact cellV_int _ _ | exact cellV_bool _ | omega | (simp only [GH.pn, GH.sn] <;> omega) | (with_reducible ((repeat (first | apply GH.ok_push | apply GH.ok_set)); assumption)) | ((try simp only [GH.push_hid, GH.set_hid]); first | assumption | (refine GH.vis ?_ ?_ <;> first | assumption | ((try simp only [GH.pn, GH.sn]) <;> omega)))) only [go_sem, ↓reduceIte, Nat.reduceEqDiff, Nat.reduceAdd, Int.reduceToNat, Int.reduceAdd, Int.reduceNeg, Int.reduceSub, Int.reduceMul, Int.reduceLT, Int.reduceLE, Int.reduceEq, ↓GH.gp_eq, ↓GH.gp_ne, ↓GH.gs_eq, ↓GH.gs_ne, GH.push_next, GH.set_next, he', cb']
          have hno' : ∀ j, j < L.length → ((R &&& A a).testBit j && decide (1 + best A L.length (del R j) = best A L.length F')) = false := fun j hj => hno j (by omega)
          have hpn := pick_not (A := A) (n := L.length) (s := F') hlow (by rw [hR]; exact hno')
          have hbn := best_not (A := A) (n := L.length) hF0 hlow (by rw [hR]; exact hno')
          rw [hR] at hbn
          rw [hbn] at he'
          refine out' _ _ _ ⟨hlo', hk', lf', R, P', o', (by simp +decide (disch := first | assumption | (apply GH.ok_push; assumption) | exact cellV_int _ _ | exact cellV_bool _ | omega) only [go_sem, ↓reduceIte, Nat.reduceEqDiff, Nat.reduceAdd, Int.reduceToNat, he']; first | done | exact rfl), hown', hlf, hRN, fun j hj => ?_, hRb, ?_⟩
          · rw [hlF j (by omega), hdb, decide_eq_false (show ¬ j = a by omega)]; simp
          · rw [lrg_none hF0 hpn, hlow, hR] at hP
            exact hP
        have cb' : (b : Int) < L.length := by omega
        have nb : ¬ (b : Int) < 0 := by omega
        have u1 := shr_fact ((lf' : Nat) : Int) a (by omega)
        have u2 := rem_nat lf' a
        rw [hlF a (Nat.le_refl _), cF] at u2
        have u2' : ((lf' : Int) / 2 ^ a).tmod 2 = 1 := u2
        obtain ⟨j2, o2, hj2, hq1, hq2⟩ := ((hs.kept hk2).kept hk').ptr (ints_get (D := L) (i := a) ca)
        have hq1 := hq1 (a : Int) rfl
        have hAa := hA a ca
        rw [hAa.1] at hq2
        have hAl := hAa.2.1
        have hand := and_i (a := A a) (b := lf') (by omega) (by omega)
        have r1 := shr_fact ((A a &&& lf' : Nat) : Int) b (by omega)
        have r2 := rem_nat (A a &&& lf') b
        have hbit : (A a &&& lf').testBit b = (R &&& A a).testBit b := by
          rw [Nat.testBit_and, Nat.testBit_and, hdb, hlF b (by omega), decide_eq_false (show ¬ b = a by omega), Bool.not_false, Bool.and_true, Bool.and_comm]
        rw [hbit] at r2
        cases cc : (R &&& A a).testBit b with
        | false =>
          rw [cc] at r2
          have r2' : (((A a &&& lf' : Nat) : Int) / 2 ^ b).tmod 2 = 0 := r2
          simp +decide (disch := first | assumption | exact cellV_int _ _ | exact cellV_bool _ | omega | (simp only [GH.pn, GH.sn] <;> omega) | (with_reducible ((repeat (first | apply GH.ok_push | apply GH.ok_set)); assumption)) | ((try simp only [GH.push_hid, GH.set_hid]); first | assumption | (refine GH.vis ?_ ?_ <;> first | assumption | ((try simp only [GH.pn, GH.sn]) <;> omega)))) only [go_sem, ↓reduceIte, Nat.reduceEqDiff, Nat.reduceAdd, Int.reduceToNat, Int.reduceAdd, Int.reduceNeg, Int.reduceSub, Int.reduceMul, Int.reduceLT, Int.reduceLE, Int.reduceEq, ↓GH.gp_eq, ↓GH.gp_ne, ↓GH.gs_eq, ↓GH.gs_ne, GH.push_next, GH.set_next, he', cb', ib_shr na, u1, u2', hq1, hq2, hand, ib_shr nb, r1, r2']
          refine ih' (m' - 1) _ _ _ (by omega) ⟨hlo', hk', b + 1, lf', F', P', o', by omega, by omega, (by simp +decide (disch := first | assumption | (apply GH.ok_push; assumption) | exact cellV_int _ _ | exact cellV_bool _ | omega) only [go_sem, ↓reduceIte, Nat.reduceEqDiff, Nat.reduceAdd, Int.reduceToNat, he']; first | done | exact rfl), hown', .inl ⟨rfl, rfl, rfl, cF, fun j hj => ?_⟩⟩
          rcases Nat.lt_succ_iff_lt_or_eq.1 hj with c | c
          · exact hno j c
          · rw [c, cc]; rfl
        | true =>
        rw [cc] at r2
        have r2' : (((A a &&& lf' : Nat) : Int) / 2 ^ b).tmod 2 = 1 := r2
        have hre := hrest lf' F' a b hlf ca cb hlF hFb
        rw [hR] at hre
        have hDN := hdel R b hRN
        have hDb := del_bit R b
        have v1 : intB .shl .i64 1 ((a : Int) + 1) = some (.int .i64 ((2 ^ (a + 1) : Nat) : Int)) := shl_i (k := a + 1) (by omega)
        have v2 := two_lt (k := a + 1) (by omega)
        have v3 := shl_i (k := b) (by omega)
        have v4 := two_lt (k := b) (by omega)
        have v5 := Nat.two_pow_pos (a + 1)
        obtain ⟨ta, hta⟩ : ∃ ta, 2 ^ (a + 1) = ta := ⟨_, rfl⟩
        obtain ⟨tb, htb⟩ : ∃ tb, 2 ^ b = tb := ⟨_, rfl⟩
        rw [hta] at v1 v2 v5 hre
        rw [htb] at v3 v4 hre
        obtain ⟨tm, htm⟩ : ∃ tm, ta - 1 = tm := ⟨_, rfl⟩
        rw [htm] at hre
        have v6 : (ta : Int) - 1 = (tm : Int) := by omega
        have w1 := andn_i (a := lf') (b := tm) (by omega) (by omega)
        have hle1 := andn_le lf' tm
        have w2 := andn_i (a := andn lf' tm) (b := tb) (by omega) (by omega)
        rw [hre] at w2
        generalize andn lf' tm = lt1 at *
        have hno1 := fun (c : ((R &&& A a).testBit b && decide (1 + best A L.length (del R b) = best A L.length F')) = false) (j : Nat) (hj : j < b + 1) => (Nat.lt_succ_iff_lt_or_eq.1 hj).elim (hno j) (fun h => (h ▸ c : ((R &&& A a).testBit j && decide (1 + best A L.length (del R j) = best A L.length F')) = false))
        have hpick := fun (c : 1 + best A L.length (del R b) = best A L.length F') => pick_is (A := A) (n := L.length) (s := F') (i := a) hlow cb (by rw [hR]; exact cc) (by rw [hR]; exact c) (by rw [hR]; exact hno)
        rw [cc] at hno1
        have hDRb : ∀ j, j < a + 1 → (del R b).testBit j = false := fun j hj => by rw [hDb, hRb j hj]; rfl
        obtain ⟨D, hD⟩ : ∃ D, del R b = D := ⟨_, rfl⟩
        rw [hD] at w2 hno1 hpick hDN hDRb
        have hms := fun (G : GH) (hk : Kept g G) => hmost G hk D hDN
        have hbs := best_small A L.length D
        have hbs2 := best_small A L.length F'
        simp +decide (disch := first | assumption | exact cellV_int _ _ | exact cellV_bool _ | omega | (simp only [GH.pn, GH.sn] <;> omega) | (with_reducible ((repeat (first | apply GH.ok_push | apply GH.ok_set)); assumption)) | ((try simp only [GH.push_hid, GH.set_hid]); first | assumption | (refine GH.vis ?_ ?_ <;> first | assumption | ((try simp only [GH.pn, GH.sn]) <;> omega)))) only [go_sem, ↓reduceIte, Nat.reduceEqDiff, Nat.reduceAdd, Int.reduceToNat, Int.reduceAdd, Int.reduceNeg, Int.reduceSub, Int.reduceMul, Int.reduceLT, Int.reduceLE, Int.reduceEq, ↓GH.gp_eq, ↓GH.gp_ne, ↓GH.gs_eq, ↓GH.gs_ne, GH.push_next, GH.set_next, he', cb', ib_shr na, u1, u2', hq1, hq2, hand, ib_shr nb, r1, r2', v1, v3, v6, w1, w2]
        refine CallD.calm (hms g' (hk2.trans hk')) ?_
        rintro v g5 hx5 rfl
        have hn5 := hx5.next
        have hk5 := hk'.ext hx5
        have hok5 := hx5.ok ho''
        have hown5 := hown'.kept hx5.kept
        by_cases ce : 1 + best A L.length D = best A L.length F'
        · have hls := lrg_some hF0 (hpick ce)
          rw [hlow, hR, hD] at hls
          have ce' : (best A L.length D : Int) = (best A L.length F' : Int) - 1 := by omega
          have ce2 : (best A L.length F' : Int) - 1 = (best A L.length D : Int) := by omega
          generalize best A L.length F' = bf at *
          simp +decide (disch := first | assumption | exact cellV_int _ _ | exact cellV_bool _ | omega | (simp only [GH.pn, GH.sn] <;> omega) | (with_reducible ((repeat (first | apply GH.ok_push | apply GH.ok_set)); assumption)) | ((try simp only [GH.push_hid, GH.set_hid]); first | assumption | (refine GH.vis ?_ ?_ <;> first | assumption | ((try simp only [GH.pn, GH.sn]) <;> omega)))) only [go_sem, ↓reduceIte, Nat.reduceEqDiff, Nat.reduceAdd, Int.reduceToNat, Int.reduceAdd, Int.reduceNeg, Int.reduceSub, Int.reduceMul, Int.reduceLT, Int.reduceLE, Int.reduceEq, ↓GH.gp_eq, ↓GH.gp_ne, ↓GH.gs_eq, ↓GH.gs_ne, GH.push_next, GH.set_next, he', ce2, bslQ]
          refine AppD.ownQ (lw := g.next) (new := [.int .i64 (a : Nat), .int .i64 (b : Nat)]) (tx := 56) (hown5.kept ((Kept.refl g5).push hok5 _)) (by simp (disch := first | assumption | exact cellV_int _ _ | exact cellV_bool _ | omega | (simp only [GH.pn, GH.sn] <;> omega) | (with_reducible ((repeat (first | apply GH.ok_push | apply GH.ok_set)); assumption)) | ((try simp only [GH.push_hid, GH.set_hid]); first | assumption | (refine GH.vis ?_ ?_ <;> first | assumption | ((try simp only [GH.pn, GH.sn]) <;> omega)))) only [↓GH.gp_eq, ↓GH.gp_ne, ↓GH.gs_eq, ↓GH.gs_ne, GH.push_next, GH.set_next]; first | done | exact rfl) rfl (by omega) (by omega) rfl (by omega) (by simp only [GH.push_next]; omega) hlo' (by omega) (GH.ok_push hok5) (fun s' g7 lo7 sp wr hgr hlo7 => ?_)
          have hk7 : Kept g2 g7 := (hk5.push hok5 _).grewQ hgr (Nat.le_refl _)
          have hn7 := hgr.next
          have hok7 := hgr.ok
          have hown7 := hgr.own
          simp +decide (disch := first | assumption | exact cellV_int _ _ | exact cellV_bool _ | omega | (simp only [GH.pn, GH.sn] <;> omega) | (with_reducible ((repeat (first | apply GH.ok_push | apply GH.ok_set)); assumption)) | ((try simp only [GH.push_hid, GH.set_hid]); first | assumption | (refine GH.vis ?_ ?_ <;> first | assumption | ((try simp only [GH.pn, GH.sn]) <;> omega)))) only [go_sem, ↓reduceIte, Nat.reduceEqDiff, Nat.reduceAdd, Int.reduceToNat, Int.reduceAdd, Int.reduceNeg, Int.reduceSub, Int.reduceMul, Int.reduceLT, Int.reduceLE, Int.reduceEq, ↓GH.gp_eq, ↓GH.gp_ne, ↓GH.gs_eq, ↓GH.gs_ne, GH.push_next, GH.set_next, he', ce2]
          refine ih' (m' - 1) _ _ _ (by omega) ⟨by omega, hk7, b + 1, D, D, P' ++ [(a, b)], s', by omega, by omega, (by simp +decide (disch := first | assumption | (apply GH.ok_push; assumption) | exact cellV_int _ _ | exact cellV_bool _ | omega) only [go_sem, ↓reduceIte, Nat.reduceEqDiff, Nat.reduceAdd, Int.reduceToNat, he']; first | done | exact rfl), ?_, .inr ⟨hDN, hDN, hDRb a (by omega), fun j hj => rfl, hDRb, ?_⟩⟩
          · rw [cellsP_snoc, List.length_append]
            exact hown7
          · rw [← hP, hls]; simp
        · have ce' : ¬ (best A L.length D : Int) = (best A L.length F' : Int) - 1 := by omega
          have hno2 := hno1 (by rw [decide_eq_false ce]; rfl)
          generalize best A L.length D = bd at *
          simp +decide (disch := first | assumption | exact cellV_int _ _ | exact cellV_bool _ | omega | (simp only [GH.pn, GH.sn] <;> omega) | (with_reducible ((repeat (first | apply GH.ok_push | apply GH.ok_set)); assumption)) | ((try simp only [GH.push_hid, GH.set_hid]); first | assumption | (refine GH.vis ?_ ?_ <;> first | assumption | ((try simp only [GH.pn, GH.sn]) <;> omega)))) only [go_sem, ↓reduceIte, Nat.reduceEqDiff, Nat.reduceAdd, Int.reduceToNat, Int.reduceAdd, Int.reduceNeg, Int.reduceSub, Int.reduceMul, Int.reduceLT, Int.reduceLE, Int.reduceEq, ↓GH.gp_eq, ↓GH.gp_ne, ↓GH.gs_eq, ↓GH.gs_ne, GH.push_next, GH.set_next, he', ce']
          exact ih' (m' - 1) _ _ _ (by omega) ⟨hlo', hk5, b + 1, lf', F', P', o', by omega, by omega, (by simp +decide (disch := first | assumption | (apply GH.ok_push; assumption) | exact cellV_int _ _ | exact cellV_bool _ | omega) only [go_sem, ↓reduceIte, Nat.reduceEqDiff, Nat.reduceAdd, Int.reduceToNat, he']; first | done | exact rfl), hown5, .inl ⟨rfl, rfl, rfl, cF, hno2⟩⟩
      · by_cases cb : b < L.length
        case neg =>
          have cb' : ¬ (b : Int) < L.length := by omega
          simp +decide (disch := first | assumption | exact cellV_int _ _ | exact cellV_bool _ | omega | (simp only [GH.pn, GH.sn] <;> omega) | (with_reducible ((repeat (first | apply GH.ok_push | apply GH.ok_set)); assumption)) | ((try simp only [GH.push_hid, GH.set_hid]); first | assumption | (refine GH.vis ?_ ?_ <;> first | assumption | ((try simp only [GH.pn, GH.sn]) <;> omega)))) only [go_sem, ↓reduceIte, Nat.reduceEqDiff, Nat.reduceAdd, Int.reduceToNat, Int.reduceAdd, Int.reduceNeg, Int.reduceSub, Int.reduceMul, Int.reduceLT, Int.reduceLE, Int.reduceEq, ↓GH.gp_eq, ↓GH.gp_ne, ↓GH.gs_eq, ↓GH.gs_ne, GH.push_next, GH.set_next, he', cb']
          exact out' _ _ _ ⟨hlo', hk', lf', F', P', o', (by simp +decide (disch := first | assumption | (apply GH.ok_push; assumption) | exact cellV_int _ _ | exact cellV_bool _ | omega) only [go_sem, ↓reduceIte, Nat.reduceEqDiff, Nat.reduceAdd, Int.reduceToNat, he']; first | done | exact rfl), hown', q1, q2, fun j hj => q4 j (by omega), q5, q6⟩
        have cb' : (b : Int) < L.length := by omega
        have u1 := shr_fact ((lf' : Nat) : Int) a (by omega)
        have u2 := rem_nat lf' a
        rw [q3] at u2
        have u2' : ((lf' : Int) / 2 ^ a).tmod 2 = 0 := u2
        simp +decide (disch := first | assumption | exact cellV_int _ _ | exact cellV_bool _ | omega | (simp only [GH.pn, GH.sn] <;> omega) | (with_reducible ((repeat (first | apply GH.ok_push | apply GH.ok_set)); assumption)) | ((try simp only [GH.push_hid, GH.set_hid]); first | assumption | (refine GH.vis ?_ ?_ <;> first | assumption | ((try simp only [GH.pn, GH.sn]) <;> omega)))) only [go_sem, ↓reduceIte, Nat.reduceEqDiff, Nat.reduceAdd, Int.reduceToNat, Int.reduceAdd, Int.reduceNeg, Int.reduceSub, Int.reduceMul, Int.reduceLT, Int.reduceLE, Int.reduceEq, ↓GH.gp_eq, ↓GH.gp_ne, ↓GH.gs_eq, ↓GH.gs_ne, GH.push_next, GH.set_next, he', cb', ib_shr na, u1, u2']
        exact out' _ _ _ ⟨hlo', hk', lf', F', P', o', (by simp +decide (disch := first | assumption | (apply GH.ok_push; assumption) | exact cellV_int _ _ | exact cellV_bool _ | omega) only [go_sem, ↓reduceIte, Nat.reduceEqDiff, Nat.reduceAdd, Int.reduceToNat, he']; first | done | exact rfl), hown', q1, q2, fun j hj => q4 j (by omega), q5, q6⟩
end Go.Proofs.YtnpapnpedcbfnaaDoor
set_option maxRecDepth 100000
set_option maxHeartbeats 4000000
set_option linter.unusedSimpArgs false
set_option linter.unusedVariables false
set_option linter.unusedSectionVars false
namespace Go.Ds
section
variable {P : Program} {X : Caller} {Q : Out → Env → GH → Nat → Prop} {dd : Option P3} {l : List PI} {k : Nat} {sp : List (Nat × (Nat × Nat))} {wr : List Nat} {ks : List Fr} {e : Env} {g : GH} {lo : Nat}
/-- Elements of several cells are copied to new memory, by appending them to an empty slice. -/
theorem AppD.copyQ {t t' : TypeId} {sz b j m : Nat} {xv : Value} {new : List Value} (hj : g.get j = cellsOb [] t') (hjn : j < g.next) (hz0 : 0 < sz) (hst : strOk sz xv = true) (hnew : SlQ g xv sz m new)
    (hsz : m * (b + 1) ≤ 1073741824) (ho : g.ok)
    (h : ∀ s' g' sp wr, Kept g g' → g'.ok → SlQ g' s' sz m new → Wk P X Q (.R l (k + 1) sp wr ks (putE e dd s') g' lo)) : AppD P X Q t sz b (.slice (some ⟨j, 0, Option.none⟩) 0 0) xv [] dd l k sp wr ks e g lo := fun y z hy hz => by
  have hlen : lenF xv = some m := by
    rcases hnew with ⟨_, ⟨rfl, p, c, rfl⟩ | ⟨j, off, cap, ob, rfl, _⟩⟩ <;> rfl
  by_cases hm : m = 0
  · subst hm
    have hn0 : new = [] := List.eq_nil_of_length_eq_zero (by rw [hnew.1]; omega)
    refine GR.same rfl (Hp.mk (bnd 0) fun call => ?_) (h (.slice (some ⟨j, 0, Option.none⟩) 0 0) g _ _ (Kept.refl g) ho ?_).R
    · simp only [runH, hy, hz, hst, cond_true, appF, hlen, Nat.add_zero]
      rw [mul_succ_le (n := 0) (by omega)]
      rfl
    · exact ⟨by rw [hn0]; simp, .inl ⟨rfl, _, _, rfl⟩⟩
  have hnl : new.length = m * sz := hnew.1
  have hpos : 0 < m := by omega
  have hfirst : ∀ lo, firstF (g.at lo) sz m xv = some new := by
    intro lo
    rcases hnew with ⟨_, ⟨rfl, _⟩ | ⟨j, off, cap, ob, rfl, h2, h3, h4, h5, h6⟩⟩
    · omega
    · simp only [firstF]
      have := SlR.readN (cap := cap) (lo := lo) h3 h4 h5 h6 (i := 0) (n := new.length) (by omega)
      rw [Nat.add_zero, List.drop_zero, List.take_length] at this
      rw [← hnl]
      exact this
  have hne : new ≠ [] := by
    intro e
    rw [e] at hnl
    have : 0 < m * sz := Nat.mul_pos hpos hz0
    simp at hnl
    omega
  have hb0 : Nat.beq m 0 = false := by rw [beq_d, decide_eq_false_iff_not]; omega
  let G : GH := ⟨T5.set g.tr g.next (slackOb new t g.next), Nat.succ g.next, g.hid, T5.set g.fams g.next [(g.next, new.length)]⟩
  have hget : ∀ i, G.get i = if g.next = i then slackOb new t g.next else g.get i := GH.get_push ho (slackOb new t g.next)
  refine GR.more (v := .slice (some ⟨g.next, 0, Option.none⟩) m (OPEN + sz)) (g' := G) rfl (Hp.mk (bnd (g.next + 1)) fun call => ?_) rfl (Nat.le_succ _) (h _ G _ _ ?_ ?_ ?_).R
  · simp only [runH, hy, hz, hst, cond_true, appF, hlen, Nat.zero_add]
    rw [mul_succ_le hsz, hb0, hfirst]
    simp only [cond_false]
    rw [show (g.at g.next).get j = cellsOb [] t' from hj]
    unfold cellsOb
    simp only [Nat.zero_mul]
    rw [show Nat.beq 0 (OPEN + sz) = false by rw [beq_d, decide_eq_false_iff_not]; unfold OPEN; omega, show Nat.blt 0 OPEN = true by rw [blt_d]; decide, show Nat.ble m 0 = false by rw [ble_d, decide_eq_false_iff_not]; omega]
    simp only [cond_false, Bool.not_true]
    rw [show dropN 0 ([] : List Value) = [] from rfl, show takeN 0 ([] : List Value) = some [] from rfl]
    simp only [appNew, List.nil_append]
    have : Nat.blt (g.at g.next).next (@LIM (bnd (g.next + 1))) = true := by rw [Nat.blt_eq]; exact Nat.lt_succ_self _
    rw [this]
    simp only [cond_true, lenN_length]
    rfl
  · refine ⟨Nat.le_succ _, fun i hi => by rw [hget, if_neg (by omega)], fun f hf => ?_⟩
    show (T5.set g.fams g.next [(g.next, new.length)]) f = _
    rw [T5.get_set', if_neg (by omega)]
  · exact fun i hi => ho i (Nat.le_trans (Nat.le_succ _) hi)
  · exact ⟨hnl, .inr ⟨g.next, 0, _, _, rfl, Nat.lt_succ_self _, by rw [hget, if_pos rfl], .inl rfl, by simp [slackOb], by simp [slackOb]⟩⟩
end
end Go.Ds
set_option maxRecDepth 100000
set_option maxHeartbeats 4000000
set_option linter.unusedSimpArgs false
set_option linter.unusedVariables false
namespace Go.Proofs.YtnpapnpedcbfnaaDoor
open Go.Ds Go.Vs
theorem refIsMatching_rets {X : Caller} (hX : Xfr X) (L : List Int) (hL : L.length ≤ 40) (s p : Value) (P : List (Int × Int)) (hP : P.length ≤ 1000) (g : GH) (hs : SlR g s (ints L)) (hp : SlQ g p 2 P.length (cellsI P)) :
    Rets Tryd.prog X 23 [s, p] g (fun v g' lo => g.next ≤ lo ∧ v = if shopB L = true then .tuple #[.bool (matI L P), .int .i64 0] else .tuple #[.bool false, eArg]) := by
  refine Rets.run hX.pres p23 (hX.free 23 (by decide) _ _) rfl fun ho => ?_
  simp +decide (disch := first | assumption | exact cellV_int _ _ | exact cellV_bool _ | omega | (simp only [GH.pn, GH.sn] <;> omega) | (with_reducible ((repeat (first | apply GH.ok_push | apply GH.ok_set)); assumption)) | ((try simp only [GH.push_hid, GH.set_hid]); first | assumption | (refine GH.vis ?_ ?_ <;> first | assumption | ((try simp only [GH.pn, GH.sn]) <;> omega)))) only [go_sem, ↓reduceIte, Nat.reduceEqDiff, Nat.reduceAdd, Int.reduceToNat, Int.reduceAdd, Int.reduceNeg, Int.reduceSub, Int.reduceMul, Int.reduceLT, Int.reduceLE, Int.reduceEq, ↓GH.gp_eq, ↓GH.gp_ne, ↓GH.gs_eq, ↓GH.gs_ne, GH.push_next, GH.set_next]
  refine CallD.calm (refIsShop_rets hX L hL s g hs) ?_
  rintro v g1 hx1 rfl
  have hn1 := hx1.next
  cases hz : shopB L with
  | false =>
    simp +decide (disch := first | assumption | exact cellV_int _ _ | exact cellV_bool _ | omega | (simp only [GH.pn, GH.sn] <;> omega) | (with_reducible ((repeat (first | apply GH.ok_push | apply GH.ok_set)); assumption)) | ((try simp only [GH.push_hid, GH.set_hid]); first | assumption | (refine GH.vis ?_ ?_ <;> first | assumption | ((try simp only [GH.pn, GH.sn]) <;> omega)))) only [go_sem, ↓reduceIte, Nat.reduceEqDiff, Nat.reduceAdd, Int.reduceToNat, Int.reduceAdd, Int.reduceNeg, Int.reduceSub, Int.reduceMul, Int.reduceLT, Int.reduceLE, Int.reduceEq, ↓GH.gp_eq, ↓GH.gp_ne, ↓GH.gs_eq, ↓GH.gs_ne, GH.push_next, GH.set_next]
    intro hx0
    exact ⟨by omega, rfl⟩
  | true =>
    simp +decide (disch := first | assumption | exact cellV_int _ _ | exact cellV_bool _ | omega | (simp only [GH.pn, GH.sn] <;> omega) | (with_reducible ((repeat (first | apply GH.ok_push | apply GH.ok_set)); assumption)) | ((try simp only [GH.push_hid, GH.set_hid]); first | assumption | (refine GH.vis ?_ ?_ <;> first | assumption | ((try simp only [GH.pn, GH.sn]) <;> omega)))) only [go_sem, ↓reduceIte, Nat.reduceEqDiff, Nat.reduceAdd, Int.reduceToNat, Int.reduceAdd, Int.reduceNeg, Int.reduceSub, Int.reduceMul, Int.reduceLT, Int.reduceLE, Int.reduceEq, ↓GH.gp_eq, ↓GH.gp_ne, ↓GH.gs_eq, ↓GH.gs_ne, GH.push_next, GH.set_next]
    refine CallD.calm (refMatching_rets hX L hz s p P hP g1 (hs.ext hx1) (hp.kept hx1.kept)) ?_
    rintro v g2 hx2 rfl
    have hn2 := hx2.next
    simp +decide (disch := first | assumption | exact cellV_int _ _ | exact cellV_bool _ | omega | (simp only [GH.pn, GH.sn] <;> omega) | (with_reducible ((repeat (first | apply GH.ok_push | apply GH.ok_set)); assumption)) | ((try simp only [GH.push_hid, GH.set_hid]); first | assumption | (refine GH.vis ?_ ?_ <;> first | assumption | ((try simp only [GH.pn, GH.sn]) <;> omega)))) only [go_sem, ↓reduceIte, Nat.reduceEqDiff, Nat.reduceAdd, Int.reduceToNat, Int.reduceAdd, Int.reduceNeg, Int.reduceSub, Int.reduceMul, Int.reduceLT, Int.reduceLE, Int.reduceEq, ↓GH.gp_eq, ↓GH.gp_ne, ↓GH.gs_eq, ↓GH.gs_ne, GH.push_next, GH.set_next]
    intro hx0
    exact ⟨by omega, rfl⟩
/-- Two lists with the same numbers. -/
theorem same_rets {X : Caller} (hX : Xfr X) (D : List Int) (hD : D.length < 1000000) (s t : Value) (g : GH) (hs : SlR g s (ints D)) (ht : SlR g t (ints D)) :
    Rets Tryd.prog X 24 [s, t] g (fun v g' lo => g.next ≤ lo ∧ v = .bool true) := by
  have hl := hs.len
  have hl2 := ht.len
  rw [ints_len] at hl hl2
  refine Rets.run hX.pres p24 (hX.free 24 (by decide) _ _) rfl fun ho => ?_
  simp +decide (disch := first | assumption | exact cellV_int _ _ | exact cellV_bool _ | omega | (simp only [GH.pn, GH.sn] <;> omega) | (with_reducible ((repeat (first | apply GH.ok_push | apply GH.ok_set)); assumption)) | ((try simp only [GH.push_hid, GH.set_hid]); first | assumption | (refine GH.vis ?_ ?_ <;> first | assumption | ((try simp only [GH.pn, GH.sn]) <;> omega)))) only [go_sem, ↓reduceIte, Nat.reduceEqDiff, Nat.reduceAdd, Int.reduceToNat, Int.reduceAdd, Int.reduceNeg, Int.reduceSub, Int.reduceMul, Int.reduceLT, Int.reduceLE, Int.reduceEq, ↓GH.gp_eq, ↓GH.gp_ne, ↓GH.gs_eq, ↓GH.gs_ne, GH.push_next, GH.set_next, hl, hl2]
  refine Wk.loops (fun m e g' lo => g' = g ∧ g.next ≤ lo ∧ ∃ i : Nat, i + m = D.length ∧ (ev e (.s 0) = s ∧ ev e (.s 1) = t ∧ ev e (.s 5) = .int .i64 (i : Nat)))
    (fun e g' lo => g.next ≤ lo) (n := D.length) ?_ ?_ ?_
  · exact ⟨rfl, by omega, 0, by omega, (by simp +decide (disch := first | assumption | (apply GH.ok_push; assumption) | exact cellV_int _ _ | exact cellV_bool _ | omega) only [go_sem, ↓reduceIte, Nat.reduceEqDiff, Nat.reduceAdd, Int.reduceToNat]; first | done | exact rfl)⟩
  · rintro e g' lo - - hlo
    simp +decide (disch := first | assumption | exact cellV_int _ _ | exact cellV_bool _ | omega | (simp only [GH.pn, GH.sn] <;> omega) | (with_reducible ((repeat (first | apply GH.ok_push | apply GH.ok_set)); assumption)) | ((try simp only [GH.push_hid, GH.set_hid]); first | assumption | (refine GH.vis ?_ ?_ <;> first | assumption | ((try simp only [GH.pn, GH.sn]) <;> omega)))) only [go_sem, ↓reduceIte, Nat.reduceEqDiff, Nat.reduceAdd, Int.reduceToNat, Int.reduceAdd, Int.reduceNeg, Int.reduceSub, Int.reduceMul, Int.reduceLT, Int.reduceLE, Int.reduceEq, ↓GH.gp_eq, ↓GH.gp_ne, ↓GH.gs_eq, ↓GH.gs_ne, GH.push_next, GH.set_next]
    intro hx0
    exact ⟨hlo, rfl⟩
  · rintro m e g' lo ho' hl' ih out ⟨rfl, hlo, i, hi, he⟩
    by_cases ci : i < D.length
    case neg =>
      have ci' : ¬ (i : Int) < D.length := by omega
      simp +decide (disch := first | assumption | exact cellV_int _ _ | exact cellV_bool _ | omega | (simp only [GH.pn, GH.sn] <;> omega) | (with_reducible ((repeat (first | apply GH.ok_push | apply GH.ok_set)); assumption)) | ((try simp only [GH.push_hid, GH.set_hid]); first | assumption | (refine GH.vis ?_ ?_ <;> first | assumption | ((try simp only [GH.pn, GH.sn]) <;> omega)))) only [go_sem, ↓reduceIte, Nat.reduceEqDiff, Nat.reduceAdd, Int.reduceToNat, Int.reduceAdd, Int.reduceNeg, Int.reduceSub, Int.reduceMul, Int.reduceLT, Int.reduceLE, Int.reduceEq, ↓GH.gp_eq, ↓GH.gp_ne, ↓GH.gs_eq, ↓GH.gs_ne, GH.push_next, GH.set_next, he, hl, ci']
      exact out _ _ _ hlo
    have ci' : (i : Int) < D.length := by omega
    obtain ⟨j, a, hj, hp1, hp2⟩ := hs.ptr (ints_get (D := D) (i := i) ci)
    have hp1 := hp1 (i : Int) rfl
    obtain ⟨j2, a2, hj2, hq1, hq2⟩ := ht.ptr (ints_get (D := D) (i := i) ci)
    have hq1 := hq1 (i : Int) rfl
    generalize D.getD i 0 = x at *
    simp +decide (disch := first | assumption | exact cellV_int _ _ | exact cellV_bool _ | omega | (simp only [GH.pn, GH.sn] <;> omega) | (with_reducible ((repeat (first | apply GH.ok_push | apply GH.ok_set)); assumption)) | ((try simp only [GH.push_hid, GH.set_hid]); first | assumption | (refine GH.vis ?_ ?_ <;> first | assumption | ((try simp only [GH.pn, GH.sn]) <;> omega)))) only [go_sem, ↓reduceIte, Nat.reduceEqDiff, Nat.reduceAdd, Int.reduceToNat, Int.reduceAdd, Int.reduceNeg, Int.reduceSub, Int.reduceMul, Int.reduceLT, Int.reduceLE, Int.reduceEq, ↓GH.gp_eq, ↓GH.gp_ne, ↓GH.gs_eq, ↓GH.gs_ne, GH.push_next, GH.set_next, he, hl, ci', hp1, hp2, hq1, hq2]
    exact ih (m - 1) _ _ _ (by omega) ⟨rfl, hlo, i + 1, by omega, (by simp +decide (disch := first | assumption | (apply GH.ok_push; assumption) | exact cellV_int _ _ | exact cellV_bool _ | omega) only [go_sem, ↓reduceIte, Nat.reduceEqDiff, Nat.reduceAdd, Int.reduceToNat, he]; first | done | exact rfl)⟩
/-- Two lists with the same pairs. -/
theorem pairs_rets {X : Caller} (hX : Xfr X) (D : List (Int × Int)) (hD : D.length < 1000000) (s t : Value) (g : GH) (hs : SlQ g s 2 D.length (cellsI D)) (ht : SlQ g t 2 D.length (cellsI D)) :
    Rets Tryd.prog X 21 [s, t] g (fun v g' lo => g.next ≤ lo ∧ v = .bool true) := by
  have hl := hs.len
  have hl2 := ht.len
  refine Rets.run hX.pres p21 (hX.free 21 (by decide) _ _) rfl fun ho => ?_
  simp +decide (disch := first | assumption | exact cellV_int _ _ | exact cellV_bool _ | omega | (simp only [GH.pn, GH.sn] <;> omega) | (with_reducible ((repeat (first | apply GH.ok_push | apply GH.ok_set)); assumption)) | ((try simp only [GH.push_hid, GH.set_hid]); first | assumption | (refine GH.vis ?_ ?_ <;> first | assumption | ((try simp only [GH.pn, GH.sn]) <;> omega)))) only [go_sem, ↓reduceIte, Nat.reduceEqDiff, Nat.reduceAdd, Int.reduceToNat, Int.reduceAdd, Int.reduceNeg, Int.reduceSub, Int.reduceMul, Int.reduceLT, Int.reduceLE, Int.reduceEq, ↓GH.gp_eq, ↓GH.gp_ne, ↓GH.gs_eq, ↓GH.gs_ne, GH.push_next, GH.set_next, hl, hl2]
  refine Wk.loops (fun m e g' lo => g' = g ∧ g.next ≤ lo ∧ ∃ i : Nat, i + m = D.length ∧ (ev e (.s 0) = s ∧ ev e (.s 1) = t ∧ ev e (.s 5) = .int .i64 (i : Nat)))
    (fun e g' lo => g.next ≤ lo) (n := D.length) ?_ ?_ ?_
  · exact ⟨rfl, by omega, 0, by omega, (by simp +decide (disch := first | assumption | (apply GH.ok_push; assumption) | exact cellV_int _ _ | exact cellV_bool _ | omega) only [go_sem, ↓reduceIte, Nat.reduceEqDiff, Nat.reduceAdd, Int.reduceToNat]; first | done | exact rfl)⟩
  · rintro e g' lo - - hlo
    simp +decide (disch := first | assumption | exact cellV_int _ _ | exact cellV_bool _ | omega | (simp only [GH.pn, GH.sn] <;> omega) | (with_reducible ((repeat (first | apply GH.ok_push | apply GH.ok_set)); assumption)) | ((try simp only [GH.push_hid, GH.set_hid]); first | assumption | (refine GH.vis ?_ ?_ <;> first | assumption | ((try simp only [GH.pn, GH.sn]) <;> omega)))) only [go_sem, ↓reduceIte, Nat.reduceEqDiff, Nat.reduceAdd, Int.reduceToNat, Int.reduceAdd, Int.reduceNeg, Int.reduceSub, Int.reduceMul, Int.reduceLT, Int.reduceLE, Int.reduceEq, ↓GH.gp_eq, ↓GH.gp_ne, ↓GH.gs_eq, ↓GH.gs_ne, GH.push_next, GH.set_next]
    intro hx0
    exact ⟨hlo, rfl⟩
  · rintro m e g' lo ho' hl' ih out ⟨rfl, hlo, i, hi, he⟩
    by_cases ci : i < D.length
    case neg =>
      have ci' : ¬ (i : Int) < D.length := by omega
      simp +decide (disch := first | assumption | exact cellV_int _ _ | exact cellV_bool _ | omega | (simp only [GH.pn, GH.sn] <;> omega) | (with_reducible ((repeat (first | apply GH.ok_push | apply GH.ok_set)); assumption)) | ((try simp only [GH.push_hid, GH.set_hid]); first | assumption | (refine GH.vis ?_ ?_ <;> first | assumption | ((try simp only [GH.pn, GH.sn]) <;> omega)))) only [go_sem, ↓reduceIte, Nat.reduceEqDiff, Nat.reduceAdd, Int.reduceToNat, Int.reduceAdd, Int.reduceNeg, Int.reduceSub, Int.reduceMul, Int.reduceLT, Int.reduceLE, Int.reduceEq, ↓GH.gp_eq, ↓GH.gp_ne, ↓GH.gs_eq, ↓GH.gs_ne, GH.push_next, GH.set_next, he, hl, ci']
      exact out _ _ _ hlo
    have ci' : (i : Int) < D.length := by omega
    obtain ⟨j, a, hj, hp1, hp2, hp3⟩ := hs.ptr ci
    have hp1 := hp1 (i : Int) rfl
    rw [cellsI_drop D i ci] at hp3
    obtain ⟨j2, a2, hj2, hq1, hq2, hq3⟩ := ht.ptr ci
    have hq1 := hq1 (i : Int) rfl
    rw [cellsI_drop D i ci] at hq3
    generalize D[i].1 = x at *
    generalize D[i].2 = y at *
    have hee : eqAF true 2 (.agg #[.int .i64 x, .int .i64 y]) (.agg #[.int .i64 x, .int .i64 y]) = some (.bool false) := by
      rw [eqA_ne]; simp
    simp +decide (disch := first | assumption | exact cellV_int _ _ | exact cellV_bool _ | omega | (simp only [GH.pn, GH.sn] <;> omega) | (with_reducible ((repeat (first | apply GH.ok_push | apply GH.ok_set)); assumption)) | ((try simp only [GH.push_hid, GH.set_hid]); first | assumption | (refine GH.vis ?_ ?_ <;> first | assumption | ((try simp only [GH.pn, GH.sn]) <;> omega)))) only [go_sem, ↓reduceIte, Nat.reduceEqDiff, Nat.reduceAdd, Int.reduceToNat, Int.reduceAdd, Int.reduceNeg, Int.reduceSub, Int.reduceMul, Int.reduceLT, Int.reduceLE, Int.reduceEq, ↓GH.gp_eq, ↓GH.gp_ne, ↓GH.gs_eq, ↓GH.gs_ne, GH.push_next, GH.set_next, he, hl, ci', hp1, hp3, hq1, hq3, hee]
    exact ih (m - 1) _ _ _ (by omega) ⟨rfl, hlo, i + 1, by omega, (by simp +decide (disch := first | assumption | (apply GH.ok_push; assumption) | exact cellV_int _ _ | exact cellV_bool _ | omega) only [go_sem, ↓reduceIte, Nat.reduceEqDiff, Nat.reduceAdd, Int.reduceToNat, he]; first | done | exact rfl)⟩
end Go.Proofs.YtnpapnpedcbfnaaDoor
set_option maxRecDepth 100000
set_option maxHeartbeats 4000000
set_option linter.unusedSimpArgs false
set_option linter.unusedVariables false
namespace Go.Proofs.YtnpapnpedcbfnaaDoor
open Go.Ds Go.Vs
def lgD (L : List Int) : List (Int × Int) := if shopB L = true then toI (lrg (setF L) L.length (allN L.length)) else []
def lgE (L : List Int) : Int := if shopB L = true then 0 else 2
theorem lgD_len (L : List Int) : (lgD L).length ≤ 1024 := by
  unfold lgD
  split
  · rename_i h
    obtain ⟨hL1, hL10, hA⟩ := shop_ok h
    rw [toI, List.length_map, lrg_len]
    have h1 := best_small (setF L) L.length (allN L.length)
    have h2 := all_lt L.length
    have h3 : 2 ^ L.length ≤ 1024 := Nat.pow_le_pow_right (by decide) hL10
    omega
  · simp
theorem largest19 {X : Caller} (hX : Xok X) (L : List Int) (hL : L.length ≤ 40) (s : Value) (g : GH) (hT : HasTab g) (hs : SlR g s (ints L)) :
    Rets Tryd.prog X 19 [s] g (fun v g' lo => g.next ≤ lo ∧ Kept g g' ∧ ∃ o, v = .tuple #[o, .int .i64 (lgE L)] ∧ SlQ g' o 2 (lgD L).length (cellsI (lgD L))) := by
  cases hz : shopB L with
  | true =>
    refine (Largest_rets hX L hz s g hT hs).mono fun v g' lo _ ⟨h1, h2, h3, o, h4, h5⟩ => ⟨h1, h3, o, ?_, ?_⟩
    · rw [h4, lgE, if_pos hz]
    · rw [lgD, if_pos hz, cellsI_toI, toI, List.length_map]
      exact h5.read
  | false =>
    have hsh := IsShop_rets hX.toXfr L hL s g hs
    rw [hz] at hsh
    have he : lgE L = 2 := by rw [lgE, hz]; rfl
    have hd : lgD L = [] := by rw [lgD, hz]; rfl
    rw [he, hd]
    refine Rets.run hX.pres p19 (hX.free 19 (by decide) _ _) rfl fun ho => ?_
    simp +decide (disch := first | assumption | exact cellV_int _ _ | exact cellV_bool _ | omega | (simp only [GH.pn, GH.sn] <;> omega) | (with_reducible ((repeat (first | apply GH.ok_push | apply GH.ok_set)); assumption)) | ((try simp only [GH.push_hid, GH.set_hid]); first | assumption | (refine GH.vis ?_ ?_ <;> first | assumption | ((try simp only [GH.pn, GH.sn]) <;> omega)))) only [go_sem, ↓reduceIte, Nat.reduceEqDiff, Nat.reduceAdd, Int.reduceToNat, Int.reduceAdd, Int.reduceNeg, Int.reduceSub, Int.reduceMul, Int.reduceLT, Int.reduceLE, Int.reduceEq, ↓GH.gp_eq, ↓GH.gp_ne, ↓GH.gs_eq, ↓GH.gs_ne, GH.push_next, GH.set_next]
    refine CallD.calm hsh ?_
    rintro v g1 hx1 rfl
    have hn1 := hx1.next
    simp +decide (disch := first | assumption | exact cellV_int _ _ | exact cellV_bool _ | omega | (simp only [GH.pn, GH.sn] <;> omega) | (with_reducible ((repeat (first | apply GH.ok_push | apply GH.ok_set)); assumption)) | ((try simp only [GH.push_hid, GH.set_hid]); first | assumption | (refine GH.vis ?_ ?_ <;> first | assumption | ((try simp only [GH.pn, GH.sn]) <;> omega)))) only [go_sem, ↓reduceIte, Nat.reduceEqDiff, Nat.reduceAdd, Int.reduceToNat, Int.reduceAdd, Int.reduceNeg, Int.reduceSub, Int.reduceMul, Int.reduceLT, Int.reduceLE, Int.reduceEq, ↓GH.gp_eq, ↓GH.gp_ne, ↓GH.gs_eq, ↓GH.gs_ne, GH.push_next, GH.set_next]
    intro hx0
    exact ⟨by omega, hx1.kept, _, rfl, rfl, .inl ⟨rfl, _, _, rfl⟩⟩
theorem largest20 {X : Caller} (hX : Xfr X) (L : List Int) (hL : L.length ≤ 40) (s : Value) (g : GH) (hs : SlR g s (ints L)) :
    Rets Tryd.prog X 20 [s] g (fun v g' lo => g.next ≤ lo ∧ Kept g g' ∧ ∃ o, v = .tuple #[o, .int .i64 (lgE L)] ∧ SlQ g' o 2 (lgD L).length (cellsI (lgD L))) := by
  cases hz : shopB L with
  | true =>
    refine (refLargest_rets hX L hz s g hs).mono fun v g' lo _ ⟨h1, h2, h3, o, h4, h5⟩ => ⟨h1, h3, o, ?_, ?_⟩
    · rw [h4, lgE, if_pos hz]
    · rw [lgD, if_pos hz, cellsI_toI, toI, List.length_map]
      exact h5.read
  | false =>
    have hsh := refIsShop_rets hX L hL s g hs
    rw [hz] at hsh
    have he : lgE L = 2 := by rw [lgE, hz]; rfl
    have hd : lgD L = [] := by rw [lgD, hz]; rfl
    rw [he, hd]
    refine Rets.run hX.pres p20 (hX.free 20 (by decide) _ _) rfl fun ho => ?_
    simp +decide (disch := first | assumption | exact cellV_int _ _ | exact cellV_bool _ | omega | (simp only [GH.pn, GH.sn] <;> omega) | (with_reducible ((repeat (first | apply GH.ok_push | apply GH.ok_set)); assumption)) | ((try simp only [GH.push_hid, GH.set_hid]); first | assumption | (refine GH.vis ?_ ?_ <;> first | assumption | ((try simp only [GH.pn, GH.sn]) <;> omega)))) only [go_sem, ↓reduceIte, Nat.reduceEqDiff, Nat.reduceAdd, Int.reduceToNat, Int.reduceAdd, Int.reduceNeg, Int.reduceSub, Int.reduceMul, Int.reduceLT, Int.reduceLE, Int.reduceEq, ↓GH.gp_eq, ↓GH.gp_ne, ↓GH.gs_eq, ↓GH.gs_ne, GH.push_next, GH.set_next]
    refine CallD.calm hsh ?_
    rintro v g1 hx1 rfl
    have hn1 := hx1.next
    simp +decide (disch := first | assumption | exact cellV_int _ _ | exact cellV_bool _ | omega | (simp only [GH.pn, GH.sn] <;> omega) | (with_reducible ((repeat (first | apply GH.ok_push | apply GH.ok_set)); assumption)) | ((try simp only [GH.push_hid, GH.set_hid]); first | assumption | (refine GH.vis ?_ ?_ <;> first | assumption | ((try simp only [GH.pn, GH.sn]) <;> omega)))) only [go_sem, ↓reduceIte, Nat.reduceEqDiff, Nat.reduceAdd, Int.reduceToNat, Int.reduceAdd, Int.reduceNeg, Int.reduceSub, Int.reduceMul, Int.reduceLT, Int.reduceLE, Int.reduceEq, ↓GH.gp_eq, ↓GH.gp_ne, ↓GH.gs_eq, ↓GH.gs_ne, GH.push_next, GH.set_next]
    intro hx0
    exact ⟨by omega, hx1.kept, _, rfl, rfl, .inl ⟨rfl, _, _, rfl⟩⟩
theorem mtV_two (L : List Int) (P : List (Int × Int)) : ∃ a b, (if shopB L = true then Value.tuple #[.bool (matI L P), .int .i64 0] else .tuple #[.bool false, eArg]) = .tuple #[.bool a, .int .i64 b] := by
  split
  · exact ⟨_, _, rfl⟩
  · exact ⟨_, _, rfl⟩
theorem eqB_same (a : Bool) : (a == a) = true := by cases a <;> rfl
theorem strOk_q {g : GH} {s : Value} {sz m : Nat} {vs : List Value} (h : SlQ g s sz m vs) : strOk 2 s = true := by
  rcases h with ⟨_, ⟨rfl, p, c, rfl⟩ | ⟨j, off, cap, ob, rfl, _⟩⟩ <;> rfl
theorem matchingsLaw_rets {X : Caller} (hX : Xok X) (L : List Int) (s p : Value) (P : List (Int × Int)) (g : GH) (hT : HasTab g) (hs : SlR g s (ints L)) (hp : SlQ g p 2 P.length (cellsI P)) :
    Rets Tryd.prog X 3 [s, p] g (fun u g' lo => g.next ≤ lo ∧ u = .bool true) := by
  have hl := hs.len
  rw [ints_len] at hl
  have hlp := hp.len
  refine Rets.run hX.pres p3 (hX.free 3 (by decide) _ _) rfl fun ho => ?_
  simp +decide (disch := first | assumption | exact cellV_int _ _ | exact cellV_bool _ | omega | (simp only [GH.pn, GH.sn] <;> omega) | (with_reducible ((repeat (first | apply GH.ok_push | apply GH.ok_set)); assumption)) | ((try simp only [GH.push_hid, GH.set_hid]); first | assumption | (refine GH.vis ?_ ?_ <;> first | assumption | ((try simp only [GH.pn, GH.sn]) <;> omega)))) only [go_sem, ↓reduceIte, Nat.reduceEqDiff, Nat.reduceAdd, Int.reduceToNat, Int.reduceAdd, Int.reduceNeg, Int.reduceSub, Int.reduceMul, Int.reduceLT, Int.reduceLE, Int.reduceEq, ↓GH.gp_eq, ↓GH.gp_ne, ↓GH.gs_eq, ↓GH.gs_ne, GH.push_next, GH.set_next]
  refine CallD.calm (few_rets hX.toXfr s p _ _ hl hlp g) ?_
  rintro u g1 hx1 rfl
  have hn1 := hx1.next
  have hT1 := hT.ext hx1
  have hok1 := hx1.ok ho
  have hk1 : Kept g g1 := hx1.kept
  cases hf : (decide (L.length ≤ 40) && decide (P.length ≤ 40)) with
  | false =>
    simp +decide (disch := first | assumption | exact cellV_int _ _ | exact cellV_bool _ | omega | (simp only [GH.pn, GH.sn] <;> omega) | (with_reducible ((repeat (first | apply GH.ok_push | apply GH.ok_set)); assumption)) | ((try simp only [GH.push_hid, GH.set_hid]); first | assumption | (refine GH.vis ?_ ?_ <;> first | assumption | ((try simp only [GH.pn, GH.sn]) <;> omega)))) only [go_sem, ↓reduceIte, Nat.reduceEqDiff, Nat.reduceAdd, Int.reduceToNat, Int.reduceAdd, Int.reduceNeg, Int.reduceSub, Int.reduceMul, Int.reduceLT, Int.reduceLE, Int.reduceEq, ↓GH.gp_eq, ↓GH.gp_ne, ↓GH.gs_eq, ↓GH.gs_ne, GH.push_next, GH.set_next]
    refine CallD.calm (hX.alive g1 hT1) ?_
    rintro u g2 hx2 rfl
    have hn2 := hx2.next
    simp +decide (disch := first | assumption | exact cellV_int _ _ | exact cellV_bool _ | omega | (simp only [GH.pn, GH.sn] <;> omega) | (with_reducible ((repeat (first | apply GH.ok_push | apply GH.ok_set)); assumption)) | ((try simp only [GH.push_hid, GH.set_hid]); first | assumption | (refine GH.vis ?_ ?_ <;> first | assumption | ((try simp only [GH.pn, GH.sn]) <;> omega)))) only [go_sem, ↓reduceIte, Nat.reduceEqDiff, Nat.reduceAdd, Int.reduceToNat, Int.reduceAdd, Int.reduceNeg, Int.reduceSub, Int.reduceMul, Int.reduceLT, Int.reduceLE, Int.reduceEq, ↓GH.gp_eq, ↓GH.gp_ne, ↓GH.gs_eq, ↓GH.gs_ne, GH.push_next, GH.set_next]
    intro hx0
    exact ⟨by omega, rfl⟩
  | true =>
  rw [Bool.and_eq_true, decide_eq_true_eq, decide_eq_true_eq] at hf
  simp +decide (disch := first | assumption | exact cellV_int _ _ | exact cellV_bool _ | omega | (simp only [GH.pn, GH.sn] <;> omega) | (with_reducible ((repeat (first | apply GH.ok_push | apply GH.ok_set)); assumption)) | ((try simp only [GH.push_hid, GH.set_hid]); first | assumption | (refine GH.vis ?_ ?_ <;> first | assumption | ((try simp only [GH.pn, GH.sn]) <;> omega)))) only [go_sem, ↓reduceIte, Nat.reduceEqDiff, Nat.reduceAdd, Int.reduceToNat, Int.reduceAdd, Int.reduceNeg, Int.reduceSub, Int.reduceMul, Int.reduceLT, Int.reduceLE, Int.reduceEq, ↓GH.gp_eq, ↓GH.gp_ne, ↓GH.gs_eq, ↓GH.gs_ne, GH.push_next, GH.set_next]
  refine AppD.copy (vs := []) (cells := []) (new := ints L) (t' := 3) (by simp (disch := first | assumption | exact cellV_int _ _ | exact cellV_bool _ | omega | (simp only [GH.pn, GH.sn] <;> omega) | (with_reducible ((repeat (first | apply GH.ok_push | apply GH.ok_set)); assumption)) | ((try simp only [GH.push_hid, GH.set_hid]); first | assumption | (refine GH.vis ?_ ?_ <;> first | assumption | ((try simp only [GH.pn, GH.sn]) <;> omega)))) only [↓GH.gp_eq, ↓GH.gp_ne, ↓GH.gs_eq, ↓GH.gs_ne, GH.push_next, GH.set_next]; first | done | exact rfl) rfl (Nat.le_refl _) (Nat.lt_succ_self _) (hs.kept (hk1.push hok1 _)) (by rw [ints_len]; simp; omega) (GH.ok_push hok1) (fun o g2 sp wr hk2 hok2 hown => ?_)
  rw [List.nil_append] at hown
  have hkA : Kept g g2 := (hk1.push hok1 _).trans hk2
  simp +decide (disch := first | assumption | exact cellV_int _ _ | exact cellV_bool _ | omega | (simp only [GH.pn, GH.sn] <;> omega) | (with_reducible ((repeat (first | apply GH.ok_push | apply GH.ok_set)); assumption)) | ((try simp only [GH.push_hid, GH.set_hid]); first | assumption | (refine GH.vis ?_ ?_ <;> first | assumption | ((try simp only [GH.pn, GH.sn]) <;> omega)))) only [go_sem, ↓reduceIte, Nat.reduceEqDiff, Nat.reduceAdd, Int.reduceToNat, Int.reduceAdd, Int.reduceNeg, Int.reduceSub, Int.reduceMul, Int.reduceLT, Int.reduceLE, Int.reduceEq, ↓GH.gp_eq, ↓GH.gp_ne, ↓GH.gs_eq, ↓GH.gs_ne, GH.push_next, GH.set_next]
  refine AppD.copyQ (new := cellsI P) (m := P.length) (t' := 56) (by simp (disch := first | assumption | exact cellV_int _ _ | exact cellV_bool _ | omega | (simp only [GH.pn, GH.sn] <;> omega) | (with_reducible ((repeat (first | apply GH.ok_push | apply GH.ok_set)); assumption)) | ((try simp only [GH.push_hid, GH.set_hid]); first | assumption | (refine GH.vis ?_ ?_ <;> first | assumption | ((try simp only [GH.pn, GH.sn]) <;> omega)))) only [↓GH.gp_eq, ↓GH.gp_ne, ↓GH.gs_eq, ↓GH.gs_ne, GH.push_next, GH.set_next]; first | done | exact rfl) (Nat.lt_succ_self _) (by omega) (strOk_q hp) (hp.kept (hkA.push hok2 _)) (by omega) (GH.ok_push hok2) (fun q g3 sp wr hk3 hok3 hqw => ?_)
  have hkB : Kept g g3 := (hkA.push hok2 _).trans hk3
  have hown3 : SlR g3 o (ints L) := hown.kept (((Kept.refl g2).push hok2 _).trans hk3)
  have hnB := hkB.next
  have i1 := fun (G : GH) (hk : Kept g3 G) => IsShop_rets hX.toXfr L hf.1 o G (hown3.kept hk)
  have i2 := fun (G : GH) (hk : Kept g G) => refIsShop_rets hX.toXfr L hf.1 s G (hs.kept hk)
  have l1 := fun (G : GH) (hk : Kept g3 G) => largest19 hX L hf.1 o G (hT.kept (hkB.trans hk)) (hown3.kept hk)
  have l2 := fun (G : GH) (hk : Kept g G) => largest20 hX.toXfr L hf.1 s G (hs.kept hk)
  have m1 := fun (G : GH) (hk : Kept g3 G) => IsMatching_rets hX.toXfr L hf.1 o q P (by omega) G (hown3.kept hk) (hqw.kept hk)
  have m2 := fun (G : GH) (hk : Kept g G) => refIsMatching_rets hX.toXfr L hf.1 s p P (by omega) G (hs.kept hk) (hp.kept hk)
  obtain ⟨ma, mb, hab⟩ := mtV_two L P
  simp only [hab] at m1 m2
  have e1 := fun (G : GH) (hk : Kept g3 G) => same_rets hX.toXfr L (by omega) o s G (hown3.kept hk) (hs.kept (hkB.trans hk))
  have e2 := fun (G : GH) (hk : Kept g3 G) => pairs_rets hX.toXfr P (by omega) q p G (hqw.kept hk) (hp.kept (hkB.trans hk))
  have e3 := fun (G : GH) (a b : Value) => pairs_rets hX.toXfr (lgD L) (by have := lgD_len L; omega) a b G
  have hal := fun (G : GH) (hk : Kept g G) => hX.alive G (hT.kept hk)
  generalize lgD L = D at *
  generalize lgE L = E at *
  generalize shopB L = SB at *
  have hee : (!(SB == SB)) = false := by cases SB <;> rfl
  simp +decide (disch := first | assumption | exact cellV_int _ _ | exact cellV_bool _ | omega | (simp only [GH.pn, GH.sn] <;> omega) | (with_reducible ((repeat (first | apply GH.ok_push | apply GH.ok_set)); assumption)) | ((try simp only [GH.push_hid, GH.set_hid]); first | assumption | (refine GH.vis ?_ ?_ <;> first | assumption | ((try simp only [GH.pn, GH.sn]) <;> omega)))) only [go_sem, ↓reduceIte, Nat.reduceEqDiff, Nat.reduceAdd, Int.reduceToNat, Int.reduceAdd, Int.reduceNeg, Int.reduceSub, Int.reduceMul, Int.reduceLT, Int.reduceLE, Int.reduceEq, ↓GH.gp_eq, ↓GH.gp_ne, ↓GH.gs_eq, ↓GH.gs_ne, GH.push_next, GH.set_next]
  refine CallD.calm (i1 g3 (Kept.refl g3)) ?_
  rintro u g4 hx4 rfl
  have hn4 := hx4.next
  have hk4 : Kept g3 g4 := hx4.kept
  simp +decide (disch := first | assumption | exact cellV_int _ _ | exact cellV_bool _ | omega | (simp only [GH.pn, GH.sn] <;> omega) | (with_reducible ((repeat (first | apply GH.ok_push | apply GH.ok_set)); assumption)) | ((try simp only [GH.push_hid, GH.set_hid]); first | assumption | (refine GH.vis ?_ ?_ <;> first | assumption | ((try simp only [GH.pn, GH.sn]) <;> omega)))) only [go_sem, ↓reduceIte, Nat.reduceEqDiff, Nat.reduceAdd, Int.reduceToNat, Int.reduceAdd, Int.reduceNeg, Int.reduceSub, Int.reduceMul, Int.reduceLT, Int.reduceLE, Int.reduceEq, ↓GH.gp_eq, ↓GH.gp_ne, ↓GH.gs_eq, ↓GH.gs_ne, GH.push_next, GH.set_next]
  refine CallD.calm (i2 g4 (hkB.trans hk4)) ?_
  rintro u g5 hx5 rfl
  have hn5 := hx5.next
  have hk5 : Kept g3 g5 := hk4.ext hx5
  simp +decide (disch := first | assumption | exact cellV_int _ _ | exact cellV_bool _ | omega | (simp only [GH.pn, GH.sn] <;> omega) | (with_reducible ((repeat (first | apply GH.ok_push | apply GH.ok_set)); assumption)) | ((try simp only [GH.push_hid, GH.set_hid]); first | assumption | (refine GH.vis ?_ ?_ <;> first | assumption | ((try simp only [GH.pn, GH.sn]) <;> omega)))) only [go_sem, ↓reduceIte, Nat.reduceEqDiff, Nat.reduceAdd, Int.reduceToNat, Int.reduceAdd, Int.reduceNeg, Int.reduceSub, Int.reduceMul, Int.reduceLT, Int.reduceLE, Int.reduceEq, ↓GH.gp_eq, ↓GH.gp_ne, ↓GH.gs_eq, ↓GH.gs_ne, GH.push_next, GH.set_next, eqB_same, hee]
  refine CallD.calm (l1 g5 hk5) ?_
  rintro u g6 hx6 ⟨hk6', o1, rfl, ho1⟩
  have hn6 := hx6.next
  have hk6 : Kept g3 g6 := hk5.ext hx6
  simp +decide (disch := first | assumption | exact cellV_int _ _ | exact cellV_bool _ | omega | (simp only [GH.pn, GH.sn] <;> omega) | (with_reducible ((repeat (first | apply GH.ok_push | apply GH.ok_set)); assumption)) | ((try simp only [GH.push_hid, GH.set_hid]); first | assumption | (refine GH.vis ?_ ?_ <;> first | assumption | ((try simp only [GH.pn, GH.sn]) <;> omega)))) only [go_sem, ↓reduceIte, Nat.reduceEqDiff, Nat.reduceAdd, Int.reduceToNat, Int.reduceAdd, Int.reduceNeg, Int.reduceSub, Int.reduceMul, Int.reduceLT, Int.reduceLE, Int.reduceEq, ↓GH.gp_eq, ↓GH.gp_ne, ↓GH.gs_eq, ↓GH.gs_ne, GH.push_next, GH.set_next, ext20, ext21]
  refine CallD.calm (l2 g6 (hkB.trans hk6)) ?_
  rintro u g7 hx7 ⟨hk7', o2, rfl, ho2⟩
  have hn7 := hx7.next
  have hk7 : Kept g3 g7 := hk6.ext hx7
  simp +decide (disch := first | assumption | exact cellV_int _ _ | exact cellV_bool _ | omega | (simp only [GH.pn, GH.sn] <;> omega) | (with_reducible ((repeat (first | apply GH.ok_push | apply GH.ok_set)); assumption)) | ((try simp only [GH.push_hid, GH.set_hid]); first | assumption | (refine GH.vis ?_ ?_ <;> first | assumption | ((try simp only [GH.pn, GH.sn]) <;> omega)))) only [go_sem, ↓reduceIte, Nat.reduceEqDiff, Nat.reduceAdd, Int.reduceToNat, Int.reduceAdd, Int.reduceNeg, Int.reduceSub, Int.reduceMul, Int.reduceLT, Int.reduceLE, Int.reduceEq, ↓GH.gp_eq, ↓GH.gp_ne, ↓GH.gs_eq, ↓GH.gs_ne, GH.push_next, GH.set_next, ext20, ext21]
  refine CallD.calm (e3 g7 o1 o2 (ho1.kept hk7') ho2) ?_
  rintro u g8 hx8 rfl
  have hn8 := hx8.next
  have hk8 : Kept g3 g8 := hk7.ext hx8
  simp +decide (disch := first | assumption | exact cellV_int _ _ | exact cellV_bool _ | omega | (simp only [GH.pn, GH.sn] <;> omega) | (with_reducible ((repeat (first | apply GH.ok_push | apply GH.ok_set)); assumption)) | ((try simp only [GH.push_hid, GH.set_hid]); first | assumption | (refine GH.vis ?_ ?_ <;> first | assumption | ((try simp only [GH.pn, GH.sn]) <;> omega)))) only [go_sem, ↓reduceIte, Nat.reduceEqDiff, Nat.reduceAdd, Int.reduceToNat, Int.reduceAdd, Int.reduceNeg, Int.reduceSub, Int.reduceMul, Int.reduceLT, Int.reduceLE, Int.reduceEq, ↓GH.gp_eq, ↓GH.gp_ne, ↓GH.gs_eq, ↓GH.gs_ne, GH.push_next, GH.set_next]
  refine CallD.calm (m1 g8 hk8) ?_
  rintro u g9 hx9 rfl
  have hn9 := hx9.next
  have hk9 : Kept g3 g9 := hk8.ext hx9
  simp +decide (disch := first | assumption | exact cellV_int _ _ | exact cellV_bool _ | omega | (simp only [GH.pn, GH.sn] <;> omega) | (with_reducible ((repeat (first | apply GH.ok_push | apply GH.ok_set)); assumption)) | ((try simp only [GH.push_hid, GH.set_hid]); first | assumption | (refine GH.vis ?_ ?_ <;> first | assumption | ((try simp only [GH.pn, GH.sn]) <;> omega)))) only [go_sem, ↓reduceIte, Nat.reduceEqDiff, Nat.reduceAdd, Int.reduceToNat, Int.reduceAdd, Int.reduceNeg, Int.reduceSub, Int.reduceMul, Int.reduceLT, Int.reduceLE, Int.reduceEq, ↓GH.gp_eq, ↓GH.gp_ne, ↓GH.gs_eq, ↓GH.gs_ne, GH.push_next, GH.set_next, ext20, ext21]
  refine CallD.calm (m2 g9 (hkB.trans hk9)) ?_
  rintro u g10 hx10 rfl
  have hn10 := hx10.next
  have hk10 : Kept g3 g10 := hk9.ext hx10
  simp +decide (disch := first | assumption | exact cellV_int _ _ | exact cellV_bool _ | omega | (simp only [GH.pn, GH.sn] <;> omega) | (with_reducible ((repeat (first | apply GH.ok_push | apply GH.ok_set)); assumption)) | ((try simp only [GH.push_hid, GH.set_hid]); first | assumption | (refine GH.vis ?_ ?_ <;> first | assumption | ((try simp only [GH.pn, GH.sn]) <;> omega)))) only [go_sem, ↓reduceIte, Nat.reduceEqDiff, Nat.reduceAdd, Int.reduceToNat, Int.reduceAdd, Int.reduceNeg, Int.reduceSub, Int.reduceMul, Int.reduceLT, Int.reduceLE, Int.reduceEq, ↓GH.gp_eq, ↓GH.gp_ne, ↓GH.gs_eq, ↓GH.gs_ne, GH.push_next, GH.set_next, ext20, ext21, eqB_same]
  refine CallD.calm (e1 g10 hk10) ?_
  rintro u g11 hx11 rfl
  have hn11 := hx11.next
  have hk11 : Kept g3 g11 := hk10.ext hx11
  simp +decide (disch := first | assumption | exact cellV_int _ _ | exact cellV_bool _ | omega | (simp only [GH.pn, GH.sn] <;> omega) | (with_reducible ((repeat (first | apply GH.ok_push | apply GH.ok_set)); assumption)) | ((try simp only [GH.push_hid, GH.set_hid]); first | assumption | (refine GH.vis ?_ ?_ <;> first | assumption | ((try simp only [GH.pn, GH.sn]) <;> omega)))) only [go_sem, ↓reduceIte, Nat.reduceEqDiff, Nat.reduceAdd, Int.reduceToNat, Int.reduceAdd, Int.reduceNeg, Int.reduceSub, Int.reduceMul, Int.reduceLT, Int.reduceLE, Int.reduceEq, ↓GH.gp_eq, ↓GH.gp_ne, ↓GH.gs_eq, ↓GH.gs_ne, GH.push_next, GH.set_next]
  refine CallD.calm (e2 g11 hk11) ?_
  rintro u g12 hx12 rfl
  have hn12 := hx12.next
  have hk12 : Kept g3 g12 := hk11.ext hx12
  simp +decide (disch := first | assumption | exact cellV_int _ _ | exact cellV_bool _ | omega | (simp only [GH.pn, GH.sn] <;> omega) | (with_reducible ((repeat (first | apply GH.ok_push | apply GH.ok_set)); assumption)) | ((try simp only [GH.push_hid, GH.set_hid]); first | assumption | (refine GH.vis ?_ ?_ <;> first | assumption | ((try simp only [GH.pn, GH.sn]) <;> omega)))) only [go_sem, ↓reduceIte, Nat.reduceEqDiff, Nat.reduceAdd, Int.reduceToNat, Int.reduceAdd, Int.reduceNeg, Int.reduceSub, Int.reduceMul, Int.reduceLT, Int.reduceLE, Int.reduceEq, ↓GH.gp_eq, ↓GH.gp_ne, ↓GH.gs_eq, ↓GH.gs_ne, GH.push_next, GH.set_next]
  refine CallD.calm (hal g12 (hkB.trans hk12)) ?_
  rintro u g13 hx13 rfl
  have hn13 := hx13.next
  simp +decide (disch := first | assumption | exact cellV_int _ _ | exact cellV_bool _ | omega | (simp only [GH.pn, GH.sn] <;> omega) | (with_reducible ((repeat (first | apply GH.ok_push | apply GH.ok_set)); assumption)) | ((try simp only [GH.push_hid, GH.set_hid]); first | assumption | (refine GH.vis ?_ ?_ <;> first | assumption | ((try simp only [GH.pn, GH.sn]) <;> omega)))) only [go_sem, ↓reduceIte, Nat.reduceEqDiff, Nat.reduceAdd, Int.reduceToNat, Int.reduceAdd, Int.reduceNeg, Int.reduceSub, Int.reduceMul, Int.reduceLT, Int.reduceLE, Int.reduceEq, ↓GH.gp_eq, ↓GH.gp_ne, ↓GH.gs_eq, ↓GH.gs_ne, GH.push_next, GH.set_next]
  intro hx0
  exact ⟨by omega, rfl⟩
end Go.Proofs.YtnpapnpedcbfnaaDoor
