import Derived.Test.YtngmaccaldhjcaaDoorJ4
import Derived.Test.YtngmaccaldhjcaaDoorJ3
set_option linter.all false
set_option linter.unusedSimpArgs false
set_option linter.unnecessarySimpa false
set_option linter.unusedVariables false
set_option linter.unusedSectionVars false
set_option maxRecDepth 100000
set_option maxHeartbeats 4000000
set_option linter.unusedSimpArgs false
set_option linter.unusedVariables false
namespace Go.Proofs.YtngmaccaldhjcaaDoor
open Go.Ds
theorem conditions2_rets {X : Caller} (hX : Xok X) (a b c e : Int) (ha : Sm 20 a) (hb : Sm 20 b) (hc : Sm 20 c) (he : Sm 20 e) (g : GH) :
    Rets Tryd.prog X 76 [mkV 2 a b 0 c e 0 0 0 0, .int .i64 3] g (fun v g' lo => g.next ≤ lo ∧ Kept g g' ∧ OwnS g' v 3 2 [.int .i64 (c - a), .int .i64 (e - b), .int .i64 0, .int .i64 0, .int .i64 0, .int .i64 1] 67 g.next) := by
  unfold Sm at ha hb hc he
  have w0 := fun G => has_rets hX 3 0 (by decide) (by decide) G
  have w1 := fun G => has_rets hX 3 1 (by decide) (by decide) G
  have w2 := fun G => has_rets hX 3 2 (by decide) (by decide) G
  rw [show (3 : Nat).testBit 0 = true from rfl] at w0
  rw [show (3 : Nat).testBit 1 = true from rfl] at w1
  rw [show (3 : Nat).testBit 2 = false from rfl] at w2
  have wm := fun G => minus_rets hX c e 0 a b 0 ⟨by unfold Sm; omega, by unfold Sm; omega, by unfold Sm; omega⟩ ⟨by unfold Sm; omega, by unfold Sm; omega, by unfold Sm; omega⟩ G
  have wa := fun G => alone_rets hX 2 (by decide) G
  rw [show vcV (if 2 = 0 then 1 else 0) (if 2 = 1 then 1 else 0) (if 2 = 2 then 1 else 0) = vcV 0 0 1 from rfl] at wa
  unfold mkV
  unfold vcV at wm wa
  refine Rets.run hX.pres p76 (hX.free 76 (by decide) _ _) rfl fun ho => ?_
  simp +decide (disch := first | assumption | exact cellV_int _ _ | exact cellV_bool _ | omega | (simp only [GH.pn, GH.sn] <;> omega) | (with_reducible ((repeat (first | apply GH.ok_push | apply GH.ok_set)); assumption)) | ((try simp only [GH.push_hid, GH.set_hid]); first | assumption | (refine GH.vis ?_ ?_ <;> first | assumption | ((try simp only [GH.pn, GH.sn]) <;> omega)))) only [go_sem, ↓reduceIte, Nat.reduceEqDiff, Nat.reduceAdd, Int.reduceToNat, Int.reduceAdd, Int.reduceNeg, Int.reduceSub, Int.reduceMul, Int.reduceLT, Int.reduceLE, Int.reduceEq, ↓GH.gp_eq, ↓GH.gp_ne, ↓GH.gs_eq, ↓GH.gs_ne, GH.push_next, GH.set_next]
  repeat ((first | refine Wk.once ?_ | refine Wk.more (Wk.once ?_) | refine Wk.leave ?_); simp +decide (disch := first | assumption | exact cellV_int _ _ | exact cellV_bool _ | omega | (simp only [GH.pn, GH.sn] <;> omega) | (with_reducible ((repeat (first | apply GH.ok_push | apply GH.ok_set)); assumption)) | ((try simp only [GH.push_hid, GH.set_hid]); first | assumption | (refine GH.vis ?_ ?_ <;> first | assumption | ((try simp only [GH.pn, GH.sn]) <;> omega)))) only [go_sem, ↓reduceIte, Nat.reduceEqDiff, Nat.reduceAdd, Int.reduceToNat, Int.reduceAdd, Int.reduceNeg, Int.reduceSub, Int.reduceMul, Int.reduceLT, Int.reduceLE, Int.reduceEq, ↓GH.gp_eq, ↓GH.gp_ne, ↓GH.gs_eq, ↓GH.gs_ne, GH.push_next, GH.set_next])
  refine CallD.name fun H hH => ?_
  have hnH : H.next = g.next + 1 + 1 := by rw [hH]; rfl
  have hokH : H.ok := by rw [hH]; exact GH.ok_set (GH.ok_push (GH.ok_push ho))
  have hkH : Kept g H := by rw [hH]; exact (by (repeat' first | exact Kept.refl _ | assumption | refine Kept.push ?_ ?_ _ | refine Kept.setV ?_ ?_ ?_ _) <;> (first | assumption | exact cellV_int _ _ | exact cellV_bool _ | omega | (simp only [GH.pn, GH.sn] <;> omega) | (with_reducible ((repeat (first | apply GH.ok_push | apply GH.ok_set)); assumption)) | ((try simp only [GH.push_hid, GH.set_hid]); first | assumption | (refine GH.vis ?_ ?_ <;> first | assumption | ((try simp only [GH.pn, GH.sn]) <;> omega)))))
  have hA : H.get g.next = cellsOb [.int .i64 2, .int .i64 a, .int .i64 b, .int .i64 0, .int .i64 c, .int .i64 e, .int .i64 0, .int .i64 0, .int .i64 0, .int .i64 0] 73 := by rw [hH]; exact (by simp (disch := first | assumption | exact cellV_int _ _ | exact cellV_bool _ | omega | (simp only [GH.pn, GH.sn] <;> omega) | (with_reducible ((repeat (first | apply GH.ok_push | apply GH.ok_set)); assumption)) | ((try simp only [GH.push_hid, GH.set_hid]); first | assumption | (refine GH.vis ?_ ?_ <;> first | assumption | ((try simp only [GH.pn, GH.sn]) <;> omega)))) only [↓GH.gp_eq, ↓GH.gp_ne, ↓GH.gs_eq, ↓GH.gs_ne, GH.push_next, GH.set_next]; first | done | exact rfl)
  refine CallD.calm (w0 H) ?_
  rintro v g1 hx1 rfl
  have hn1 := hx1.next
  have hok1 := hx1.ok hokH
  have hk1 := hkH.ext hx1
  have hA1 := (hx1.gets g.next (by omega)).trans hA
  simp +decide (disch := first | assumption | exact cellV_int _ _ | exact cellV_bool _ | omega | (simp only [GH.pn, GH.sn] <;> omega) | (with_reducible ((repeat (first | apply GH.ok_push | apply GH.ok_set)); assumption)) | ((try simp only [GH.push_hid, GH.set_hid]); first | assumption | (refine GH.vis ?_ ?_ <;> first | assumption | ((try simp only [GH.pn, GH.sn]) <;> omega)))) only [go_sem, ↓reduceIte, Nat.reduceEqDiff, Nat.reduceAdd, Int.reduceToNat, Int.reduceAdd, Int.reduceNeg, Int.reduceSub, Int.reduceMul, Int.reduceLT, Int.reduceLE, Int.reduceEq, ↓GH.gp_eq, ↓GH.gp_ne, ↓GH.gs_eq, ↓GH.gs_ne, GH.push_next, GH.set_next]
  repeat ((first | refine Wk.once ?_ | refine Wk.more (Wk.once ?_) | refine Wk.leave ?_); simp +decide (disch := first | assumption | exact cellV_int _ _ | exact cellV_bool _ | omega | (simp only [GH.pn, GH.sn] <;> omega) | (with_reducible ((repeat (first | apply GH.ok_push | apply GH.ok_set)); assumption)) | ((try simp only [GH.push_hid, GH.set_hid]); first | assumption | (refine GH.vis ?_ ?_ <;> first | assumption | ((try simp only [GH.pn, GH.sn]) <;> omega)))) only [go_sem, ↓reduceIte, Nat.reduceEqDiff, Nat.reduceAdd, Int.reduceToNat, Int.reduceAdd, Int.reduceNeg, Int.reduceSub, Int.reduceMul, Int.reduceLT, Int.reduceLE, Int.reduceEq, ↓GH.gp_eq, ↓GH.gp_ne, ↓GH.gs_eq, ↓GH.gs_ne, GH.push_next, GH.set_next, hA1])
  refine CallD.name fun H2 hH2 => ?_
  have hnH2 : H2.next = g1.next + 1 := by rw [hH2]; rfl
  have hokH2 : H2.ok := by rw [hH2]; exact GH.ok_set (GH.ok_push hok1)
  have hkH2 : Kept g1 H2 := by rw [hH2]; exact (by (repeat' first | exact Kept.refl _ | assumption | refine Kept.push ?_ ?_ _ | refine Kept.setV ?_ ?_ ?_ _) <;> (first | assumption | exact cellV_int _ _ | exact cellV_bool _ | omega | (simp only [GH.pn, GH.sn] <;> omega) | (with_reducible ((repeat (first | apply GH.ok_push | apply GH.ok_set)); assumption)) | ((try simp only [GH.push_hid, GH.set_hid]); first | assumption | (refine GH.vis ?_ ?_ <;> first | assumption | ((try simp only [GH.pn, GH.sn]) <;> omega)))))
  have hk2 := hk1.trans hkH2
  have hR2 : H2.get g1.next = cellsOb [.int .i64 c, .int .i64 e, .int .i64 0] 67 := by rw [hH2]; exact (by simp (disch := first | assumption | exact cellV_int _ _ | exact cellV_bool _ | omega | (simp only [GH.pn, GH.sn] <;> omega) | (with_reducible ((repeat (first | apply GH.ok_push | apply GH.ok_set)); assumption)) | ((try simp only [GH.push_hid, GH.set_hid]); first | assumption | (refine GH.vis ?_ ?_ <;> first | assumption | ((try simp only [GH.pn, GH.sn]) <;> omega)))) only [↓GH.gp_eq, ↓GH.gp_ne, ↓GH.gs_eq, ↓GH.gs_ne, GH.push_next, GH.set_next]; first | done | exact rfl)
  have hA2 := (hkH2.gets g.next (by omega)).trans hA1
  refine CallD.calm (w1 H2) ?_
  rintro v g3 hx3 rfl
  have hn3 := hx3.next
  have hok3 := hx3.ok hokH2
  have hk3 := hk2.ext hx3
  have hR3 := (hx3.gets g1.next (by omega)).trans hR2
  have hA3 := (hx3.gets g.next (by omega)).trans hA2
  simp +decide (disch := first | assumption | exact cellV_int _ _ | exact cellV_bool _ | omega | (simp only [GH.pn, GH.sn] <;> omega) | (with_reducible ((repeat (first | apply GH.ok_push | apply GH.ok_set)); assumption)) | ((try simp only [GH.push_hid, GH.set_hid]); first | assumption | (refine GH.vis ?_ ?_ <;> first | assumption | ((try simp only [GH.pn, GH.sn]) <;> omega)))) only [go_sem, ↓reduceIte, Nat.reduceEqDiff, Nat.reduceAdd, Int.reduceToNat, Int.reduceAdd, Int.reduceNeg, Int.reduceSub, Int.reduceMul, Int.reduceLT, Int.reduceLE, Int.reduceEq, ↓GH.gp_eq, ↓GH.gp_ne, ↓GH.gs_eq, ↓GH.gs_ne, GH.push_next, GH.set_next, hR3, hA3]
  refine CallD.calm (wm g3) ?_
  rintro v g4 hx4 rfl
  have hn4 := hx4.next
  have hok4 := hx4.ok hok3
  have hk4 := hk3.ext hx4
  have hA4 := (hx4.gets g.next (by omega)).trans hA3
  simp +decide (disch := first | assumption | exact cellV_int _ _ | exact cellV_bool _ | omega | (simp only [GH.pn, GH.sn] <;> omega) | (with_reducible ((repeat (first | apply GH.ok_push | apply GH.ok_set)); assumption)) | ((try simp only [GH.push_hid, GH.set_hid]); first | assumption | (refine GH.vis ?_ ?_ <;> first | assumption | ((try simp only [GH.pn, GH.sn]) <;> omega)))) only [go_sem, ↓reduceIte, Nat.reduceEqDiff, Nat.reduceAdd, Int.reduceToNat, Int.reduceAdd, Int.reduceNeg, Int.reduceSub, Int.reduceMul, Int.reduceLT, Int.reduceLE, Int.reduceEq, ↓GH.gp_eq, ↓GH.gp_ne, ↓GH.gs_eq, ↓GH.gs_ne, GH.push_next, GH.set_next, bslV]
  refine AppD.ownS (lw := g.next) (base := g.next) (new := [.int .i64 (c - a), .int .i64 (e - b), .int .i64 0]) (tx := 67) OwnS.nil (by rw [GH.gp_eq hok4 rfl]) rfl (by omega) (by omega) rfl (by omega) (by simp only [GH.push_next]; omega) (by omega) (Nat.le_refl _) (GH.ok_push hok4) (fun s' g5 lo5 sp wr hgr hlo5 => ?_)
  have hn5 := hgr.next
  simp only [GH.push_next] at hn5
  have hok5 := hgr.ok
  have hk5 : Kept g g5 := (hk4.push hok4 _).grewS hgr (Nat.le_refl _)
  have hown5 := hgr.own
  have hA5 : g5.get g.next = _ := (hgr.gets g.next (by simp only [GH.push_next]; omega)).trans ((GH.gp_ne hok4 (by omega)).trans hA4)
  simp +decide (disch := first | assumption | exact cellV_int _ _ | exact cellV_bool _ | omega | (simp only [GH.pn, GH.sn] <;> omega) | (with_reducible ((repeat (first | apply GH.ok_push | apply GH.ok_set)); assumption)) | ((try simp only [GH.push_hid, GH.set_hid]); first | assumption | (refine GH.vis ?_ ?_ <;> first | assumption | ((try simp only [GH.pn, GH.sn]) <;> omega)))) only [go_sem, ↓reduceIte, Nat.reduceEqDiff, Nat.reduceAdd, Int.reduceToNat, Int.reduceAdd, Int.reduceNeg, Int.reduceSub, Int.reduceMul, Int.reduceLT, Int.reduceLE, Int.reduceEq, ↓GH.gp_eq, ↓GH.gp_ne, ↓GH.gs_eq, ↓GH.gs_ne, GH.push_next, GH.set_next]
  repeat ((first | refine Wk.once ?_ | refine Wk.more (Wk.once ?_) | refine Wk.leave ?_); simp +decide (disch := first | assumption | exact cellV_int _ _ | exact cellV_bool _ | omega | (simp only [GH.pn, GH.sn] <;> omega) | (with_reducible ((repeat (first | apply GH.ok_push | apply GH.ok_set)); assumption)) | ((try simp only [GH.push_hid, GH.set_hid]); first | assumption | (refine GH.vis ?_ ?_ <;> first | assumption | ((try simp only [GH.pn, GH.sn]) <;> omega)))) only [go_sem, ↓reduceIte, Nat.reduceEqDiff, Nat.reduceAdd, Int.reduceToNat, Int.reduceAdd, Int.reduceNeg, Int.reduceSub, Int.reduceMul, Int.reduceLT, Int.reduceLE, Int.reduceEq, ↓GH.gp_eq, ↓GH.gp_ne, ↓GH.gs_eq, ↓GH.gs_ne, GH.push_next, GH.set_next])
  refine CallD.name fun H6 hH6 => ?_
  have hnH6 : H6.next = g5.next + 1 := by rw [hH6]; rfl
  have hokH6 : H6.ok := by rw [hH6]; exact GH.ok_set (GH.ok_push hok5)
  have hkH6 : Kept g5 H6 := by rw [hH6]; exact (by (repeat' first | exact Kept.refl _ | assumption | refine Kept.push ?_ ?_ _ | refine Kept.setV ?_ ?_ ?_ _) <;> (first | assumption | exact cellV_int _ _ | exact cellV_bool _ | omega | (simp only [GH.pn, GH.sn] <;> omega) | (with_reducible ((repeat (first | apply GH.ok_push | apply GH.ok_set)); assumption)) | ((try simp only [GH.push_hid, GH.set_hid]); first | assumption | (refine GH.vis ?_ ?_ <;> first | assumption | ((try simp only [GH.pn, GH.sn]) <;> omega)))))
  refine CallD.calm (w2 H6) ?_
  rintro v g7 hx7 rfl
  have hn7 := hx7.next
  have hok7 := hx7.ok hokH6
  have hk57 := hkH6.ext hx7
  simp +decide (disch := first | assumption | exact cellV_int _ _ | exact cellV_bool _ | omega | (simp only [GH.pn, GH.sn] <;> omega) | (with_reducible ((repeat (first | apply GH.ok_push | apply GH.ok_set)); assumption)) | ((try simp only [GH.push_hid, GH.set_hid]); first | assumption | (refine GH.vis ?_ ?_ <;> first | assumption | ((try simp only [GH.pn, GH.sn]) <;> omega)))) only [go_sem, ↓reduceIte, Nat.reduceEqDiff, Nat.reduceAdd, Int.reduceToNat, Int.reduceAdd, Int.reduceNeg, Int.reduceSub, Int.reduceMul, Int.reduceLT, Int.reduceLE, Int.reduceEq, ↓GH.gp_eq, ↓GH.gp_ne, ↓GH.gs_eq, ↓GH.gs_ne, GH.push_next, GH.set_next]
  refine CallD.calm (wa g7) ?_
  rintro v g8 hx8 rfl
  have hn8 := hx8.next
  have hok8 := hx8.ok hok7
  have hk58 := (hk57.ext hx8).push hok8 (cellsOb [.int .i64 0, .int .i64 0, .int .i64 1] 67)
  simp +decide (disch := first | assumption | exact cellV_int _ _ | exact cellV_bool _ | omega | (simp only [GH.pn, GH.sn] <;> omega) | (with_reducible ((repeat (first | apply GH.ok_push | apply GH.ok_set)); assumption)) | ((try simp only [GH.push_hid, GH.set_hid]); first | assumption | (refine GH.vis ?_ ?_ <;> first | assumption | ((try simp only [GH.pn, GH.sn]) <;> omega)))) only [go_sem, ↓reduceIte, Nat.reduceEqDiff, Nat.reduceAdd, Int.reduceToNat, Int.reduceAdd, Int.reduceNeg, Int.reduceSub, Int.reduceMul, Int.reduceLT, Int.reduceLE, Int.reduceEq, ↓GH.gp_eq, ↓GH.gp_ne, ↓GH.gs_eq, ↓GH.gs_ne, GH.push_next, GH.set_next, bslV]
  refine AppD.ownS (lw := g.next) (base := g.next) (new := [.int .i64 0, .int .i64 0, .int .i64 1]) (tx := 67) (hown5.kept hk58) (by rw [GH.gp_eq hok8 rfl]) rfl (by omega) (by omega) rfl (by omega) (by simp only [GH.push_next]; omega) (by omega) (Nat.le_refl _) (GH.ok_push hok8) (fun s9 g9 lo9 sp wr hgr9 hlo9 => ?_)
  have hk9 : Kept g g9 := (hk5.trans hk58).grewS hgr9 (Nat.le_refl _)
  have hown9 := hgr9.own
  simp +decide (disch := first | assumption | exact cellV_int _ _ | exact cellV_bool _ | omega | (simp only [GH.pn, GH.sn] <;> omega) | (with_reducible ((repeat (first | apply GH.ok_push | apply GH.ok_set)); assumption)) | ((try simp only [GH.push_hid, GH.set_hid]); first | assumption | (refine GH.vis ?_ ?_ <;> first | assumption | ((try simp only [GH.pn, GH.sn]) <;> omega)))) only [go_sem, ↓reduceIte, Nat.reduceEqDiff, Nat.reduceAdd, Int.reduceToNat, Int.reduceAdd, Int.reduceNeg, Int.reduceSub, Int.reduceMul, Int.reduceLT, Int.reduceLE, Int.reduceEq, ↓GH.gp_eq, ↓GH.gp_ne, ↓GH.gs_eq, ↓GH.gs_ne, GH.push_next, GH.set_next]
  repeat ((first | refine Wk.once ?_ | refine Wk.more (Wk.once ?_) | refine Wk.leave ?_); simp +decide (disch := first | assumption | exact cellV_int _ _ | exact cellV_bool _ | omega | (simp only [GH.pn, GH.sn] <;> omega) | (with_reducible ((repeat (first | apply GH.ok_push | apply GH.ok_set)); assumption)) | ((try simp only [GH.push_hid, GH.set_hid]); first | assumption | (refine GH.vis ?_ ?_ <;> first | assumption | ((try simp only [GH.pn, GH.sn]) <;> omega)))) only [go_sem, ↓reduceIte, Nat.reduceEqDiff, Nat.reduceAdd, Int.reduceToNat, Int.reduceAdd, Int.reduceNeg, Int.reduceSub, Int.reduceMul, Int.reduceLT, Int.reduceLE, Int.reduceEq, ↓GH.gp_eq, ↓GH.gp_ne, ↓GH.gs_eq, ↓GH.gs_ne, GH.push_next, GH.set_next])
  intro hx0
  exact ⟨hlo9, hk9, hown9⟩
end Go.Proofs.YtngmaccaldhjcaaDoor
set_option maxRecDepth 100000
set_option maxHeartbeats 4000000
set_option linter.unusedSimpArgs false
set_option linter.unusedVariables false
namespace Go.Proofs.YtngmaccaldhjcaaDoor
open Go.Ds
def cmG (P Q : Nat) : Nat := Nat.gcd (Nat.gcd (P + Q) P) Q
theorem inLowest2_rets {X : Caller} (hX : Xok X) (P Q : Nat) (hP : 1 ≤ P) (hP2 : P ≤ 1000) (hQ : Q ≤ 1000) (g : GH) :
    Rets Tryd.prog X 81 [vcV P Q 0] g (fun v g' lo => g.next ≤ lo ∧ v = mxV (P / cmG P Q : Nat) (Q / cmG P Q : Nat) 0 ((P + Q) / cmG P Q : Nat)) := by
  have hG0 : 0 < cmG P Q := Nat.gcd_pos_of_pos_left _ (Nat.gcd_pos_of_pos_right _ hP)
  have hGle : cmG P Q ≤ 2000 := by
    have h1 := Nat.gcd_le_left Q (show 0 < Nat.gcd (P + Q) P from Nat.gcd_pos_of_pos_right _ hP)
    have h2 := Nat.gcd_le_right (P + Q) hP
    unfold cmG; omega
  have hsu := fun G => sum_rets hX P Q 0 (by unfold Sm; omega) (by unfold Sm; omega) (by unfold Sm; omega) G
  rw [show (P : Int) + Q + 0 = ((P + Q : Nat) : Int) by omega] at hsu
  have d0 := fun G => divisor_rets hX (P + Q) P (by omega) (by omega) G
  have d1 := fun G => divisor_rets hX (Nat.gcd (P + Q) P) Q (by have := Nat.gcd_le_right (P + Q) hP; omega) (by omega) G
  have d2 := fun G => divisor_rets hX (cmG P Q) 0 (by omega) (by omega) G
  rw [Nat.gcd_zero_right] at d2
  rw [show Nat.gcd (Nat.gcd (P + Q) P) Q = cmG P Q from rfl] at d1
  obtain ⟨G0, hG⟩ : ∃ G, cmG P Q = G := ⟨_, rfl⟩
  rw [hG] at d1 d2 hG0 hGle ⊢
  obtain ⟨D0, hD0⟩ : ∃ D, Nat.gcd (P + Q) P = D := ⟨_, rfl⟩
  rw [hD0] at d0 d1
  obtain ⟨S, hS⟩ : ∃ S, P + Q = S := ⟨_, rfl⟩
  rw [hS] at hsu d0 ⊢
  have k1 := tdiv_pos P G0
  have k2 := tdiv_pos Q G0
  have k3 := tdiv_pos S G0
  have k4 : (0 : Int).tdiv (G0 : Int) = 0 := Int.zero_tdiv _
  have l1 := Nat.div_le_self P G0
  have l2 := Nat.div_le_self Q G0
  have l3 := Nat.div_le_self S G0
  obtain ⟨A1, hA1⟩ : ∃ x, P / G0 = x := ⟨_, rfl⟩
  obtain ⟨A2, hA2⟩ : ∃ x, Q / G0 = x := ⟨_, rfl⟩
  obtain ⟨A3, hA3⟩ : ∃ x, S / G0 = x := ⟨_, rfl⟩
  rw [hA1] at k1 l1 ⊢
  rw [hA2] at k2 l2 ⊢
  rw [hA3] at k3 l3 ⊢
  have hne : ¬ (G0 : Int) = 0 := by omega
  unfold vcV at *
  unfold mxV
  refine Rets.run hX.pres p81 (hX.free 81 (by decide) _ _) rfl fun ho => ?_
  simp +decide (disch := first | assumption | exact cellV_int _ _ | exact cellV_bool _ | omega | (simp only [GH.pn, GH.sn] <;> omega) | (with_reducible ((repeat (first | apply GH.ok_push | apply GH.ok_set)); assumption)) | ((try simp only [GH.push_hid, GH.set_hid]); first | assumption | (refine GH.vis ?_ ?_ <;> first | assumption | ((try simp only [GH.pn, GH.sn]) <;> omega)))) only [go_sem, ↓reduceIte, Nat.reduceEqDiff, Nat.reduceAdd, Int.reduceToNat, Int.reduceAdd, Int.reduceNeg, Int.reduceSub, Int.reduceMul, Int.reduceLT, Int.reduceLE, Int.reduceEq, ↓GH.gp_eq, ↓GH.gp_ne, ↓GH.gs_eq, ↓GH.gs_ne, GH.push_next, GH.set_next]
  refine CallD.name fun H hH => ?_
  have hnH : H.next = g.next + 1 + 1 := by rw [hH]; rfl
  have hokH : H.ok := by rw [hH]; exact GH.ok_push (GH.ok_push ho)
  have hB : H.get g.next = cellsOb [.int .i64 P, .int .i64 Q, .int .i64 0] 67 := by rw [hH]; exact (by simp (disch := first | assumption | exact cellV_int _ _ | exact cellV_bool _ | omega | (simp only [GH.pn, GH.sn] <;> omega) | (with_reducible ((repeat (first | apply GH.ok_push | apply GH.ok_set)); assumption)) | ((try simp only [GH.push_hid, GH.set_hid]); first | assumption | (refine GH.vis ?_ ?_ <;> first | assumption | ((try simp only [GH.pn, GH.sn]) <;> omega)))) only [↓GH.gp_eq, ↓GH.gp_ne, ↓GH.gs_eq, ↓GH.gs_ne, GH.push_next, GH.set_next]; first | done | exact rfl)
  have hC : H.get (g.next + 1) = cellsOb [.int .i64 0, .int .i64 0, .int .i64 0, .int .i64 0] 69 := by rw [hH]; exact (by simp (disch := first | assumption | exact cellV_int _ _ | exact cellV_bool _ | omega | (simp only [GH.pn, GH.sn] <;> omega) | (with_reducible ((repeat (first | apply GH.ok_push | apply GH.ok_set)); assumption)) | ((try simp only [GH.push_hid, GH.set_hid]); first | assumption | (refine GH.vis ?_ ?_ <;> first | assumption | ((try simp only [GH.pn, GH.sn]) <;> omega)))) only [↓GH.gp_eq, ↓GH.gp_ne, ↓GH.gs_eq, ↓GH.gs_ne, GH.push_next, GH.set_next]; first | done | exact rfl)
  refine CallD.calm (hsu H) ?_
  rintro v g1 hx1 rfl
  have hn1 := hx1.next
  have hok1 := hx1.ok hokH
  have hB1 := (hx1.gets g.next (by omega)).trans hB
  have hC1 := (hx1.gets (g.next + 1) (by omega)).trans hC
  simp +decide (disch := first | assumption | exact cellV_int _ _ | exact cellV_bool _ | omega | (simp only [GH.pn, GH.sn] <;> omega) | (with_reducible ((repeat (first | apply GH.ok_push | apply GH.ok_set)); assumption)) | ((try simp only [GH.push_hid, GH.set_hid]); first | assumption | (refine GH.vis ?_ ?_ <;> first | assumption | ((try simp only [GH.pn, GH.sn]) <;> omega)))) only [go_sem, ↓reduceIte, Nat.reduceEqDiff, Nat.reduceAdd, Int.reduceToNat, Int.reduceAdd, Int.reduceNeg, Int.reduceSub, Int.reduceMul, Int.reduceLT, Int.reduceLE, Int.reduceEq, ↓GH.gp_eq, ↓GH.gp_ne, ↓GH.gs_eq, ↓GH.gs_ne, GH.push_next, GH.set_next, hB1]
  repeat ((first | refine Wk.once ?_ | refine Wk.more (Wk.once ?_) | refine Wk.leave ?_); simp +decide (disch := first | assumption | exact cellV_int _ _ | exact cellV_bool _ | omega | (simp only [GH.pn, GH.sn] <;> omega) | (with_reducible ((repeat (first | apply GH.ok_push | apply GH.ok_set)); assumption)) | ((try simp only [GH.push_hid, GH.set_hid]); first | assumption | (refine GH.vis ?_ ?_ <;> first | assumption | ((try simp only [GH.pn, GH.sn]) <;> omega)))) only [go_sem, ↓reduceIte, Nat.reduceEqDiff, Nat.reduceAdd, Int.reduceToNat, Int.reduceAdd, Int.reduceNeg, Int.reduceSub, Int.reduceMul, Int.reduceLT, Int.reduceLE, Int.reduceEq, ↓GH.gp_eq, ↓GH.gp_ne, ↓GH.gs_eq, ↓GH.gs_ne, GH.push_next, GH.set_next, hB1])
  refine CallD.calm (d0 g1) ?_
  rintro v g2 hx2 rfl
  have hn2 := hx2.next
  have hok2 := hx2.ok hok1
  have hB2 := (hx2.gets g.next (by omega)).trans hB1
  have hC2 := (hx2.gets (g.next + 1) (by omega)).trans hC1
  simp +decide (disch := first | assumption | exact cellV_int _ _ | exact cellV_bool _ | omega | (simp only [GH.pn, GH.sn] <;> omega) | (with_reducible ((repeat (first | apply GH.ok_push | apply GH.ok_set)); assumption)) | ((try simp only [GH.push_hid, GH.set_hid]); first | assumption | (refine GH.vis ?_ ?_ <;> first | assumption | ((try simp only [GH.pn, GH.sn]) <;> omega)))) only [go_sem, ↓reduceIte, Nat.reduceEqDiff, Nat.reduceAdd, Int.reduceToNat, Int.reduceAdd, Int.reduceNeg, Int.reduceSub, Int.reduceMul, Int.reduceLT, Int.reduceLE, Int.reduceEq, ↓GH.gp_eq, ↓GH.gp_ne, ↓GH.gs_eq, ↓GH.gs_ne, GH.push_next, GH.set_next]
  repeat ((first | refine Wk.once ?_ | refine Wk.more (Wk.once ?_) | refine Wk.leave ?_); simp +decide (disch := first | assumption | exact cellV_int _ _ | exact cellV_bool _ | omega | (simp only [GH.pn, GH.sn] <;> omega) | (with_reducible ((repeat (first | apply GH.ok_push | apply GH.ok_set)); assumption)) | ((try simp only [GH.push_hid, GH.set_hid]); first | assumption | (refine GH.vis ?_ ?_ <;> first | assumption | ((try simp only [GH.pn, GH.sn]) <;> omega)))) only [go_sem, ↓reduceIte, Nat.reduceEqDiff, Nat.reduceAdd, Int.reduceToNat, Int.reduceAdd, Int.reduceNeg, Int.reduceSub, Int.reduceMul, Int.reduceLT, Int.reduceLE, Int.reduceEq, ↓GH.gp_eq, ↓GH.gp_ne, ↓GH.gs_eq, ↓GH.gs_ne, GH.push_next, GH.set_next])
  refine CallD.calm (d1 g2) ?_
  rintro v g3 hx3 rfl
  have hn3 := hx3.next
  have hok3 := hx3.ok hok2
  have hB3 := (hx3.gets g.next (by omega)).trans hB2
  have hC3 := (hx3.gets (g.next + 1) (by omega)).trans hC2
  simp +decide (disch := first | assumption | exact cellV_int _ _ | exact cellV_bool _ | omega | (simp only [GH.pn, GH.sn] <;> omega) | (with_reducible ((repeat (first | apply GH.ok_push | apply GH.ok_set)); assumption)) | ((try simp only [GH.push_hid, GH.set_hid]); first | assumption | (refine GH.vis ?_ ?_ <;> first | assumption | ((try simp only [GH.pn, GH.sn]) <;> omega)))) only [go_sem, ↓reduceIte, Nat.reduceEqDiff, Nat.reduceAdd, Int.reduceToNat, Int.reduceAdd, Int.reduceNeg, Int.reduceSub, Int.reduceMul, Int.reduceLT, Int.reduceLE, Int.reduceEq, ↓GH.gp_eq, ↓GH.gp_ne, ↓GH.gs_eq, ↓GH.gs_ne, GH.push_next, GH.set_next]
  repeat ((first | refine Wk.once ?_ | refine Wk.more (Wk.once ?_) | refine Wk.leave ?_); simp +decide (disch := first | assumption | exact cellV_int _ _ | exact cellV_bool _ | omega | (simp only [GH.pn, GH.sn] <;> omega) | (with_reducible ((repeat (first | apply GH.ok_push | apply GH.ok_set)); assumption)) | ((try simp only [GH.push_hid, GH.set_hid]); first | assumption | (refine GH.vis ?_ ?_ <;> first | assumption | ((try simp only [GH.pn, GH.sn]) <;> omega)))) only [go_sem, ↓reduceIte, Nat.reduceEqDiff, Nat.reduceAdd, Int.reduceToNat, Int.reduceAdd, Int.reduceNeg, Int.reduceSub, Int.reduceMul, Int.reduceLT, Int.reduceLE, Int.reduceEq, ↓GH.gp_eq, ↓GH.gp_ne, ↓GH.gs_eq, ↓GH.gs_ne, GH.push_next, GH.set_next])
  refine CallD.calm (d2 g3) ?_
  rintro v g4 hx4 rfl
  have hn4 := hx4.next
  have hok4 := hx4.ok hok3
  have hB4 := (hx4.gets g.next (by omega)).trans hB3
  have hC4 := (hx4.gets (g.next + 1) (by omega)).trans hC3
  simp +decide (disch := first | assumption | exact cellV_int _ _ | exact cellV_bool _ | omega | (simp only [GH.pn, GH.sn] <;> omega) | (with_reducible ((repeat (first | apply GH.ok_push | apply GH.ok_set)); assumption)) | ((try simp only [GH.push_hid, GH.set_hid]); first | assumption | (refine GH.vis ?_ ?_ <;> first | assumption | ((try simp only [GH.pn, GH.sn]) <;> omega)))) only [go_sem, ↓reduceIte, Nat.reduceEqDiff, Nat.reduceAdd, Int.reduceToNat, Int.reduceAdd, Int.reduceNeg, Int.reduceSub, Int.reduceMul, Int.reduceLT, Int.reduceLE, Int.reduceEq, ↓GH.gp_eq, ↓GH.gp_ne, ↓GH.gs_eq, ↓GH.gs_ne, GH.push_next, GH.set_next]
  repeat ((first | refine Wk.once ?_ | refine Wk.more (Wk.once ?_) | refine Wk.leave ?_); simp +decide (disch := first | assumption | exact cellV_int _ _ | exact cellV_bool _ | omega | (simp only [GH.pn, GH.sn] <;> omega) | (with_reducible ((repeat (first | apply GH.ok_push | apply GH.ok_set)); assumption)) | ((try simp only [GH.push_hid, GH.set_hid]); first | assumption | (refine GH.vis ?_ ?_ <;> first | assumption | ((try simp only [GH.pn, GH.sn]) <;> omega)))) only [go_sem, ↓reduceIte, Nat.reduceEqDiff, Nat.reduceAdd, Int.reduceToNat, Int.reduceAdd, Int.reduceNeg, Int.reduceSub, Int.reduceMul, Int.reduceLT, Int.reduceLE, Int.reduceEq, ↓GH.gp_eq, ↓GH.gp_ne, ↓GH.gs_eq, ↓GH.gs_ne, GH.push_next, GH.set_next, hB4])
  refine CallD.calm (hsu g4) ?_
  rintro v g5 hx5 rfl
  have hn5 := hx5.next
  have hok5 := hx5.ok hok4
  have hB5 := (hx5.gets g.next (by omega)).trans hB4
  have hC5 := (hx5.gets (g.next + 1) (by omega)).trans hC4
  have hvC5 := GH.seen hC5 Nat.one_ne_zero
  simp +decide (disch := first | assumption | exact cellV_int _ _ | exact cellV_bool _ | omega | (simp only [GH.pn, GH.sn] <;> omega) | (with_reducible ((repeat (first | apply GH.ok_push | apply GH.ok_set)); assumption)) | ((try simp only [GH.push_hid, GH.set_hid]); first | assumption | (refine GH.vis ?_ ?_ <;> first | assumption | ((try simp only [GH.pn, GH.sn]) <;> omega)))) only [go_sem, ↓reduceIte, Nat.reduceEqDiff, Nat.reduceAdd, Int.reduceToNat, Int.reduceAdd, Int.reduceNeg, Int.reduceSub, Int.reduceMul, Int.reduceLT, Int.reduceLE, Int.reduceEq, ↓GH.gp_eq, ↓GH.gp_ne, ↓GH.gs_eq, ↓GH.gs_ne, GH.push_next, GH.set_next, k1, k2, k3, k4, hne, hB5, hC5]
  repeat ((first | refine Wk.once ?_ | refine Wk.more (Wk.once ?_) | refine Wk.leave ?_); simp +decide (disch := first | assumption | exact cellV_int _ _ | exact cellV_bool _ | omega | (simp only [GH.pn, GH.sn] <;> omega) | (with_reducible ((repeat (first | apply GH.ok_push | apply GH.ok_set)); assumption)) | ((try simp only [GH.push_hid, GH.set_hid]); first | assumption | (refine GH.vis ?_ ?_ <;> first | assumption | ((try simp only [GH.pn, GH.sn]) <;> omega)))) only [go_sem, ↓reduceIte, Nat.reduceEqDiff, Nat.reduceAdd, Int.reduceToNat, Int.reduceAdd, Int.reduceNeg, Int.reduceSub, Int.reduceMul, Int.reduceLT, Int.reduceLE, Int.reduceEq, ↓GH.gp_eq, ↓GH.gp_ne, ↓GH.gs_eq, ↓GH.gs_ne, GH.push_next, GH.set_next, k1, k2, k3, k4, hne, hB5, hC5])
  intro hx0
  exact ⟨by omega, rfl⟩
end Go.Proofs.YtngmaccaldhjcaaDoor
set_option maxRecDepth 100000
set_option maxHeartbeats 4000000
set_option linter.unusedSimpArgs false
set_option linter.unusedVariables false
namespace Go.Proofs.YtngmaccaldhjcaaDoor
open Go.Ds
theorem bldM0 : buildF [(0, 3), (3, 1)] none #[.int .i64 0, .int .i64 0, .int .i64 0, .int .i64 0] [] = some (.agg #[.int .i64 0, .int .i64 0, .int .i64 0, .int .i64 0]) := rfl
/-- The numbers of the mixture that is looked for. -/
def rsP (p q : Int) : Int := if p + q < 0 then -p else p
def rsQ (p q : Int) : Int := if p + q < 0 then -q else q
def rsV (p q : Int) : Value :=
  if 0 < rsP p q ∧ 0 < rsQ p q then .tuple #[mxV ((rsP p q).toNat / cmG (rsP p q).toNat (rsQ p q).toNat : Nat) ((rsQ p q).toNat / cmG (rsP p q).toNat (rsQ p q).toNat : Nat) 0 (((rsP p q).toNat + (rsQ p q).toNat) / cmG (rsP p q).toNat (rsQ p q).toNat : Nat), .bool true]
  else .tuple #[mxV 0 0 0 0, .bool false]
theorem resting2_rets {X : Caller} (hX : Xok X) (a b c e : Int) (ha : Sm 20 a) (hb : Sm 20 b) (hc : Sm 20 c) (he : Sm 20 e) (g : GH) :
    Rets Tryd.prog X 60 [mkV 2 a b 0 c e 0 0 0 0, .int .i64 3] g (fun v g' lo => g.next ≤ lo ∧ v = rsV (e - b) (a - c)) := by
  have hcd := fun G => conditions2_rets hX a b c e ha hb hc he G
  unfold Sm at ha hb hc he
  have w0 := fun G => has_rets hX 3 0 (by decide) (by decide) G
  have w1 := fun G => has_rets hX 3 1 (by decide) (by decide) G
  have w2 := fun G => has_rets hX 3 2 (by decide) (by decide) G
  rw [show (3 : Nat).testBit 0 = true from rfl] at w0
  rw [show (3 : Nat).testBit 1 = true from rfl] at w1
  rw [show (3 : Nat).testBit 2 = false from rfl] at w2
  have hcr := fun G => cross_rets hX (c - a) (e - b) 0 0 0 1 ⟨by unfold Sm; omega, by unfold Sm; omega, by unfold Sm; omega⟩ ⟨by unfold Sm; omega, by unfold Sm; omega, by unfold Sm; omega⟩ G
  rw [show (e - b) * 1 - 0 * 0 = e - b by omega, show 0 * 0 - (c - a) * 1 = a - c by omega, show (c - a) * 0 - (e - b) * 0 = 0 by omega] at hcr
  obtain ⟨p, hp⟩ : ∃ p, e - b = p := ⟨_, rfl⟩
  obtain ⟨q, hq⟩ : ∃ q, a - c = q := ⟨_, rfl⟩
  rw [hp, hq] at hcr
  rw [hp] at hcd
  rw [hp, hq]
  have hpb : -40 ≤ p ∧ p ≤ 40 := by omega
  have hqb : -40 ≤ q ∧ q ≤ 40 := by omega
  have hsu := fun G => sum_rets hX p q 0 (by unfold Sm; omega) (by unfold Sm; omega) (by unfold Sm; omega) G
  have htm := fun G => times_rets hX p q 0 (-1) (by unfold Sm; omega) (by unfold Sm; omega) (by unfold Sm; omega) G
  rw [show p * -1 = -p by omega, show q * -1 = -q by omega, show (0 : Int) * -1 = 0 by omega] at htm
  unfold vcV at hcr hsu htm
  unfold mkV at *
  refine Rets.run hX.pres p60 (hX.free 60 (by decide) _ _) rfl fun ho => ?_
  simp +decide (disch := first | assumption | exact cellV_int _ _ | exact cellV_bool _ | omega | (simp only [GH.pn, GH.sn] <;> omega) | (with_reducible ((repeat (first | apply GH.ok_push | apply GH.ok_set)); assumption)) | ((try simp only [GH.push_hid, GH.set_hid]); first | assumption | (refine GH.vis ?_ ?_ <;> first | assumption | ((try simp only [GH.pn, GH.sn]) <;> omega)))) only [go_sem, ↓reduceIte, Nat.reduceEqDiff, Nat.reduceAdd, Int.reduceToNat, Int.reduceAdd, Int.reduceNeg, Int.reduceSub, Int.reduceMul, Int.reduceLT, Int.reduceLE, Int.reduceEq, ↓GH.gp_eq, ↓GH.gp_ne, ↓GH.gs_eq, ↓GH.gs_ne, GH.push_next, GH.set_next]
  refine CallD.name fun H hH => ?_
  have hnH : H.next = g.next + 1 + 1 := by rw [hH]; rfl
  have hokH : H.ok := by rw [hH]; exact GH.ok_push (GH.ok_push ho)
  have hC : H.get (g.next + 1) = cellsOb [.int .i64 0, .int .i64 0, .int .i64 0, .int .i64 0] 69 := by rw [hH]; exact (by simp (disch := first | assumption | exact cellV_int _ _ | exact cellV_bool _ | omega | (simp only [GH.pn, GH.sn] <;> omega) | (with_reducible ((repeat (first | apply GH.ok_push | apply GH.ok_set)); assumption)) | ((try simp only [GH.push_hid, GH.set_hid]); first | assumption | (refine GH.vis ?_ ?_ <;> first | assumption | ((try simp only [GH.pn, GH.sn]) <;> omega)))) only [↓GH.gp_eq, ↓GH.gp_ne, ↓GH.gs_eq, ↓GH.gs_ne, GH.push_next, GH.set_next]; first | done | exact rfl)
  refine CallD.calm (R := fun v g2 => Kept H g2 ∧ OwnS g2 v 3 2 [.int .i64 (c - a), .int .i64 p, .int .i64 0, .int .i64 0, .int .i64 0, .int .i64 1] 67 H.next) (hcd H) ?_
  rintro w g1 hx1 ⟨hk1, hown⟩
  have hn1 := hx1.next
  have hok1 := hx1.ok hokH
  have hC1 := (hx1.gets (g.next + 1) (by omega)).trans hC
  rcases hown with ⟨_, q0, _⟩ | ⟨j, fam, rfl, q1, q2, q3, q4, q5, q6, q7⟩
  · cases q0
  have hia0 : iaddrSF 3 (.slice (some ⟨j, 0, none⟩) 2 (OPEN + 3)) (.int .i64 0) = some (.pointer (some ⟨j, 0, none⟩)) := rfl
  have hia1 : iaddrSF 3 (.slice (some ⟨j, 0, none⟩) 2 (OPEN + 3)) (.int .i64 1) = some (.pointer (some ⟨j, 3, none⟩)) := by
    show some (Value.pointer (some ((⟨j, 0, none⟩ : Addr).add 3))) = _
    unfold Addr.add; rfl
  have hob0 : obLoad (some 3) (g1.get j) 0 = some (.agg #[.int .i64 (c - a), .int .i64 p, .int .i64 0]) := by rw [q3]; rfl
  have hob1 : obLoad (some 3) (g1.get j) 3 = some (.agg #[.int .i64 0, .int .i64 0, .int .i64 1]) := by rw [q3]; rfl
  simp +decide (disch := first | assumption | exact cellV_int _ _ | exact cellV_bool _ | omega | (simp only [GH.pn, GH.sn] <;> omega) | (with_reducible ((repeat (first | apply GH.ok_push | apply GH.ok_set)); assumption)) | ((try simp only [GH.push_hid, GH.set_hid]); first | assumption | (refine GH.vis ?_ ?_ <;> first | assumption | ((try simp only [GH.pn, GH.sn]) <;> omega)))) only [go_sem, ↓reduceIte, Nat.reduceEqDiff, Nat.reduceAdd, Int.reduceToNat, Int.reduceAdd, Int.reduceNeg, Int.reduceSub, Int.reduceMul, Int.reduceLT, Int.reduceLE, Int.reduceEq, ↓GH.gp_eq, ↓GH.gp_ne, ↓GH.gs_eq, ↓GH.gs_ne, GH.push_next, GH.set_next, hia0, hia1, hob0, hob1]
  refine CallD.calm (hcr g1) ?_
  rintro v g2 hx2 rfl
  have hn2 := hx2.next
  have hok2 := hx2.ok hok1
  have hC2 := (hx2.gets (g.next + 1) (by omega)).trans hC1
  simp +decide (disch := first | assumption | exact cellV_int _ _ | exact cellV_bool _ | omega | (simp only [GH.pn, GH.sn] <;> omega) | (with_reducible ((repeat (first | apply GH.ok_push | apply GH.ok_set)); assumption)) | ((try simp only [GH.push_hid, GH.set_hid]); first | assumption | (refine GH.vis ?_ ?_ <;> first | assumption | ((try simp only [GH.pn, GH.sn]) <;> omega)))) only [go_sem, ↓reduceIte, Nat.reduceEqDiff, Nat.reduceAdd, Int.reduceToNat, Int.reduceAdd, Int.reduceNeg, Int.reduceSub, Int.reduceMul, Int.reduceLT, Int.reduceLE, Int.reduceEq, ↓GH.gp_eq, ↓GH.gp_ne, ↓GH.gs_eq, ↓GH.gs_ne, GH.push_next, GH.set_next]
  refine CallD.name fun H3 hH3 => ?_
  have hnH3 : H3.next = g2.next + 1 := by rw [hH3]; rfl
  have hokH3 : H3.ok := by rw [hH3]; exact GH.ok_set (GH.ok_push hok2)
  have hkH3 : Kept g2 H3 := by rw [hH3]; exact (by (repeat' first | exact Kept.refl _ | assumption | refine Kept.push ?_ ?_ _ | refine Kept.setV ?_ ?_ ?_ _) <;> (first | assumption | exact cellV_int _ _ | exact cellV_bool _ | omega | (simp only [GH.pn, GH.sn] <;> omega) | (with_reducible ((repeat (first | apply GH.ok_push | apply GH.ok_set)); assumption)) | ((try simp only [GH.push_hid, GH.set_hid]); first | assumption | (refine GH.vis ?_ ?_ <;> first | assumption | ((try simp only [GH.pn, GH.sn]) <;> omega)))))
  have hD3 : H3.get g2.next = cellsOb [.int .i64 p, .int .i64 q, .int .i64 0] 67 := by rw [hH3]; exact (by simp (disch := first | assumption | exact cellV_int _ _ | exact cellV_bool _ | omega | (simp only [GH.pn, GH.sn] <;> omega) | (with_reducible ((repeat (first | apply GH.ok_push | apply GH.ok_set)); assumption)) | ((try simp only [GH.push_hid, GH.set_hid]); first | assumption | (refine GH.vis ?_ ?_ <;> first | assumption | ((try simp only [GH.pn, GH.sn]) <;> omega)))) only [↓GH.gp_eq, ↓GH.gp_ne, ↓GH.gs_eq, ↓GH.gs_ne, GH.push_next, GH.set_next]; first | done | exact rfl)
  have hC3 := (hkH3.gets (g.next + 1) (by omega)).trans hC2
  refine CallD.calm (hsu H3) ?_
  rintro v g4 hx4 rfl
  have hn4 := hx4.next
  have hok4 := hx4.ok hokH3
  have hD4 := (hx4.gets g2.next (by omega)).trans hD3
  have hvD4 := GH.seen hD4 Nat.one_ne_zero
  have hC4 := (hx4.gets (g.next + 1) (by omega)).trans hC3
  unfold rsV
  by_cases cs : p + q + 0 < 0
  · have eP : rsP p q = -p := by unfold rsP; rw [if_pos (by omega)]
    have eQ : rsQ p q = -q := by unfold rsQ; rw [if_pos (by omega)]
    rw [eP, eQ]
    obtain ⟨A, hA⟩ : ∃ A, -p = A := ⟨_, rfl⟩
    obtain ⟨B, hB⟩ : ∃ B, -q = B := ⟨_, rfl⟩
    rw [hA, hB] at htm ⊢
    simp +decide (disch := first | assumption | exact cellV_int _ _ | exact cellV_bool _ | omega | (simp only [GH.pn, GH.sn] <;> omega) | (with_reducible ((repeat (first | apply GH.ok_push | apply GH.ok_set)); assumption)) | ((try simp only [GH.push_hid, GH.set_hid]); first | assumption | (refine GH.vis ?_ ?_ <;> first | assumption | ((try simp only [GH.pn, GH.sn]) <;> omega)))) only [go_sem, ↓reduceIte, Nat.reduceEqDiff, Nat.reduceAdd, Int.reduceToNat, Int.reduceAdd, Int.reduceNeg, Int.reduceSub, Int.reduceMul, Int.reduceLT, Int.reduceLE, Int.reduceEq, ↓GH.gp_eq, ↓GH.gp_ne, ↓GH.gs_eq, ↓GH.gs_ne, GH.push_next, GH.set_next, cs, hD4]
    refine CallD.calm (htm g4) ?_
    rintro v g5 hx5 rfl
    have hn5 := hx5.next
    have hok5 := hx5.ok hok4
    have hD5 := (hx5.gets g2.next (by omega)).trans hD4
    have hvD5 := GH.seen hD5 Nat.one_ne_zero
    have hC5 := (hx5.gets (g.next + 1) (by omega)).trans hC4
    simp +decide (disch := first | assumption | exact cellV_int _ _ | exact cellV_bool _ | omega | (simp only [GH.pn, GH.sn] <;> omega) | (with_reducible ((repeat (first | apply GH.ok_push | apply GH.ok_set)); assumption)) | ((try simp only [GH.push_hid, GH.set_hid]); first | assumption | (refine GH.vis ?_ ?_ <;> first | assumption | ((try simp only [GH.pn, GH.sn]) <;> omega)))) only [go_sem, ↓reduceIte, Nat.reduceEqDiff, Nat.reduceAdd, Int.reduceToNat, Int.reduceAdd, Int.reduceNeg, Int.reduceSub, Int.reduceMul, Int.reduceLT, Int.reduceLE, Int.reduceEq, ↓GH.gp_eq, ↓GH.gp_ne, ↓GH.gs_eq, ↓GH.gs_ne, GH.push_next, GH.set_next, hD5]
    refine Wk.nameC fun G6 hG6 => ?_
    have hokK : G6.ok := by rw [hG6]; exact GH.ok_set hok5
    have hnK : G6.next = g5.next := by rw [hG6]; rfl
    have hDK : G6.get g2.next = cellsOb [.int .i64 A, .int .i64 B, .int .i64 0] 67 := by rw [hG6, GH.gs_eq hvD5 rfl]; first | done | rfl
    have hCK : G6.get (g.next + 1) = cellsOb [.int .i64 0, .int .i64 0, .int .i64 0, .int .i64 0] 69 := by rw [hG6, GH.gs_ne hvD5 (by omega)]; exact hC5
    repeat ((first | refine Wk.once ?_ | refine Wk.more (Wk.once ?_) | refine Wk.leave ?_); simp +decide (disch := first | assumption | exact cellV_int _ _ | exact cellV_bool _ | omega | (simp only [GH.pn, GH.sn] <;> omega) | (with_reducible ((repeat (first | apply GH.ok_push | apply GH.ok_set)); assumption)) | ((try simp only [GH.push_hid, GH.set_hid]); first | assumption | (refine GH.vis ?_ ?_ <;> first | assumption | ((try simp only [GH.pn, GH.sn]) <;> omega)))) only [go_sem, ↓reduceIte, Nat.reduceEqDiff, Nat.reduceAdd, Int.reduceToNat, Int.reduceAdd, Int.reduceNeg, Int.reduceSub, Int.reduceMul, Int.reduceLT, Int.reduceLE, Int.reduceEq, ↓GH.gp_eq, ↓GH.gp_ne, ↓GH.gs_eq, ↓GH.gs_ne, GH.push_next, GH.set_next, hDK])
    refine CallD.calm (w0 G6) ?_
    rintro v g7 hx7 rfl
    have hn7 := hx7.next
    have hok7 := hx7.ok hokK
    have hC7 := (hx7.gets (g.next + 1) (by omega)).trans hCK
    have hvC7 := GH.seen hC7 Nat.one_ne_zero
    have hD7 := (hx7.gets g2.next (by omega)).trans hDK
    by_cases cp : A ≤ 0
    · rw [if_neg (by omega)]
      simp +decide (disch := first | assumption | exact cellV_int _ _ | exact cellV_bool _ | omega | (simp only [GH.pn, GH.sn] <;> omega) | (with_reducible ((repeat (first | apply GH.ok_push | apply GH.ok_set)); assumption)) | ((try simp only [GH.push_hid, GH.set_hid]); first | assumption | (refine GH.vis ?_ ?_ <;> first | assumption | ((try simp only [GH.pn, GH.sn]) <;> omega)))) only [go_sem, ↓reduceIte, Nat.reduceEqDiff, Nat.reduceAdd, Int.reduceToNat, Int.reduceAdd, Int.reduceNeg, Int.reduceSub, Int.reduceMul, Int.reduceLT, Int.reduceLE, Int.reduceEq, ↓GH.gp_eq, ↓GH.gp_ne, ↓GH.gs_eq, ↓GH.gs_ne, GH.push_next, GH.set_next, cp, bldM0, hC7]
      intro hx0
      exact ⟨by omega, rfl⟩
    · simp +decide (disch := first | assumption | exact cellV_int _ _ | exact cellV_bool _ | omega | (simp only [GH.pn, GH.sn] <;> omega) | (with_reducible ((repeat (first | apply GH.ok_push | apply GH.ok_set)); assumption)) | ((try simp only [GH.push_hid, GH.set_hid]); first | assumption | (refine GH.vis ?_ ?_ <;> first | assumption | ((try simp only [GH.pn, GH.sn]) <;> omega)))) only [go_sem, ↓reduceIte, Nat.reduceEqDiff, Nat.reduceAdd, Int.reduceToNat, Int.reduceAdd, Int.reduceNeg, Int.reduceSub, Int.reduceMul, Int.reduceLT, Int.reduceLE, Int.reduceEq, ↓GH.gp_eq, ↓GH.gp_ne, ↓GH.gs_eq, ↓GH.gs_ne, GH.push_next, GH.set_next, cp]
      repeat ((first | refine Wk.once ?_ | refine Wk.more (Wk.once ?_) | refine Wk.leave ?_); simp +decide (disch := first | assumption | exact cellV_int _ _ | exact cellV_bool _ | omega | (simp only [GH.pn, GH.sn] <;> omega) | (with_reducible ((repeat (first | apply GH.ok_push | apply GH.ok_set)); assumption)) | ((try simp only [GH.push_hid, GH.set_hid]); first | assumption | (refine GH.vis ?_ ?_ <;> first | assumption | ((try simp only [GH.pn, GH.sn]) <;> omega)))) only [go_sem, ↓reduceIte, Nat.reduceEqDiff, Nat.reduceAdd, Int.reduceToNat, Int.reduceAdd, Int.reduceNeg, Int.reduceSub, Int.reduceMul, Int.reduceLT, Int.reduceLE, Int.reduceEq, ↓GH.gp_eq, ↓GH.gp_ne, ↓GH.gs_eq, ↓GH.gs_ne, GH.push_next, GH.set_next])
      refine CallD.calm (w1 g7) ?_
      rintro v g8 hx8 rfl
      have hn8 := hx8.next
      have hok8 := hx8.ok hok7
      have hC8 := (hx8.gets (g.next + 1) (by omega)).trans hC7
      have hvC8 := GH.seen hC8 Nat.one_ne_zero
      have hD8 := (hx8.gets g2.next (by omega)).trans hD7
      by_cases cq : B ≤ 0
      · rw [if_neg (by omega)]
        simp +decide (disch := first | assumption | exact cellV_int _ _ | exact cellV_bool _ | omega | (simp only [GH.pn, GH.sn] <;> omega) | (with_reducible ((repeat (first | apply GH.ok_push | apply GH.ok_set)); assumption)) | ((try simp only [GH.push_hid, GH.set_hid]); first | assumption | (refine GH.vis ?_ ?_ <;> first | assumption | ((try simp only [GH.pn, GH.sn]) <;> omega)))) only [go_sem, ↓reduceIte, Nat.reduceEqDiff, Nat.reduceAdd, Int.reduceToNat, Int.reduceAdd, Int.reduceNeg, Int.reduceSub, Int.reduceMul, Int.reduceLT, Int.reduceLE, Int.reduceEq, ↓GH.gp_eq, ↓GH.gp_ne, ↓GH.gs_eq, ↓GH.gs_ne, GH.push_next, GH.set_next, cq, bldM0, hC8]
        intro hx0
        exact ⟨by omega, rfl⟩
      · rw [if_pos (by omega)]
        simp +decide (disch := first | assumption | exact cellV_int _ _ | exact cellV_bool _ | omega | (simp only [GH.pn, GH.sn] <;> omega) | (with_reducible ((repeat (first | apply GH.ok_push | apply GH.ok_set)); assumption)) | ((try simp only [GH.push_hid, GH.set_hid]); first | assumption | (refine GH.vis ?_ ?_ <;> first | assumption | ((try simp only [GH.pn, GH.sn]) <;> omega)))) only [go_sem, ↓reduceIte, Nat.reduceEqDiff, Nat.reduceAdd, Int.reduceToNat, Int.reduceAdd, Int.reduceNeg, Int.reduceSub, Int.reduceMul, Int.reduceLT, Int.reduceLE, Int.reduceEq, ↓GH.gp_eq, ↓GH.gp_ne, ↓GH.gs_eq, ↓GH.gs_ne, GH.push_next, GH.set_next, cq]
        repeat ((first | refine Wk.once ?_ | refine Wk.more (Wk.once ?_) | refine Wk.leave ?_); simp +decide (disch := first | assumption | exact cellV_int _ _ | exact cellV_bool _ | omega | (simp only [GH.pn, GH.sn] <;> omega) | (with_reducible ((repeat (first | apply GH.ok_push | apply GH.ok_set)); assumption)) | ((try simp only [GH.push_hid, GH.set_hid]); first | assumption | (refine GH.vis ?_ ?_ <;> first | assumption | ((try simp only [GH.pn, GH.sn]) <;> omega)))) only [go_sem, ↓reduceIte, Nat.reduceEqDiff, Nat.reduceAdd, Int.reduceToNat, Int.reduceAdd, Int.reduceNeg, Int.reduceSub, Int.reduceMul, Int.reduceLT, Int.reduceLE, Int.reduceEq, ↓GH.gp_eq, ↓GH.gp_ne, ↓GH.gs_eq, ↓GH.gs_ne, GH.push_next, GH.set_next])
        refine CallD.calm (w2 g8) ?_
        rintro v g9 hx9 rfl
        have hn9 := hx9.next
        have hok9 := hx9.ok hok8
        have hC9 := (hx9.gets (g.next + 1) (by omega)).trans hC8
        have hD9 := (hx9.gets g2.next (by omega)).trans hD8
        obtain ⟨An, rfl⟩ : ∃ n : Nat, A = n := ⟨A.toNat, by omega⟩
        obtain ⟨Bn, rfl⟩ : ∃ n : Nat, B = n := ⟨B.toNat, by omega⟩
        have hil := inLowest2_rets hX An Bn (by omega) (by omega) (by omega) g9
        rw [Int.toNat_natCast, Int.toNat_natCast]
        unfold vcV at hil
        unfold mxV at hil ⊢
        simp +decide (disch := first | assumption | exact cellV_int _ _ | exact cellV_bool _ | omega | (simp only [GH.pn, GH.sn] <;> omega) | (with_reducible ((repeat (first | apply GH.ok_push | apply GH.ok_set)); assumption)) | ((try simp only [GH.push_hid, GH.set_hid]); first | assumption | (refine GH.vis ?_ ?_ <;> first | assumption | ((try simp only [GH.pn, GH.sn]) <;> omega)))) only [go_sem, ↓reduceIte, Nat.reduceEqDiff, Nat.reduceAdd, Int.reduceToNat, Int.reduceAdd, Int.reduceNeg, Int.reduceSub, Int.reduceMul, Int.reduceLT, Int.reduceLE, Int.reduceEq, ↓GH.gp_eq, ↓GH.gp_ne, ↓GH.gs_eq, ↓GH.gs_ne, GH.push_next, GH.set_next]
        repeat ((first | refine Wk.once ?_ | refine Wk.more (Wk.once ?_) | refine Wk.leave ?_); simp +decide (disch := first | assumption | exact cellV_int _ _ | exact cellV_bool _ | omega | (simp only [GH.pn, GH.sn] <;> omega) | (with_reducible ((repeat (first | apply GH.ok_push | apply GH.ok_set)); assumption)) | ((try simp only [GH.push_hid, GH.set_hid]); first | assumption | (refine GH.vis ?_ ?_ <;> first | assumption | ((try simp only [GH.pn, GH.sn]) <;> omega)))) only [go_sem, ↓reduceIte, Nat.reduceEqDiff, Nat.reduceAdd, Int.reduceToNat, Int.reduceAdd, Int.reduceNeg, Int.reduceSub, Int.reduceMul, Int.reduceLT, Int.reduceLE, Int.reduceEq, ↓GH.gp_eq, ↓GH.gp_ne, ↓GH.gs_eq, ↓GH.gs_ne, GH.push_next, GH.set_next, hD9])
        refine CallD.calm hil ?_
        rintro v g10 hx10 rfl
        have hn10 := hx10.next
        have hC10 := (hx10.gets (g.next + 1) (by omega)).trans hC9
        have hvC10 := GH.seen hC10 Nat.one_ne_zero
        simp +decide (disch := first | assumption | exact cellV_int _ _ | exact cellV_bool _ | omega | (simp only [GH.pn, GH.sn] <;> omega) | (with_reducible ((repeat (first | apply GH.ok_push | apply GH.ok_set)); assumption)) | ((try simp only [GH.push_hid, GH.set_hid]); first | assumption | (refine GH.vis ?_ ?_ <;> first | assumption | ((try simp only [GH.pn, GH.sn]) <;> omega)))) only [go_sem, ↓reduceIte, Nat.reduceEqDiff, Nat.reduceAdd, Int.reduceToNat, Int.reduceAdd, Int.reduceNeg, Int.reduceSub, Int.reduceMul, Int.reduceLT, Int.reduceLE, Int.reduceEq, ↓GH.gp_eq, ↓GH.gp_ne, ↓GH.gs_eq, ↓GH.gs_ne, GH.push_next, GH.set_next, hC10]
        intro hx0
        exact ⟨by omega, rfl⟩
  · have eP : rsP p q = p := by unfold rsP; rw [if_neg (by omega)]
    have eQ : rsQ p q = q := by unfold rsQ; rw [if_neg (by omega)]
    rw [eP, eQ]
    obtain ⟨A, hA⟩ : ∃ A, p = A := ⟨_, rfl⟩
    obtain ⟨B, hB⟩ : ∃ B, q = B := ⟨_, rfl⟩
    rw [hA, hB] at hD4 ⊢
    have hokK := hok4
    have hDK := hD4
    have hCK := hC4
    simp +decide (disch := first | assumption | exact cellV_int _ _ | exact cellV_bool _ | omega | (simp only [GH.pn, GH.sn] <;> omega) | (with_reducible ((repeat (first | apply GH.ok_push | apply GH.ok_set)); assumption)) | ((try simp only [GH.push_hid, GH.set_hid]); first | assumption | (refine GH.vis ?_ ?_ <;> first | assumption | ((try simp only [GH.pn, GH.sn]) <;> omega)))) only [go_sem, ↓reduceIte, Nat.reduceEqDiff, Nat.reduceAdd, Int.reduceToNat, Int.reduceAdd, Int.reduceNeg, Int.reduceSub, Int.reduceMul, Int.reduceLT, Int.reduceLE, Int.reduceEq, ↓GH.gp_eq, ↓GH.gp_ne, ↓GH.gs_eq, ↓GH.gs_ne, GH.push_next, GH.set_next, cs, hA, hB]
    simp +decide (disch := first | assumption | exact cellV_int _ _ | exact cellV_bool _ | omega | (simp only [GH.pn, GH.sn] <;> omega) | (with_reducible ((repeat (first | apply GH.ok_push | apply GH.ok_set)); assumption)) | ((try simp only [GH.push_hid, GH.set_hid]); first | assumption | (refine GH.vis ?_ ?_ <;> first | assumption | ((try simp only [GH.pn, GH.sn]) <;> omega)))) only [go_sem, ↓reduceIte, Nat.reduceEqDiff, Nat.reduceAdd, Int.reduceToNat, Int.reduceAdd, Int.reduceNeg, Int.reduceSub, Int.reduceMul, Int.reduceLT, Int.reduceLE, Int.reduceEq, ↓GH.gp_eq, ↓GH.gp_ne, ↓GH.gs_eq, ↓GH.gs_ne, GH.push_next, GH.set_next, hDK]
    repeat ((first | refine Wk.once ?_ | refine Wk.more (Wk.once ?_) | refine Wk.leave ?_); simp +decide (disch := first | assumption | exact cellV_int _ _ | exact cellV_bool _ | omega | (simp only [GH.pn, GH.sn] <;> omega) | (with_reducible ((repeat (first | apply GH.ok_push | apply GH.ok_set)); assumption)) | ((try simp only [GH.push_hid, GH.set_hid]); first | assumption | (refine GH.vis ?_ ?_ <;> first | assumption | ((try simp only [GH.pn, GH.sn]) <;> omega)))) only [go_sem, ↓reduceIte, Nat.reduceEqDiff, Nat.reduceAdd, Int.reduceToNat, Int.reduceAdd, Int.reduceNeg, Int.reduceSub, Int.reduceMul, Int.reduceLT, Int.reduceLE, Int.reduceEq, ↓GH.gp_eq, ↓GH.gp_ne, ↓GH.gs_eq, ↓GH.gs_ne, GH.push_next, GH.set_next, hDK])
    refine CallD.calm (w0 g4) ?_
    rintro v g7 hx7 rfl
    have hn7 := hx7.next
    have hok7 := hx7.ok hokK
    have hC7 := (hx7.gets (g.next + 1) (by omega)).trans hCK
    have hvC7 := GH.seen hC7 Nat.one_ne_zero
    have hD7 := (hx7.gets g2.next (by omega)).trans hDK
    by_cases cp : A ≤ 0
    · rw [if_neg (by omega)]
      simp +decide (disch := first | assumption | exact cellV_int _ _ | exact cellV_bool _ | omega | (simp only [GH.pn, GH.sn] <;> omega) | (with_reducible ((repeat (first | apply GH.ok_push | apply GH.ok_set)); assumption)) | ((try simp only [GH.push_hid, GH.set_hid]); first | assumption | (refine GH.vis ?_ ?_ <;> first | assumption | ((try simp only [GH.pn, GH.sn]) <;> omega)))) only [go_sem, ↓reduceIte, Nat.reduceEqDiff, Nat.reduceAdd, Int.reduceToNat, Int.reduceAdd, Int.reduceNeg, Int.reduceSub, Int.reduceMul, Int.reduceLT, Int.reduceLE, Int.reduceEq, ↓GH.gp_eq, ↓GH.gp_ne, ↓GH.gs_eq, ↓GH.gs_ne, GH.push_next, GH.set_next, cp, bldM0, hC7]
      intro hx0
      exact ⟨by omega, rfl⟩
    · simp +decide (disch := first | assumption | exact cellV_int _ _ | exact cellV_bool _ | omega | (simp only [GH.pn, GH.sn] <;> omega) | (with_reducible ((repeat (first | apply GH.ok_push | apply GH.ok_set)); assumption)) | ((try simp only [GH.push_hid, GH.set_hid]); first | assumption | (refine GH.vis ?_ ?_ <;> first | assumption | ((try simp only [GH.pn, GH.sn]) <;> omega)))) only [go_sem, ↓reduceIte, Nat.reduceEqDiff, Nat.reduceAdd, Int.reduceToNat, Int.reduceAdd, Int.reduceNeg, Int.reduceSub, Int.reduceMul, Int.reduceLT, Int.reduceLE, Int.reduceEq, ↓GH.gp_eq, ↓GH.gp_ne, ↓GH.gs_eq, ↓GH.gs_ne, GH.push_next, GH.set_next, cp]
      repeat ((first | refine Wk.once ?_ | refine Wk.more (Wk.once ?_) | refine Wk.leave ?_); simp +decide (disch := first | assumption | exact cellV_int _ _ | exact cellV_bool _ | omega | (simp only [GH.pn, GH.sn] <;> omega) | (with_reducible ((repeat (first | apply GH.ok_push | apply GH.ok_set)); assumption)) | ((try simp only [GH.push_hid, GH.set_hid]); first | assumption | (refine GH.vis ?_ ?_ <;> first | assumption | ((try simp only [GH.pn, GH.sn]) <;> omega)))) only [go_sem, ↓reduceIte, Nat.reduceEqDiff, Nat.reduceAdd, Int.reduceToNat, Int.reduceAdd, Int.reduceNeg, Int.reduceSub, Int.reduceMul, Int.reduceLT, Int.reduceLE, Int.reduceEq, ↓GH.gp_eq, ↓GH.gp_ne, ↓GH.gs_eq, ↓GH.gs_ne, GH.push_next, GH.set_next])
      refine CallD.calm (w1 g7) ?_
      rintro v g8 hx8 rfl
      have hn8 := hx8.next
      have hok8 := hx8.ok hok7
      have hC8 := (hx8.gets (g.next + 1) (by omega)).trans hC7
      have hvC8 := GH.seen hC8 Nat.one_ne_zero
      have hD8 := (hx8.gets g2.next (by omega)).trans hD7
      by_cases cq : B ≤ 0
      · rw [if_neg (by omega)]
        simp +decide (disch := first | assumption | exact cellV_int _ _ | exact cellV_bool _ | omega | (simp only [GH.pn, GH.sn] <;> omega) | (with_reducible ((repeat (first | apply GH.ok_push | apply GH.ok_set)); assumption)) | ((try simp only [GH.push_hid, GH.set_hid]); first | assumption | (refine GH.vis ?_ ?_ <;> first | assumption | ((try simp only [GH.pn, GH.sn]) <;> omega)))) only [go_sem, ↓reduceIte, Nat.reduceEqDiff, Nat.reduceAdd, Int.reduceToNat, Int.reduceAdd, Int.reduceNeg, Int.reduceSub, Int.reduceMul, Int.reduceLT, Int.reduceLE, Int.reduceEq, ↓GH.gp_eq, ↓GH.gp_ne, ↓GH.gs_eq, ↓GH.gs_ne, GH.push_next, GH.set_next, cq, bldM0, hC8]
        intro hx0
        exact ⟨by omega, rfl⟩
      · rw [if_pos (by omega)]
        simp +decide (disch := first | assumption | exact cellV_int _ _ | exact cellV_bool _ | omega | (simp only [GH.pn, GH.sn] <;> omega) | (with_reducible ((repeat (first | apply GH.ok_push | apply GH.ok_set)); assumption)) | ((try simp only [GH.push_hid, GH.set_hid]); first | assumption | (refine GH.vis ?_ ?_ <;> first | assumption | ((try simp only [GH.pn, GH.sn]) <;> omega)))) only [go_sem, ↓reduceIte, Nat.reduceEqDiff, Nat.reduceAdd, Int.reduceToNat, Int.reduceAdd, Int.reduceNeg, Int.reduceSub, Int.reduceMul, Int.reduceLT, Int.reduceLE, Int.reduceEq, ↓GH.gp_eq, ↓GH.gp_ne, ↓GH.gs_eq, ↓GH.gs_ne, GH.push_next, GH.set_next, cq]
        repeat ((first | refine Wk.once ?_ | refine Wk.more (Wk.once ?_) | refine Wk.leave ?_); simp +decide (disch := first | assumption | exact cellV_int _ _ | exact cellV_bool _ | omega | (simp only [GH.pn, GH.sn] <;> omega) | (with_reducible ((repeat (first | apply GH.ok_push | apply GH.ok_set)); assumption)) | ((try simp only [GH.push_hid, GH.set_hid]); first | assumption | (refine GH.vis ?_ ?_ <;> first | assumption | ((try simp only [GH.pn, GH.sn]) <;> omega)))) only [go_sem, ↓reduceIte, Nat.reduceEqDiff, Nat.reduceAdd, Int.reduceToNat, Int.reduceAdd, Int.reduceNeg, Int.reduceSub, Int.reduceMul, Int.reduceLT, Int.reduceLE, Int.reduceEq, ↓GH.gp_eq, ↓GH.gp_ne, ↓GH.gs_eq, ↓GH.gs_ne, GH.push_next, GH.set_next])
        refine CallD.calm (w2 g8) ?_
        rintro v g9 hx9 rfl
        have hn9 := hx9.next
        have hok9 := hx9.ok hok8
        have hC9 := (hx9.gets (g.next + 1) (by omega)).trans hC8
        have hD9 := (hx9.gets g2.next (by omega)).trans hD8
        obtain ⟨An, rfl⟩ : ∃ n : Nat, A = n := ⟨A.toNat, by omega⟩
        obtain ⟨Bn, rfl⟩ : ∃ n : Nat, B = n := ⟨B.toNat, by omega⟩
        have hil := inLowest2_rets hX An Bn (by omega) (by omega) (by omega) g9
        rw [Int.toNat_natCast, Int.toNat_natCast]
        unfold vcV at hil
        unfold mxV at hil ⊢
        simp +decide (disch := first | assumption | exact cellV_int _ _ | exact cellV_bool _ | omega | (simp only [GH.pn, GH.sn] <;> omega) | (with_reducible ((repeat (first | apply GH.ok_push | apply GH.ok_set)); assumption)) | ((try simp only [GH.push_hid, GH.set_hid]); first | assumption | (refine GH.vis ?_ ?_ <;> first | assumption | ((try simp only [GH.pn, GH.sn]) <;> omega)))) only [go_sem, ↓reduceIte, Nat.reduceEqDiff, Nat.reduceAdd, Int.reduceToNat, Int.reduceAdd, Int.reduceNeg, Int.reduceSub, Int.reduceMul, Int.reduceLT, Int.reduceLE, Int.reduceEq, ↓GH.gp_eq, ↓GH.gp_ne, ↓GH.gs_eq, ↓GH.gs_ne, GH.push_next, GH.set_next]
        repeat ((first | refine Wk.once ?_ | refine Wk.more (Wk.once ?_) | refine Wk.leave ?_); simp +decide (disch := first | assumption | exact cellV_int _ _ | exact cellV_bool _ | omega | (simp only [GH.pn, GH.sn] <;> omega) | (with_reducible ((repeat (first | apply GH.ok_push | apply GH.ok_set)); assumption)) | ((try simp only [GH.push_hid, GH.set_hid]); first | assumption | (refine GH.vis ?_ ?_ <;> first | assumption | ((try simp only [GH.pn, GH.sn]) <;> omega)))) only [go_sem, ↓reduceIte, Nat.reduceEqDiff, Nat.reduceAdd, Int.reduceToNat, Int.reduceAdd, Int.reduceNeg, Int.reduceSub, Int.reduceMul, Int.reduceLT, Int.reduceLE, Int.reduceEq, ↓GH.gp_eq, ↓GH.gp_ne, ↓GH.gs_eq, ↓GH.gs_ne, GH.push_next, GH.set_next, hD9])
        refine CallD.calm hil ?_
        rintro v g10 hx10 rfl
        have hn10 := hx10.next
        have hC10 := (hx10.gets (g.next + 1) (by omega)).trans hC9
        have hvC10 := GH.seen hC10 Nat.one_ne_zero
        simp +decide (disch := first | assumption | exact cellV_int _ _ | exact cellV_bool _ | omega | (simp only [GH.pn, GH.sn] <;> omega) | (with_reducible ((repeat (first | apply GH.ok_push | apply GH.ok_set)); assumption)) | ((try simp only [GH.push_hid, GH.set_hid]); first | assumption | (refine GH.vis ?_ ?_ <;> first | assumption | ((try simp only [GH.pn, GH.sn]) <;> omega)))) only [go_sem, ↓reduceIte, Nat.reduceEqDiff, Nat.reduceAdd, Int.reduceToNat, Int.reduceAdd, Int.reduceNeg, Int.reduceSub, Int.reduceMul, Int.reduceLT, Int.reduceLE, Int.reduceEq, ↓GH.gp_eq, ↓GH.gp_ne, ↓GH.gs_eq, ↓GH.gs_ne, GH.push_next, GH.set_next, hC10]
        intro hx0
        exact ⟨by omega, rfl⟩
end Go.Proofs.YtngmaccaldhjcaaDoor
set_option maxRecDepth 100000
set_option maxHeartbeats 4000000
set_option linter.unusedSimpArgs false
set_option linter.unusedVariables false
namespace Go.Proofs.YtngmaccaldhjcaaDoor
open Go.Ds
theorem slcA2 (j : Nat) : slcAF 3 1 (.pointer (some ⟨j, 0, none⟩)) none (some (.int .i64 2)) = some (.slice (some ⟨j, 0, none⟩) 2 3) := rfl
theorem parts2_rets {X : Caller} (hX : Xok X) (x0 x1 x2 d : Int) (g : GH) :
    Rets Tryd.prog X 61 [mxV x0 x1 x2 d, .int .i64 2] g (fun v g' lo => g.next ≤ lo ∧ ∃ o, v = paV o d ∧ SlR g' o (ints [x0, x1]) ∧ ∀ j0, j0 < g.next → AwayB o j0) := by
  unfold mxV paV
  refine Rets.run hX.pres p61 (hX.free 61 (by decide) _ _) rfl fun ho => ?_
  have hs2 := slcA2 g.next
  simp +decide (disch := first | assumption | exact cellV_int _ _ | exact cellV_bool _ | omega | (simp only [GH.pn, GH.sn] <;> omega) | (with_reducible ((repeat (first | apply GH.ok_push | apply GH.ok_set)); assumption)) | ((try simp only [GH.push_hid, GH.set_hid]); first | assumption | (refine GH.vis ?_ ?_ <;> first | assumption | ((try simp only [GH.pn, GH.sn]) <;> omega)))) only [go_sem, ↓reduceIte, Nat.reduceEqDiff, Nat.reduceAdd, Int.reduceToNat, Int.reduceAdd, Int.reduceNeg, Int.reduceSub, Int.reduceMul, Int.reduceLT, Int.reduceLE, Int.reduceEq, ↓GH.gp_eq, ↓GH.gp_ne, ↓GH.gs_eq, ↓GH.gs_ne, GH.push_next, GH.set_next, hs2]
  refine CallD.name fun H hH => ?_
  have hnH : H.next = g.next + 1 + 1 := by rw [hH]; rfl
  have hokH : H.ok := by rw [hH]; exact GH.ok_push (GH.ok_push ho)
  have hB : H.get g.next = cellsOb [.int .i64 x0, .int .i64 x1, .int .i64 x2, .int .i64 d] 69 := by rw [hH]; exact (by simp (disch := first | assumption | exact cellV_int _ _ | exact cellV_bool _ | omega | (simp only [GH.pn, GH.sn] <;> omega) | (with_reducible ((repeat (first | apply GH.ok_push | apply GH.ok_set)); assumption)) | ((try simp only [GH.push_hid, GH.set_hid]); first | assumption | (refine GH.vis ?_ ?_ <;> first | assumption | ((try simp only [GH.pn, GH.sn]) <;> omega)))) only [↓GH.gp_eq, ↓GH.gp_ne, ↓GH.gs_eq, ↓GH.gs_ne, GH.push_next, GH.set_next]; first | done | exact rfl)
  have hC : H.get (g.next + 1) = cellsOb [.slice none 0 0, .int .i64 0] 25 := by rw [hH]; exact (by simp (disch := first | assumption | exact cellV_int _ _ | exact cellV_bool _ | omega | (simp only [GH.pn, GH.sn] <;> omega) | (with_reducible ((repeat (first | apply GH.ok_push | apply GH.ok_set)); assumption)) | ((try simp only [GH.push_hid, GH.set_hid]); first | assumption | (refine GH.vis ?_ ?_ <;> first | assumption | ((try simp only [GH.pn, GH.sn]) <;> omega)))) only [↓GH.gp_eq, ↓GH.gp_ne, ↓GH.gs_eq, ↓GH.gs_ne, GH.push_next, GH.set_next]; first | done | exact rfl)
  have hsl : SlR H (.slice (some ⟨g.next, 0, none⟩) 2 3) (ints [x0, x1]) := .inr ⟨g.next, 0, 3, _, rfl, by omega, hB, .inl rfl, by simp [cellsOb, ints], rfl⟩
  refine CallD.calm (clone_rets hX [x0, x1] (by simp) (by simp) _ H hsl) ?_
  rintro w g1 hx1 hown
  have hn1 := hx1.next
  have hok1 := hx1.ok hokH
  have hB1 := (hx1.gets g.next (by omega)).trans hB
  have hC1 := (hx1.gets (g.next + 1) (by omega)).trans hC
  have hvC1 := GH.seen hC1 Nat.one_ne_zero
  have hcell := hown.read.cell
  have hw := Wrote.set (o := cellsOb [w, .int .i64 d] 25) hC1 Nat.one_ne_zero hok1
  have haw := OwnM.away hown (j0 := g.next + 1) (by omega)
  simp +decide (disch := first | assumption | exact cellV_int _ _ | exact cellV_bool _ | omega | (simp only [GH.pn, GH.sn] <;> omega) | (with_reducible ((repeat (first | apply GH.ok_push | apply GH.ok_set)); assumption)) | ((try simp only [GH.push_hid, GH.set_hid]); first | assumption | (refine GH.vis ?_ ?_ <;> first | assumption | ((try simp only [GH.pn, GH.sn]) <;> omega)))) only [go_sem, ↓reduceIte, Nat.reduceEqDiff, Nat.reduceAdd, Int.reduceToNat, Int.reduceAdd, Int.reduceNeg, Int.reduceSub, Int.reduceMul, Int.reduceLT, Int.reduceLE, Int.reduceEq, ↓GH.gp_eq, ↓GH.gp_ne, ↓GH.gs_eq, ↓GH.gs_ne, GH.push_next, GH.set_next, hB1, hC1, hcell]
  intro hx0
  exact ⟨by omega, _, rfl, hown.read.wrote hw haw, fun j0 h0 => OwnM.away hown (by omega)⟩
theorem Resting2_rets {X : Caller} (hX : Xok X) (a b c e : Int) (hT : tabB [[a, b], [c, e]] = true) (t : Value) (g : GH) (ht : Sl2 g t [[a, b], [c, e]]) :
    Rets Tryd.prog X 27 [t, .int .i64 3] g (fun v g' lo => g.next ≤ lo ∧ ((0 < rsP (e - b) (a - c) ∧ 0 < rsQ (e - b) (a - c)) → ∃ o, v = .tuple #[paV o (((rsP (e - b) (a - c)).toNat + (rsQ (e - b) (a - c)).toNat) / cmG (rsP (e - b) (a - c)).toNat (rsQ (e - b) (a - c)).toNat : Nat), .int .i64 0] ∧ SlR g' o (ints [((rsP (e - b) (a - c)).toNat / cmG (rsP (e - b) (a - c)).toNat (rsQ (e - b) (a - c)).toNat : Nat), ((rsQ (e - b) (a - c)).toNat / cmG (rsP (e - b) (a - c)).toNat (rsQ (e - b) (a - c)).toNat : Nat)])) ∧ (¬ (0 < rsP (e - b) (a - c) ∧ 0 < rsQ (e - b) (a - c)) → v = .tuple #[paV (.slice none 0 0) 0, .int .i64 10])) := by
  have hF : Few [[a, b], [c, e]] := ⟨by simp, fun R hR => by
    rcases List.mem_cons.1 hR with rfl | hR
    · simp
    · rcases List.mem_cons.1 hR with rfl | hR
      · simp
      · cases hR⟩
  have sa : Sm 20 a := te_sm hT 0 0
  have sb : Sm 20 b := te_sm hT 0 1
  have sc : Sm 20 c := te_sm hT 1 0
  have se : Sm 20 e := te_sm hT 1 1
  have hE : err0 [[a, b], [c, e]] = 0 := by unfold err0; rw [if_pos hT]
  have hlt := ht.len
  rw [show (([[a, b], [c, e]] : List (List Int)).length : Int) = 2 from rfl] at hlt
  have hrs := fun G => resting2_rets hX a b c e sa sb sc se G
  have hsh := shl_one (i := 2) (by omega)
  rw [show ((2 : Nat) : Int) = 2 from rfl, show ((2 ^ 2 : Nat) : Int) = 4 from rfl] at hsh
  obtain ⟨p, hp⟩ : ∃ p, e - b = p := ⟨_, rfl⟩
  obtain ⟨q, hq⟩ : ∃ q, a - c = q := ⟨_, rfl⟩
  rw [hp, hq] at hrs ⊢
  unfold paV
  refine Rets.run hX.pres p27 (hX.free 27 (by decide) _ _) rfl fun ho => ?_
  simp +decide (disch := first | assumption | exact cellV_int _ _ | exact cellV_bool _ | omega | (simp only [GH.pn, GH.sn] <;> omega) | (with_reducible ((repeat (first | apply GH.ok_push | apply GH.ok_set)); assumption)) | ((try simp only [GH.push_hid, GH.set_hid]); first | assumption | (refine GH.vis ?_ ?_ <;> first | assumption | ((try simp only [GH.pn, GH.sn]) <;> omega)))) only [go_sem, ↓reduceIte, Nat.reduceEqDiff, Nat.reduceAdd, Int.reduceToNat, Int.reduceAdd, Int.reduceNeg, Int.reduceSub, Int.reduceMul, Int.reduceLT, Int.reduceLE, Int.reduceEq, ↓GH.gp_eq, ↓GH.gp_ne, ↓GH.gs_eq, ↓GH.gs_ne, GH.push_next, GH.set_next]
  refine CallD.name fun H hH => ?_
  have hnH : H.next = g.next + 1 := by rw [hH]; rfl
  have hokH : H.ok := by rw [hH]; exact GH.ok_push ho
  have hk : Kept g H := by rw [hH]; exact (by (repeat' first | exact Kept.refl _ | assumption | refine Kept.push ?_ ?_ _ | refine Kept.setV ?_ ?_ ?_ _) <;> (first | assumption | exact cellV_int _ _ | exact cellV_bool _ | omega | (simp only [GH.pn, GH.sn] <;> omega) | (with_reducible ((repeat (first | apply GH.ok_push | apply GH.ok_set)); assumption)) | ((try simp only [GH.push_hid, GH.set_hid]); first | assumption | (refine GH.vis ?_ ?_ <;> first | assumption | ((try simp only [GH.pn, GH.sn]) <;> omega)))))
  have hC : H.get g.next = cellsOb [.slice none 0 0, .int .i64 0] 25 := by rw [hH]; exact (by simp (disch := first | assumption | exact cellV_int _ _ | exact cellV_bool _ | omega | (simp only [GH.pn, GH.sn] <;> omega) | (with_reducible ((repeat (first | apply GH.ok_push | apply GH.ok_set)); assumption)) | ((try simp only [GH.push_hid, GH.set_hid]); first | assumption | (refine GH.vis ?_ ?_ <;> first | assumption | ((try simp only [GH.pn, GH.sn]) <;> omega)))) only [↓GH.gp_eq, ↓GH.gp_ne, ↓GH.gs_eq, ↓GH.gs_ne, GH.push_next, GH.set_next]; first | done | exact rfl)
  have hck := check0_rets hX [[a, b], [c, e]] hF t H (ht.kept hk)
  rw [hE] at hck
  refine CallD.calm hck ?_
  rintro v g1 hx1 rfl
  have hn1 := hx1.next
  have hok1 := hx1.ok hokH
  have hk1 := hk.ext hx1
  have hC1 := (hx1.gets g.next (by omega)).trans hC
  have hma := market2_rets hX a b c e t g1 (ht.kept hk1)
  unfold mkV at hma hrs
  simp +decide (disch := first | assumption | exact cellV_int _ _ | exact cellV_bool _ | omega | (simp only [GH.pn, GH.sn] <;> omega) | (with_reducible ((repeat (first | apply GH.ok_push | apply GH.ok_set)); assumption)) | ((try simp only [GH.push_hid, GH.set_hid]); first | assumption | (refine GH.vis ?_ ?_ <;> first | assumption | ((try simp only [GH.pn, GH.sn]) <;> omega)))) only [go_sem, ↓reduceIte, Nat.reduceEqDiff, Nat.reduceAdd, Int.reduceToNat, Int.reduceAdd, Int.reduceNeg, Int.reduceSub, Int.reduceMul, Int.reduceLT, Int.reduceLE, Int.reduceEq, ↓GH.gp_eq, ↓GH.gp_ne, ↓GH.gs_eq, ↓GH.gs_ne, GH.push_next, GH.set_next, hlt, hsh]
  refine CallD.calm hma ?_
  rintro v g2 hx2 rfl
  have hn2 := hx2.next
  have hok2 := hx2.ok hok1
  have hC2 := (hx2.gets g.next (by omega)).trans hC1
  simp +decide (disch := first | assumption | exact cellV_int _ _ | exact cellV_bool _ | omega | (simp only [GH.pn, GH.sn] <;> omega) | (with_reducible ((repeat (first | apply GH.ok_push | apply GH.ok_set)); assumption)) | ((try simp only [GH.push_hid, GH.set_hid]); first | assumption | (refine GH.vis ?_ ?_ <;> first | assumption | ((try simp only [GH.pn, GH.sn]) <;> omega)))) only [go_sem, ↓reduceIte, Nat.reduceEqDiff, Nat.reduceAdd, Int.reduceToNat, Int.reduceAdd, Int.reduceNeg, Int.reduceSub, Int.reduceMul, Int.reduceLT, Int.reduceLE, Int.reduceEq, ↓GH.gp_eq, ↓GH.gp_ne, ↓GH.gs_eq, ↓GH.gs_ne, GH.push_next, GH.set_next]
  refine CallD.name fun H3 hH3 => ?_
  have hnH3 : H3.next = g2.next + 1 := by rw [hH3]; rfl
  have hokH3 : H3.ok := by rw [hH3]; exact GH.ok_set (GH.ok_push hok2)
  have hkH3 : Kept g2 H3 := by rw [hH3]; exact (by (repeat' first | exact Kept.refl _ | assumption | refine Kept.push ?_ ?_ _ | refine Kept.setV ?_ ?_ ?_ _) <;> (first | assumption | exact cellV_int _ _ | exact cellV_bool _ | omega | (simp only [GH.pn, GH.sn] <;> omega) | (with_reducible ((repeat (first | apply GH.ok_push | apply GH.ok_set)); assumption)) | ((try simp only [GH.push_hid, GH.set_hid]); first | assumption | (refine GH.vis ?_ ?_ <;> first | assumption | ((try simp only [GH.pn, GH.sn]) <;> omega)))))
  have hD3 : H3.get g2.next = cellsOb [.int .i64 2, .int .i64 a, .int .i64 b, .int .i64 0, .int .i64 c, .int .i64 e, .int .i64 0, .int .i64 0, .int .i64 0, .int .i64 0] 73 := by rw [hH3]; exact (by simp (disch := first | assumption | exact cellV_int _ _ | exact cellV_bool _ | omega | (simp only [GH.pn, GH.sn] <;> omega) | (with_reducible ((repeat (first | apply GH.ok_push | apply GH.ok_set)); assumption)) | ((try simp only [GH.push_hid, GH.set_hid]); first | assumption | (refine GH.vis ?_ ?_ <;> first | assumption | ((try simp only [GH.pn, GH.sn]) <;> omega)))) only [↓GH.gp_eq, ↓GH.gp_ne, ↓GH.gs_eq, ↓GH.gs_ne, GH.push_next, GH.set_next]; first | done | exact rfl)
  have hC3 := (hkH3.gets g.next (by omega)).trans hC2
  have hrs3 := hrs H3
  have e0 : ∀ a b : Value, extF (.tuple #[a, b]) 0 = some a := fun _ _ => rfl
  have e1 : ∀ a b : Value, extF (.tuple #[a, b]) 1 = some b := fun _ _ => rfl
  unfold rsV at hrs3
  by_cases hok : 0 < rsP p q ∧ 0 < rsQ p q
  · rw [if_pos hok] at hrs3
    obtain ⟨A, hA⟩ : ∃ A, (rsP p q).toNat / cmG (rsP p q).toNat (rsQ p q).toNat = A := ⟨_, rfl⟩
    obtain ⟨B, hB⟩ : ∃ B, (rsQ p q).toNat / cmG (rsP p q).toNat (rsQ p q).toNat = B := ⟨_, rfl⟩
    obtain ⟨D, hD⟩ : ∃ D, ((rsP p q).toNat + (rsQ p q).toNat) / cmG (rsP p q).toNat (rsQ p q).toNat = D := ⟨_, rfl⟩
    rw [hA, hB, hD] at hrs3 ⊢
    have hpa := fun G => parts2_rets hX A B 0 D G
    unfold mxV at hrs3 hpa
    unfold paV at hpa
    refine CallD.calm hrs3 ?_
    rintro v g4 hx4 rfl
    have hn4 := hx4.next
    have hok4 := hx4.ok hokH3
    have hC4 := (hx4.gets g.next (by omega)).trans hC3
    have hD4 := (hx4.gets g2.next (by omega)).trans hD3
    simp +decide (disch := first | assumption | exact cellV_int _ _ | exact cellV_bool _ | omega | (simp only [GH.pn, GH.sn] <;> omega) | (with_reducible ((repeat (first | apply GH.ok_push | apply GH.ok_set)); assumption)) | ((try simp only [GH.push_hid, GH.set_hid]); first | assumption | (refine GH.vis ?_ ?_ <;> first | assumption | ((try simp only [GH.pn, GH.sn]) <;> omega)))) only [go_sem, ↓reduceIte, Nat.reduceEqDiff, Nat.reduceAdd, Int.reduceToNat, Int.reduceAdd, Int.reduceNeg, Int.reduceSub, Int.reduceMul, Int.reduceLT, Int.reduceLE, Int.reduceEq, ↓GH.gp_eq, ↓GH.gp_ne, ↓GH.gs_eq, ↓GH.gs_ne, GH.push_next, GH.set_next, e0, e1, hD4]
    refine CallD.name fun H5 hH5 => ?_
    have hnH5 : H5.next = g4.next + 1 := by rw [hH5]; rfl
    have hokH5 : H5.ok := by rw [hH5]; exact GH.ok_set (GH.ok_push hok4)
    have hkH5 : Kept g4 H5 := by rw [hH5]; exact (by (repeat' first | exact Kept.refl _ | assumption | refine Kept.push ?_ ?_ _ | refine Kept.setV ?_ ?_ ?_ _) <;> (first | assumption | exact cellV_int _ _ | exact cellV_bool _ | omega | (simp only [GH.pn, GH.sn] <;> omega) | (with_reducible ((repeat (first | apply GH.ok_push | apply GH.ok_set)); assumption)) | ((try simp only [GH.push_hid, GH.set_hid]); first | assumption | (refine GH.vis ?_ ?_ <;> first | assumption | ((try simp only [GH.pn, GH.sn]) <;> omega)))))
    have hC5 := (hkH5.gets g.next (by omega)).trans hC4
    refine CallD.calm (R := fun v g6 => ∃ o, v = .agg #[o, .int .i64 (D : Int)] ∧ SlR g6 o (ints [(A : Int), (B : Int)]) ∧ ∀ j0, j0 < H5.next → AwayB o j0) (hpa H5) ?_
    rintro v g6 hx6 ⟨o, rfl, hso, haw⟩
    have hn6 := hx6.next
    have hC6 := (hx6.gets g.next (by omega)).trans hC5
    have hvC6 := GH.seen hC6 Nat.one_ne_zero
    have hcell := hso.cell
    simp +decide (disch := first | assumption | exact cellV_int _ _ | exact cellV_bool _ | omega | (simp only [GH.pn, GH.sn] <;> omega) | (with_reducible ((repeat (first | apply GH.ok_push | apply GH.ok_set)); assumption)) | ((try simp only [GH.push_hid, GH.set_hid]); first | assumption | (refine GH.vis ?_ ?_ <;> first | assumption | ((try simp only [GH.pn, GH.sn]) <;> omega)))) only [go_sem, ↓reduceIte, Nat.reduceEqDiff, Nat.reduceAdd, Int.reduceToNat, Int.reduceAdd, Int.reduceNeg, Int.reduceSub, Int.reduceMul, Int.reduceLT, Int.reduceLE, Int.reduceEq, ↓GH.gp_eq, ↓GH.gp_ne, ↓GH.gs_eq, ↓GH.gs_ne, GH.push_next, GH.set_next, hC6, hcell]
    intro hx0
    have hok6 := hx6.ok hokH5
    have hw := Wrote.set (o := cellsOb [o, .int .i64 (D : Int)] 25) hC6 Nat.one_ne_zero hok6
    exact ⟨by omega, fun _ => ⟨o, rfl, hso.wrote hw (haw g.next (by omega))⟩, fun h => absurd hok h⟩
  · rw [if_neg hok] at hrs3
    unfold mxV at hrs3
    refine CallD.calm hrs3 ?_
    rintro v g4 hx4 rfl
    have hn4 := hx4.next
    have hok4 := hx4.ok hokH3
    have hC4 := (hx4.gets g.next (by omega)).trans hC3
    have hvC4 := GH.seen hC4 Nat.one_ne_zero
    simp +decide (disch := first | assumption | exact cellV_int _ _ | exact cellV_bool _ | omega | (simp only [GH.pn, GH.sn] <;> omega) | (with_reducible ((repeat (first | apply GH.ok_push | apply GH.ok_set)); assumption)) | ((try simp only [GH.push_hid, GH.set_hid]); first | assumption | (refine GH.vis ?_ ?_ <;> first | assumption | ((try simp only [GH.pn, GH.sn]) <;> omega)))) only [go_sem, ↓reduceIte, Nat.reduceEqDiff, Nat.reduceAdd, Int.reduceToNat, Int.reduceAdd, Int.reduceNeg, Int.reduceSub, Int.reduceMul, Int.reduceLT, Int.reduceLE, Int.reduceEq, ↓GH.gp_eq, ↓GH.gp_ne, ↓GH.gs_eq, ↓GH.gs_ne, GH.push_next, GH.set_next, e0, e1, hC4]
    intro hx0
    exact ⟨by omega, fun h => absurd h hok, fun _ => rfl⟩
end Go.Proofs.YtngmaccaldhjcaaDoor
set_option maxRecDepth 100000
set_option linter.unusedSimpArgs false
set_option linter.unusedVariables false
namespace Go.Proofs.YtngmaccaldhjcaaDoor
open Go.Ds
theorem cmG_mul (k x y : Nat) (h : Nat.gcd (Nat.gcd (x + y) x) y = 1) : cmG (k * x) (k * y) = k := by
  unfold cmG
  rw [← Nat.mul_add, Nat.gcd_mul_left, Nat.gcd_mul_left, h, Nat.mul_one]
/-- What lasts is what rests, and each gains more against the other one than the other one does. -/
theorem haigh_there {a b c e : Int} {x y : Nat} (hx : 0 < x) (hy : 0 < y) (hg : Nat.gcd (Nat.gcd (x + y) x) y = 1) (h : last2 a b c e x y = true) :
    a < c ∧ e < b ∧ (0 < rsP (e - b) (a - c) ∧ 0 < rsQ (e - b) (a - c)) ∧ (rsP (e - b) (a - c)).toNat / cmG (rsP (e - b) (a - c)).toNat (rsQ (e - b) (a - c)).toNat = x ∧ (rsQ (e - b) (a - c)).toNat / cmG (rsP (e - b) (a - c)).toNat (rsQ (e - b) (a - c)).toNat = y ∧ ((rsP (e - b) (a - c)).toNat + (rsQ (e - b) (a - c)).toNat) / cmG (rsP (e - b) (a - c)).toNat (rsQ (e - b) (a - c)).toNat = x + y := by
  unfold last2 at h
  obtain ⟨h1, h2, h3⟩ := of_decide_eq_true h
  have h1 := h1 (by omega)
  have h2 := h2 (by omega)
  have heq : a * x + b * y = c * x + e * y := Int.le_antisymm h2 h1
  have hneg := h3 heq
  obtain ⟨u, hu⟩ : ∃ u, b - e = u := ⟨_, rfl⟩
  obtain ⟨w, hw⟩ : ∃ w, c - a = w := ⟨_, rfl⟩
  have huw : u * y = w * x := by rw [← hu, ← hw]; grind
  have hx' : (0 : Int) < x := by omega
  have hy' : (0 : Int) < y := by omega
  have hup : 0 < u := by
    refine Int.not_le.1 fun q => ?_
    have q1 : u * y ≤ 0 := Int.mul_nonpos_of_nonpos_of_nonneg q (by omega)
    have q2 : 0 < w := by omega
    have q3 := Int.mul_pos q2 hx'
    omega
  have hwp : 0 < w := by
    refine Int.not_le.1 fun q => ?_
    have q1 : w * x ≤ 0 := Int.mul_nonpos_of_nonpos_of_nonneg q (by omega)
    have q3 := Int.mul_pos hup hy'
    omega
  have eP : rsP (e - b) (a - c) = u := by unfold rsP; rw [if_pos (by omega)]; omega
  have eQ : rsQ (e - b) (a - c) = w := by unfold rsQ; rw [if_pos (by omega)]; omega
  rw [eP, eQ]
  obtain ⟨un, rfl⟩ : ∃ n : Nat, u = n := ⟨u.toNat, by omega⟩
  obtain ⟨wn, rfl⟩ : ∃ n : Nat, w = n := ⟨w.toNat, by omega⟩
  rw [Int.toNat_natCast, Int.toNat_natCast]
  have hn : un * y = wn * x := by exact_mod_cast huw
  have hco : Nat.Coprime x y := by
    have d1 : Nat.gcd x y ∣ Nat.gcd (Nat.gcd (x + y) x) y := Nat.dvd_gcd (Nat.dvd_gcd (Nat.dvd_add (Nat.gcd_dvd_left x y) (Nat.gcd_dvd_right x y)) (Nat.gcd_dvd_left x y)) (Nat.gcd_dvd_right x y)
    rw [hg] at d1
    exact Nat.dvd_one.1 d1
  have hdx : x ∣ un := hco.dvd_of_dvd_mul_right ⟨wn, by rw [hn, Nat.mul_comm]⟩
  obtain ⟨k, hk⟩ := hdx
  have hwk : wn = k * y := by
    rw [hk] at hn
    have : x * (k * y) = x * wn := by rw [← Nat.mul_assoc, hn, Nat.mul_comm]
    exact (Nat.eq_of_mul_eq_mul_left hx this).symm
  have huk : un = k * x := by rw [hk, Nat.mul_comm]
  have hkp : 0 < k := Nat.pos_of_ne_zero fun h0 => by rw [h0, Nat.zero_mul] at huk; omega
  rw [huk, hwk, cmG_mul k x y hg]
  exact ⟨by omega, by omega, ⟨by rw [← huk]; omega, by rw [← hwk]; omega⟩, Nat.mul_div_cancel_left x hkp, Nat.mul_div_cancel_left y hkp, by rw [← Nat.mul_add]; exact Nat.mul_div_cancel_left _ hkp⟩
theorem haigh_back {a b c e : Int} {x y : Nat} (hx : 0 < x) (hy : 0 < y) (h1 : a < c) (h2 : e < b) (hA : (rsP (e - b) (a - c)).toNat / cmG (rsP (e - b) (a - c)).toNat (rsQ (e - b) (a - c)).toNat = x) (hB : (rsQ (e - b) (a - c)).toNat / cmG (rsP (e - b) (a - c)).toNat (rsQ (e - b) (a - c)).toNat = y) :
    last2 a b c e x y = true := by
  have eP : rsP (e - b) (a - c) = b - e := by unfold rsP; rw [if_pos (by omega)]; omega
  have eQ : rsQ (e - b) (a - c) = c - a := by unfold rsQ; rw [if_pos (by omega)]; omega
  rw [eP, eQ] at hA hB
  obtain ⟨un, hu⟩ : ∃ n : Nat, b - e = n := ⟨(b - e).toNat, by omega⟩
  obtain ⟨wn, hw⟩ : ∃ n : Nat, c - a = n := ⟨(c - a).toNat, by omega⟩
  rw [hu, hw, Int.toNat_natCast, Int.toNat_natCast] at hA hB
  have g1 : cmG un wn ∣ un := Nat.dvd_trans (Nat.gcd_dvd_left _ _) (Nat.gcd_dvd_right _ _)
  have g2 : cmG un wn ∣ wn := Nat.gcd_dvd_right _ _
  obtain ⟨k, hk⟩ : ∃ k, cmG un wn = k := ⟨_, rfl⟩
  rw [hk] at hA hB g1 g2
  have e1 : un = k * x := by rw [← hA]; exact (Nat.mul_div_cancel' g1).symm
  have e2 : wn = k * y := by rw [← hB]; exact (Nat.mul_div_cancel' g2).symm
  have heq : a * x + b * y = c * x + e * y := by
    have hb : b = e + (k * x : Nat) := by rw [← e1]; omega
    have hc : c = a + (k * y : Nat) := by rw [← e2]; omega
    rw [hb, hc]
    push_cast
    grind
  unfold last2
  exact decide_eq_true ⟨fun _ => Int.le_of_eq heq.symm, fun _ => Int.le_of_eq heq, fun _ => by omega⟩
theorem last_one (a b c e : Int) : last2 a b c e 1 0 = (decide (c < a) || (decide (a = c) && decide (e < b))) := by
  unfold last2
  rw [Bool.eq_iff_iff, decide_eq_true_iff, Bool.or_eq_true, Bool.and_eq_true, decide_eq_true_iff, decide_eq_true_iff, decide_eq_true_iff]
  constructor
  · rintro ⟨h1, _, h3⟩
    have h1 := h1 (by omega)
    by_cases q : a = c
    · have := h3 (by omega); omega
    · omega
  · intro h
    exact ⟨fun _ => by omega, fun h => by omega, fun h => by omega⟩
theorem last_two (a b c e : Int) : last2 a b c e 0 1 = (decide (b < e) || (decide (e = b) && decide (a < c))) := by
  unfold last2
  rw [Bool.eq_iff_iff, decide_eq_true_iff, Bool.or_eq_true, Bool.and_eq_true, decide_eq_true_iff, decide_eq_true_iff, decide_eq_true_iff]
  constructor
  · rintro ⟨_, h2, h3⟩
    have h2 := h2 (by omega)
    by_cases q : b = e
    · have := h3 (by omega); omega
    · omega
  · intro h
    exact ⟨fun h => by omega, fun _ => by omega, fun h => by omega⟩
end Go.Proofs.YtngmaccaldhjcaaDoor
set_option maxRecDepth 100000
set_option maxHeartbeats 4000000
set_option linter.unusedSimpArgs false
set_option linter.unusedVariables false
namespace Go.Ds
section
variable {P : Program} {X : Caller} {Q : Out → Env → GH → Nat → Prop} {l : List PI} {k : Nat} {sp : List (Nat × (Nat × Nat))} {wr : List Nat} {ks : List Fr} {e : Env} {g : GH} {lo : Nat}
/-- Of the temporaries, no more than what is told. -/
theorem Wk.envR (F : Env → Prop) (h0 : F e) (h : ∀ e', F e' → Wk P X Q (.R l k sp wr ks e' g lo)) : Wk P X Q (.R l k sp wr ks e g lo) := h e h0
theorem Wk.envC {c : PC} (F : Env → Prop) (h0 : F e) (h : ∀ e', F e' → Wk P X Q (.C c ks e' g lo)) : Wk P X Q (.C c ks e g lo) := h e h0
end
end Go.Ds
namespace Go.Proofs.YtngmaccaldhjcaaDoor
open Go.Ds
theorem bldPX (j n c : Nat) (y : Int) : buildF [(0, 1), (1, 1)] none #[.slice none 0 0, .int .i64 0] [(0, .slice (some ⟨j, 0, none⟩) n c), (1, .int .i64 y)] = some (.agg #[.slice (some ⟨j, 0, none⟩) n c, .int .i64 y]) := rfl
theorem bslI2 (a b x y : Int) : bsl 1 #[.int .i64 a, .int .i64 b] [(0, .int .i64 x), (1, .int .i64 y)] = some #[.int .i64 x, .int .i64 y] := rfl
/-- Where the numbers of a table of two rows are read. -/
theorem tab2_reads {g : GH} {t : Value} {a b c e : Int} (ht : Sl2 g t [[a, b], [c, e]]) : ∃ v0 v1 j0 p0 j1 p1 ja pa jb pb jc pc je pe, (j0 < g.next ∧ j1 < g.next ∧ ja < g.next ∧ jb < g.next ∧ jc < g.next ∧ je < g.next) ∧
    iaddrSF 1 t (.int .i64 0) = some (.pointer (some ⟨j0, p0, none⟩)) ∧ iaddrSF 1 t (.int .i64 1) = some (.pointer (some ⟨j1, p1, none⟩)) ∧ (obLoad none (g.get j0) p0 = some v0 ∧ obLoad none (g.get j1) p1 = some v1) ∧
    (iaddrSF 1 v0 (.int .i64 0) = some (.pointer (some ⟨ja, pa, none⟩)) ∧ iaddrSF 1 v0 (.int .i64 1) = some (.pointer (some ⟨jb, pb, none⟩)) ∧ iaddrSF 1 v1 (.int .i64 0) = some (.pointer (some ⟨jc, pc, none⟩)) ∧ iaddrSF 1 v1 (.int .i64 1) = some (.pointer (some ⟨je, pe, none⟩))) ∧
    (obLoad none (g.get ja) pa = some (.int .i64 a) ∧ obLoad none (g.get jb) pb = some (.int .i64 b) ∧ obLoad none (g.get jc) pc = some (.int .i64 c) ∧ obLoad none (g.get je) pe = some (.int .i64 e)) := by
  obtain ⟨v0, j0, p0, h1, h2, h3, s0⟩ := ht.row 0 [a, b] rfl
  obtain ⟨v1, j1, p1, k1, k2, k3, s1⟩ := ht.row 1 [c, e] rfl
  obtain ⟨ja, pa, l1, l2, l3⟩ := s0.ptr (i := 0) (v := .int .i64 a) rfl
  obtain ⟨jb, pb, m1, m2, m3⟩ := s0.ptr (i := 1) (v := .int .i64 b) rfl
  obtain ⟨jc, pc, n1, n2, n3⟩ := s1.ptr (i := 0) (v := .int .i64 c) rfl
  obtain ⟨je, pe, q1, q2, q3⟩ := s1.ptr (i := 1) (v := .int .i64 e) rfl
  exact ⟨v0, v1, j0, p0, j1, p1, ja, pa, jb, pb, jc, pc, je, pe, ⟨h1, k1, l1, m1, n1, q1⟩, h2 0 rfl, k2 1 rfl, ⟨h3, k3⟩, ⟨l2 0 rfl, m2 1 rfl, n2 0 rfl, q2 1 rfl⟩,
    by rw [← load_eq none g ja pa 0]; exact l3 0, by rw [← load_eq none g jb pb 0]; exact m3 0, by rw [← load_eq none g jc pc 0]; exact n3 0, by rw [← load_eq none g je pe 0]; exact q3 0⟩
theorem haighLaw_rets {X : Caller} (hX : Xok X) (T : List (List Int)) (L : List Int) (d : Int) (t s : Value) (g : GH) (hTab : HasTab g) (ht : Sl2 g t T) (hs : SlR g s (ints L)) :
    Rets Tryd.prog X 10 [t, paV s d] g (fun v g' lo => g.next ≤ lo ∧ v = .bool true) := by
  have e0 : ∀ a b : Value, extF (.tuple #[a, b]) 0 = some a := fun _ _ => rfl
  have e1 : ∀ a b : Value, extF (.tuple #[a, b]) 1 = some b := fun _ _ => rfl
  have hq : ∀ p : Bool, eqBF true (.bool p) (.bool p) = some (.bool false) := fun p => by cases p <;> rfl
  have hc := hs.cell
  have hlt := ht.len
  unfold paV
  refine Rets.run hX.pres p10 (hX.free 10 (by decide) _ _) rfl fun ho => ?_
  simp +decide (disch := first | assumption | exact cellV_int _ _ | exact cellV_bool _ | omega | (simp only [GH.pn, GH.sn] <;> omega) | (with_reducible ((repeat (first | apply GH.ok_push | apply GH.ok_set)); assumption)) | ((try simp only [GH.push_hid, GH.set_hid]); first | assumption | (refine GH.vis ?_ ?_ <;> first | assumption | ((try simp only [GH.pn, GH.sn]) <;> omega)))) only [go_sem, ↓reduceIte, Nat.reduceEqDiff, Nat.reduceAdd, Int.reduceToNat, Int.reduceAdd, Int.reduceNeg, Int.reduceSub, Int.reduceMul, Int.reduceLT, Int.reduceLE, Int.reduceEq, ↓GH.gp_eq, ↓GH.gp_ne, ↓GH.gs_eq, ↓GH.gs_ne, GH.push_next, GH.set_next, hc]
  refine CallD.name fun H hH => ?_
  have hnH : H.next = g.next + 1 + 1 := by rw [hH]; rfl
  have hokH : H.ok := by rw [hH]; exact GH.ok_push (GH.ok_push ho)
  have hk : Kept g H := by rw [hH]; exact (by (repeat' first | exact Kept.refl _ | assumption | refine Kept.push ?_ ?_ _ | refine Kept.setV ?_ ?_ ?_ _) <;> (first | assumption | exact cellV_int _ _ | exact cellV_bool _ | omega | (simp only [GH.pn, GH.sn] <;> omega) | (with_reducible ((repeat (first | apply GH.ok_push | apply GH.ok_set)); assumption)) | ((try simp only [GH.push_hid, GH.set_hid]); first | assumption | (refine GH.vis ?_ ?_ <;> first | assumption | ((try simp only [GH.pn, GH.sn]) <;> omega)))))
  have hA : H.get g.next = cellsOb [s, .int .i64 d] 25 := by rw [hH]; exact (by simp (disch := first | assumption | exact cellV_int _ _ | exact cellV_bool _ | omega | (simp only [GH.pn, GH.sn] <;> omega) | (with_reducible ((repeat (first | apply GH.ok_push | apply GH.ok_set)); assumption)) | ((try simp only [GH.push_hid, GH.set_hid]); first | assumption | (refine GH.vis ?_ ?_ <;> first | assumption | ((try simp only [GH.pn, GH.sn]) <;> omega)))) only [↓GH.gp_eq, ↓GH.gp_ne, ↓GH.gs_eq, ↓GH.gs_ne, GH.push_next, GH.set_next]; first | done | exact rfl)
  have hg : H.get (g.next + 1) = cellsOb [s, .int .i64 d] 25 := by rw [hH]; exact (by simp (disch := first | assumption | exact cellV_int _ _ | exact cellV_bool _ | omega | (simp only [GH.pn, GH.sn] <;> omega) | (with_reducible ((repeat (first | apply GH.ok_push | apply GH.ok_set)); assumption)) | ((try simp only [GH.push_hid, GH.set_hid]); first | assumption | (refine GH.vis ?_ ?_ <;> first | assumption | ((try simp only [GH.pn, GH.sn]) <;> omega)))) only [↓GH.gp_eq, ↓GH.gp_ne, ↓GH.gs_eq, ↓GH.gs_ne, GH.push_next, GH.set_next]; first | done | exact rfl)
  refine CallD.calm (few1_rets hX T L s d t H (ht.kept hk) (hs.kept hk) (g.next + 1) 25 (by omega) hg) ?_
  rintro v g1 hx1 rfl
  have hn1 := hx1.next
  have hok1 := hx1.ok hokH
  have hk1 := hk.ext hx1
  have hA1 := (hx1.gets g.next (by omega)).trans hA
  cases hf : (fewT T && decide (L.length ≤ 20)) with
  | false =>
    simp +decide (disch := first | assumption | exact cellV_int _ _ | exact cellV_bool _ | omega | (simp only [GH.pn, GH.sn] <;> omega) | (with_reducible ((repeat (first | apply GH.ok_push | apply GH.ok_set)); assumption)) | ((try simp only [GH.push_hid, GH.set_hid]); first | assumption | (refine GH.vis ?_ ?_ <;> first | assumption | ((try simp only [GH.pn, GH.sn]) <;> omega)))) only [go_sem, ↓reduceIte, Nat.reduceEqDiff, Nat.reduceAdd, Int.reduceToNat, Int.reduceAdd, Int.reduceNeg, Int.reduceSub, Int.reduceMul, Int.reduceLT, Int.reduceLE, Int.reduceEq, ↓GH.gp_eq, ↓GH.gp_ne, ↓GH.gs_eq, ↓GH.gs_ne, GH.push_next, GH.set_next]
    refine CallD.calm (hX.alive _ (hTab.kept hk1)) ?_
    rintro v g2 hx2 rfl
    have hn2 := hx2.next
    simp +decide (disch := first | assumption | exact cellV_int _ _ | exact cellV_bool _ | omega | (simp only [GH.pn, GH.sn] <;> omega) | (with_reducible ((repeat (first | apply GH.ok_push | apply GH.ok_set)); assumption)) | ((try simp only [GH.push_hid, GH.set_hid]); first | assumption | (refine GH.vis ?_ ?_ <;> first | assumption | ((try simp only [GH.pn, GH.sn]) <;> omega)))) only [go_sem, ↓reduceIte, Nat.reduceEqDiff, Nat.reduceAdd, Int.reduceToNat, Int.reduceAdd, Int.reduceNeg, Int.reduceSub, Int.reduceMul, Int.reduceLT, Int.reduceLE, Int.reduceEq, ↓GH.gp_eq, ↓GH.gp_ne, ↓GH.gs_eq, ↓GH.gs_ne, GH.push_next, GH.set_next]
    intro hx0
    exact ⟨by omega, rfl⟩
  | true =>
    simp only [Bool.and_eq_true] at hf
    have hF := fewT_Few hf.1
    simp +decide (disch := first | assumption | exact cellV_int _ _ | exact cellV_bool _ | omega | (simp only [GH.pn, GH.sn] <;> omega) | (with_reducible ((repeat (first | apply GH.ok_push | apply GH.ok_set)); assumption)) | ((try simp only [GH.push_hid, GH.set_hid]); first | assumption | (refine GH.vis ?_ ?_ <;> first | assumption | ((try simp only [GH.pn, GH.sn]) <;> omega)))) only [go_sem, ↓reduceIte, Nat.reduceEqDiff, Nat.reduceAdd, Int.reduceToNat, Int.reduceAdd, Int.reduceNeg, Int.reduceSub, Int.reduceMul, Int.reduceLT, Int.reduceLE, Int.reduceEq, ↓GH.gp_eq, ↓GH.gp_ne, ↓GH.gs_eq, ↓GH.gs_ne, GH.push_next, GH.set_next]
    refine CallD.calm (refIsTable_rets hX T hF.2 t g1 (ht.kept hk1) hF.1) ?_
    rintro v g2 hx2 rfl
    have hn2 := hx2.next
    have hok2 := hx2.ok hok1
    have hk2 := hk1.ext hx2
    have hA2 := (hx2.gets g.next (by omega)).trans hA1
    cases hT : tabB T with
    | false =>
      simp +decide (disch := first | assumption | exact cellV_int _ _ | exact cellV_bool _ | omega | (simp only [GH.pn, GH.sn] <;> omega) | (with_reducible ((repeat (first | apply GH.ok_push | apply GH.ok_set)); assumption)) | ((try simp only [GH.push_hid, GH.set_hid]); first | assumption | (refine GH.vis ?_ ?_ <;> first | assumption | ((try simp only [GH.pn, GH.sn]) <;> omega)))) only [go_sem, ↓reduceIte, Nat.reduceEqDiff, Nat.reduceAdd, Int.reduceToNat, Int.reduceAdd, Int.reduceNeg, Int.reduceSub, Int.reduceMul, Int.reduceLT, Int.reduceLE, Int.reduceEq, ↓GH.gp_eq, ↓GH.gp_ne, ↓GH.gs_eq, ↓GH.gs_ne, GH.push_next, GH.set_next]
      refine CallD.calm (hX.alive _ (hTab.kept hk2)) ?_
      rintro v g3 hx3 rfl
      have hn3 := hx3.next
      simp +decide (disch := first | assumption | exact cellV_int _ _ | exact cellV_bool _ | omega | (simp only [GH.pn, GH.sn] <;> omega) | (with_reducible ((repeat (first | apply GH.ok_push | apply GH.ok_set)); assumption)) | ((try simp only [GH.push_hid, GH.set_hid]); first | assumption | (refine GH.vis ?_ ?_ <;> first | assumption | ((try simp only [GH.pn, GH.sn]) <;> omega)))) only [go_sem, ↓reduceIte, Nat.reduceEqDiff, Nat.reduceAdd, Int.reduceToNat, Int.reduceAdd, Int.reduceNeg, Int.reduceSub, Int.reduceMul, Int.reduceLT, Int.reduceLE, Int.reduceEq, ↓GH.gp_eq, ↓GH.gp_ne, ↓GH.gs_eq, ↓GH.gs_ne, GH.push_next, GH.set_next]
      intro hx0
      exact ⟨by omega, rfl⟩
    | true =>
      by_cases h2 : (T.length : Int) = 2
      case neg =>
        simp +decide (disch := first | assumption | exact cellV_int _ _ | exact cellV_bool _ | omega | (simp only [GH.pn, GH.sn] <;> omega) | (with_reducible ((repeat (first | apply GH.ok_push | apply GH.ok_set)); assumption)) | ((try simp only [GH.push_hid, GH.set_hid]); first | assumption | (refine GH.vis ?_ ?_ <;> first | assumption | ((try simp only [GH.pn, GH.sn]) <;> omega)))) only [go_sem, ↓reduceIte, Nat.reduceEqDiff, Nat.reduceAdd, Int.reduceToNat, Int.reduceAdd, Int.reduceNeg, Int.reduceSub, Int.reduceMul, Int.reduceLT, Int.reduceLE, Int.reduceEq, ↓GH.gp_eq, ↓GH.gp_ne, ↓GH.gs_eq, ↓GH.gs_ne, GH.push_next, GH.set_next, hlt, h2]
        refine CallD.calm (hX.alive _ (hTab.kept hk2)) ?_
        rintro v g3 hx3 rfl
        have hn3 := hx3.next
        simp +decide (disch := first | assumption | exact cellV_int _ _ | exact cellV_bool _ | omega | (simp only [GH.pn, GH.sn] <;> omega) | (with_reducible ((repeat (first | apply GH.ok_push | apply GH.ok_set)); assumption)) | ((try simp only [GH.push_hid, GH.set_hid]); first | assumption | (refine GH.vis ?_ ?_ <;> first | assumption | ((try simp only [GH.pn, GH.sn]) <;> omega)))) only [go_sem, ↓reduceIte, Nat.reduceEqDiff, Nat.reduceAdd, Int.reduceToNat, Int.reduceAdd, Int.reduceNeg, Int.reduceSub, Int.reduceMul, Int.reduceLT, Int.reduceLE, Int.reduceEq, ↓GH.gp_eq, ↓GH.gp_ne, ↓GH.gs_eq, ↓GH.gs_ne, GH.push_next, GH.set_next]
        intro hx0
        exact ⟨by omega, rfl⟩
      case pos =>
        obtain ⟨a, b, c, e, rfl⟩ : ∃ a b c e, T = [[a, b], [c, e]] := by
          rcases tab_cases hT with ⟨a, rfl⟩ | h | ⟨_, _, _, _, _, _, _, _, _, rfl⟩
          · simp at h2
          · exact h
          · simp at h2
        have sa : Sm 20 a := te_sm hT 0 0
        have sb : Sm 20 b := te_sm hT 0 1
        have sc : Sm 20 c := te_sm hT 1 0
        have se : Sm 20 e := te_sm hT 1 1
        unfold Sm at sa sb sc se
        simp +decide (disch := first | assumption | exact cellV_int _ _ | exact cellV_bool _ | omega | (simp only [GH.pn, GH.sn] <;> omega) | (with_reducible ((repeat (first | apply GH.ok_push | apply GH.ok_set)); assumption)) | ((try simp only [GH.push_hid, GH.set_hid]); first | assumption | (refine GH.vis ?_ ?_ <;> first | assumption | ((try simp only [GH.pn, GH.sn]) <;> omega)))) only [go_sem, ↓reduceIte, Nat.reduceEqDiff, Nat.reduceAdd, Int.reduceToNat, Int.reduceAdd, Int.reduceNeg, Int.reduceSub, Int.reduceMul, Int.reduceLT, Int.reduceLE, Int.reduceEq, ↓GH.gp_eq, ↓GH.gp_ne, ↓GH.gs_eq, ↓GH.gs_ne, GH.push_next, GH.set_next, hlt, h2]
        refine Wk.loops (fun m en g' lo => g.next ≤ lo ∧ Kept g2 g' ∧ ∃ i : Nat, i + m = 2 ∧ (ev en (.s 0) = t ∧ ev en (.s 3) = ptrTo g.next ∧ ev en (.s 5) = .int .i64 i))
          (fun en g' lo => g.next ≤ lo ∧ Kept g2 g' ∧ (ev en (.s 0) = t ∧ ev en (.s 3) = ptrTo g.next)) (n := 2) ?_ ?_ ?_
        · exact ⟨by omega, Kept.refl _, 0, by omega, (by simp +decide (disch := first | assumption | (apply GH.ok_push; assumption) | exact cellV_int _ _ | exact cellV_bool _ | omega) only [go_sem, ↓reduceIte, Nat.reduceEqDiff, Nat.reduceAdd, Int.reduceToNat]; first | done | exact rfl)⟩
        · rintro en g' lo ho' - ⟨hlo, hkz, he⟩
          have hzn := hkz.next
          have hAz := (hkz.gets g.next (by omega)).trans hA2
          simp +decide (disch := first | assumption | exact cellV_int _ _ | exact cellV_bool _ | omega | (simp only [GH.pn, GH.sn] <;> omega) | (with_reducible ((repeat (first | apply GH.ok_push | apply GH.ok_set)); assumption)) | ((try simp only [GH.push_hid, GH.set_hid]); first | assumption | (refine GH.vis ?_ ?_ <;> first | assumption | ((try simp only [GH.pn, GH.sn]) <;> omega)))) only [go_sem, ↓reduceIte, Nat.reduceEqDiff, Nat.reduceAdd, Int.reduceToNat, Int.reduceAdd, Int.reduceNeg, Int.reduceSub, Int.reduceMul, Int.reduceLT, Int.reduceLE, Int.reduceEq, ↓GH.gp_eq, ↓GH.gp_ne, ↓GH.gs_eq, ↓GH.gs_ne, GH.push_next, GH.set_next, he, hAz]
          have hks := hk2.trans hkz
          have hmi := refIsMix_rets hX 2 L d s g' (hs.kept hks)
          unfold paV at hmi
          refine CallD.calm hmi ?_
          rintro v g5 hx5 rfl
          have hn5 := hx5.next
          have hok5 := hx5.ok ho'
          have hk5 := hks.ext hx5
          have hA5 := (hx5.gets g.next (by omega)).trans hAz
          cases hM : mixB 2 L d with
          | false =>
            simp +decide (disch := first | assumption | exact cellV_int _ _ | exact cellV_bool _ | omega | (simp only [GH.pn, GH.sn] <;> omega) | (with_reducible ((repeat (first | apply GH.ok_push | apply GH.ok_set)); assumption)) | ((try simp only [GH.push_hid, GH.set_hid]); first | assumption | (refine GH.vis ?_ ?_ <;> first | assumption | ((try simp only [GH.pn, GH.sn]) <;> omega)))) only [go_sem, ↓reduceIte, Nat.reduceEqDiff, Nat.reduceAdd, Int.reduceToNat, Int.reduceAdd, Int.reduceNeg, Int.reduceSub, Int.reduceMul, Int.reduceLT, Int.reduceLE, Int.reduceEq, ↓GH.gp_eq, ↓GH.gp_ne, ↓GH.gs_eq, ↓GH.gs_ne, GH.push_next, GH.set_next, he]
            refine CallD.calm (hX.alive _ (hTab.kept hk5)) ?_
            rintro v g6 hx6 rfl
            have hn6 := hx6.next
            simp +decide (disch := first | assumption | exact cellV_int _ _ | exact cellV_bool _ | omega | (simp only [GH.pn, GH.sn] <;> omega) | (with_reducible ((repeat (first | apply GH.ok_push | apply GH.ok_set)); assumption)) | ((try simp only [GH.push_hid, GH.set_hid]); first | assumption | (refine GH.vis ?_ ?_ <;> first | assumption | ((try simp only [GH.pn, GH.sn]) <;> omega)))) only [go_sem, ↓reduceIte, Nat.reduceEqDiff, Nat.reduceAdd, Int.reduceToNat, Int.reduceAdd, Int.reduceNeg, Int.reduceSub, Int.reduceMul, Int.reduceLT, Int.reduceLE, Int.reduceEq, ↓GH.gp_eq, ↓GH.gp_ne, ↓GH.gs_eq, ↓GH.gs_ne, GH.push_next, GH.set_next, he]
            intro hx0
            exact ⟨by omega, rfl⟩
          | true =>
            obtain ⟨a1, a2, a3, a4, a5, a6, a7, a8⟩ := mix_facts (n := 2) hM
            obtain ⟨x0, x1, rfl⟩ : ∃ x0 x1, L = [x0, x1] := by
              match L, a3 with
              | [x0, x1], _ => exact ⟨x0, x1, rfl⟩
            have y0 : 0 ≤ x0 ∧ x0 ≤ d := a6 0
            have y1 : 0 ≤ x1 ∧ x1 ≤ d := a6 1
            have hsum : x0 + x1 = d := by have : 0 + x0 + x1 = d := a7; omega
            have hfa := refFash_rets hX [x0, x1] (by simp) d s g5 (hs.kept hk5)
            unfold paV at hfa
            have hfv : fashF (fun i => [x0, x1].getD i 0) [x0, x1].length = (if 0 < x0 then 1 else 0) + (if 0 < x1 then 2 else 0) := by
              show fashF (fun i => [x0, x1].getD i 0) 2 = _
              unfold fashF fashF fashF
              simp
            obtain ⟨FV, hFV⟩ : ∃ n, fashF (fun i => [x0, x1].getD i 0) [x0, x1].length = n := ⟨_, rfl⟩
            rw [hFV] at hfa hfv
            simp +decide (disch := first | assumption | exact cellV_int _ _ | exact cellV_bool _ | omega | (simp only [GH.pn, GH.sn] <;> omega) | (with_reducible ((repeat (first | apply GH.ok_push | apply GH.ok_set)); assumption)) | ((try simp only [GH.push_hid, GH.set_hid]); first | assumption | (refine GH.vis ?_ ?_ <;> first | assumption | ((try simp only [GH.pn, GH.sn]) <;> omega)))) only [go_sem, ↓reduceIte, Nat.reduceEqDiff, Nat.reduceAdd, Int.reduceToNat, Int.reduceAdd, Int.reduceNeg, Int.reduceSub, Int.reduceMul, Int.reduceLT, Int.reduceLE, Int.reduceEq, ↓GH.gp_eq, ↓GH.gp_ne, ↓GH.gs_eq, ↓GH.gs_ne, GH.push_next, GH.set_next, he, hA5]
            refine CallD.calm hfa ?_
            rintro v g6 hx6 rfl
            have hn6 := hx6.next
            have hok6 := hx6.ok hok5
            have hk6 := hk5.ext hx6
            have hA6 := (hx6.gets g.next (by omega)).trans hA5
            by_cases q : (FV : Int) = 3
            case neg =>
              simp +decide (disch := first | assumption | exact cellV_int _ _ | exact cellV_bool _ | omega | (simp only [GH.pn, GH.sn] <;> omega) | (with_reducible ((repeat (first | apply GH.ok_push | apply GH.ok_set)); assumption)) | ((try simp only [GH.push_hid, GH.set_hid]); first | assumption | (refine GH.vis ?_ ?_ <;> first | assumption | ((try simp only [GH.pn, GH.sn]) <;> omega)))) only [go_sem, ↓reduceIte, Nat.reduceEqDiff, Nat.reduceAdd, Int.reduceToNat, Int.reduceAdd, Int.reduceNeg, Int.reduceSub, Int.reduceMul, Int.reduceLT, Int.reduceLE, Int.reduceEq, ↓GH.gp_eq, ↓GH.gp_ne, ↓GH.gs_eq, ↓GH.gs_ne, GH.push_next, GH.set_next, he, q]
              refine CallD.calm (hX.alive _ (hTab.kept hk6)) ?_
              rintro v g7 hx7 rfl
              have hn7 := hx7.next
              simp +decide (disch := first | assumption | exact cellV_int _ _ | exact cellV_bool _ | omega | (simp only [GH.pn, GH.sn] <;> omega) | (with_reducible ((repeat (first | apply GH.ok_push | apply GH.ok_set)); assumption)) | ((try simp only [GH.push_hid, GH.set_hid]); first | assumption | (refine GH.vis ?_ ?_ <;> first | assumption | ((try simp only [GH.pn, GH.sn]) <;> omega)))) only [go_sem, ↓reduceIte, Nat.reduceEqDiff, Nat.reduceAdd, Int.reduceToNat, Int.reduceAdd, Int.reduceNeg, Int.reduceSub, Int.reduceMul, Int.reduceLT, Int.reduceLE, Int.reduceEq, ↓GH.gp_eq, ↓GH.gp_ne, ↓GH.gs_eq, ↓GH.gs_ne, GH.push_next, GH.set_next, he]
              intro hx0
              exact ⟨by omega, rfl⟩
            case pos =>
              have p0 : 0 < x0 := by
                refine Classical.byContradiction fun h => ?_
                rw [if_neg h] at hfv
                split at hfv <;> omega
              have p1 : 0 < x1 := by
                refine Classical.byContradiction fun h => ?_
                rw [if_neg h] at hfv
                split at hfv <;> omega
              obtain ⟨xn, rfl⟩ : ∃ n : Nat, x0 = n := ⟨x0.toNat, by omega⟩
              obtain ⟨yn, rfl⟩ : ∃ n : Nat, x1 = n := ⟨x1.toNat, by omega⟩
              have hgc : Nat.gcd (Nat.gcd (xn + yn) xn) yn = 1 := by
                have h8 : Nat.gcd (Nat.gcd d.natAbs (xn : Int).natAbs) (yn : Int).natAbs = 1 := a8
                rw [Int.natAbs_natCast, Int.natAbs_natCast, show d.natAbs = xn + yn by omega] at h8
                exact h8
              have there := haigh_there (a := a) (b := b) (c := c) (e := e) (x := xn) (y := yn) (by omega) (by omega) hgc
              have back := haigh_back (a := a) (b := b) (c := c) (e := e) (x := xn) (y := yn) (by omega) (by omega)
              obtain ⟨LV, hLV⟩ : ∃ l, last2 a b c e xn yn = l := ⟨_, rfl⟩
              rw [hLV] at there back
              have hre := Resting2_rets hX a b c e hT t g6 (ht.kept hk6)
              obtain ⟨A, hAA⟩ : ∃ A, (rsP (e - b) (a - c)).toNat / cmG (rsP (e - b) (a - c)).toNat (rsQ (e - b) (a - c)).toNat = A := ⟨_, rfl⟩
              obtain ⟨B, hBB⟩ : ∃ B, (rsQ (e - b) (a - c)).toNat / cmG (rsP (e - b) (a - c)).toNat (rsQ (e - b) (a - c)).toNat = B := ⟨_, rfl⟩
              obtain ⟨D, hDD⟩ : ∃ D, ((rsP (e - b) (a - c)).toNat + (rsQ (e - b) (a - c)).toNat) / cmG (rsP (e - b) (a - c)).toNat (rsQ (e - b) (a - c)).toNat = D := ⟨_, rfl⟩
              rw [hAA, hBB, hDD] at hre
              rw [hAA, hBB, hDD] at there
              rw [hAA, hBB] at back
              obtain ⟨OK, hOK⟩ : ∃ p, (0 < rsP (e - b) (a - c) ∧ 0 < rsQ (e - b) (a - c)) = p := ⟨_, rfl⟩
              rw [hOK] at hre there
              unfold paV at hre
              have hmx2 : mixB 2 [(xn : Int), (yn : Int)] d = true := hM
              simp +decide (disch := first | assumption | exact cellV_int _ _ | exact cellV_bool _ | omega | (simp only [GH.pn, GH.sn] <;> omega) | (with_reducible ((repeat (first | apply GH.ok_push | apply GH.ok_set)); assumption)) | ((try simp only [GH.push_hid, GH.set_hid]); first | assumption | (refine GH.vis ?_ ?_ <;> first | assumption | ((try simp only [GH.pn, GH.sn]) <;> omega)))) only [go_sem, ↓reduceIte, Nat.reduceEqDiff, Nat.reduceAdd, Int.reduceToNat, Int.reduceAdd, Int.reduceNeg, Int.reduceSub, Int.reduceMul, Int.reduceLT, Int.reduceLE, Int.reduceEq, ↓GH.gp_eq, ↓GH.gp_ne, ↓GH.gs_eq, ↓GH.gs_ne, GH.push_next, GH.set_next, he, q]
              refine CallD.calm (R := fun v g7 => (OK → ∃ o, v = .tuple #[.agg #[o, .int .i64 (D : Int)], .int .i64 0] ∧ SlR g7 o (ints [(A : Int), (B : Int)])) ∧ (¬ OK → v = .tuple #[.agg #[.slice none 0 0, .int .i64 0], .int .i64 10])) hre ?_
              rintro v g7 hx7 ⟨r1, r2⟩
              have hn7 := hx7.next
              have hok7 := hx7.ok hok6
              have hk7 := hk6.ext hx7
              have hA7 := (hx7.gets g.next (by omega)).trans hA6
              by_cases hok : OK
              · obtain ⟨o, rfl, hso⟩ := r1 hok
                have hco := hso.cell
                simp +decide (disch := first | assumption | exact cellV_int _ _ | exact cellV_bool _ | omega | (simp only [GH.pn, GH.sn] <;> omega) | (with_reducible ((repeat (first | apply GH.ok_push | apply GH.ok_set)); assumption)) | ((try simp only [GH.push_hid, GH.set_hid]); first | assumption | (refine GH.vis ?_ ?_ <;> first | assumption | ((try simp only [GH.pn, GH.sn]) <;> omega)))) only [go_sem, ↓reduceIte, Nat.reduceEqDiff, Nat.reduceAdd, Int.reduceToNat, Int.reduceAdd, Int.reduceNeg, Int.reduceSub, Int.reduceMul, Int.reduceLT, Int.reduceLE, Int.reduceEq, ↓GH.gp_eq, ↓GH.gp_ne, ↓GH.gs_eq, ↓GH.gs_ne, GH.push_next, GH.set_next, he, e0, e1, hco, hA7]
                refine CallD.name fun G8 hG8 => ?_
                have hnG8 : G8.next = g7.next + 1 := by rw [hG8]; rfl
                have hokG8 : G8.ok := by rw [hG8]; exact GH.ok_set (GH.ok_push hok7)
                have hkG8 : Kept g7 G8 := by rw [hG8]; exact (by (repeat' first | exact Kept.refl _ | assumption | refine Kept.push ?_ ?_ _ | refine Kept.setV ?_ ?_ ?_ _) <;> (first | assumption | exact cellV_int _ _ | exact cellV_bool _ | omega | (simp only [GH.pn, GH.sn] <;> omega) | (with_reducible ((repeat (first | apply GH.ok_push | apply GH.ok_set)); assumption)) | ((try simp only [GH.push_hid, GH.set_hid]); first | assumption | (refine GH.vis ?_ ?_ <;> first | assumption | ((try simp only [GH.pn, GH.sn]) <;> omega)))))
                have hR8 : G8.get g7.next = cellsOb [o, .int .i64 (D : Int)] 25 := by rw [hG8]; exact (by simp (disch := first | assumption | exact cellV_int _ _ | exact cellV_bool _ | omega | (simp only [GH.pn, GH.sn] <;> omega) | (with_reducible ((repeat (first | apply GH.ok_push | apply GH.ok_set)); assumption)) | ((try simp only [GH.push_hid, GH.set_hid]); first | assumption | (refine GH.vis ?_ ?_ <;> first | assumption | ((try simp only [GH.pn, GH.sn]) <;> omega)))) only [↓GH.gp_eq, ↓GH.gp_ne, ↓GH.gs_eq, ↓GH.gs_ne, GH.push_next, GH.set_next]; first | done | exact rfl)
                have hk8 := hk7.trans hkG8
                have hla := Lasts2_rets hX a b c e hT xn yn d hmx2 t s G8 (hTab.kept hk8) (ht.kept hk8) (hs.kept hk8)
                rw [hLV] at hla
                unfold paV at hla
                refine CallD.calm hla ?_
                rintro v g9 hx9 rfl
                have hn9 := hx9.next
                refine Wk.envR (fun e' => ev e' (.s 0) = t ∧ ev e' (.s 3) = ptrTo g.next ∧ ev e' (.s 11) = ptrTo g7.next ∧ ev e' (.s 12) = .int .i64 0 ∧ ev e' (.s 121) = .tuple #[.bool LV, .int .i64 0]) (by simp +decide (disch := first | assumption | (apply GH.ok_push; assumption) | exact cellV_int _ _ | exact cellV_bool _ | omega) only [go_sem, ↓reduceIte, Nat.reduceEqDiff, Nat.reduceAdd, Int.reduceToNat, he, e0, e1]; first | done | exact rfl) ?_
                intro en he
                have hok9 := hx9.ok hokG8
                have hk9 := hk8.ext hx9
                have hR9 := (hx9.gets g7.next (by omega)).trans hR8
                have hA9 := (hx9.gets g.next (by omega)).trans ((hkG8.gets g.next (by omega)).trans hA7)
                have hsm := Same_rets hX [(A : Int), (B : Int)] D [(xn : Int), (yn : Int)] d (by simp) o s g9 ((hso.kept hkG8).ext hx9) (hs.kept hk9)
                unfold paV at hsm
                simp +decide (disch := first | assumption | exact cellV_int _ _ | exact cellV_bool _ | omega | (simp only [GH.pn, GH.sn] <;> omega) | (with_reducible ((repeat (first | apply GH.ok_push | apply GH.ok_set)); assumption)) | ((try simp only [GH.push_hid, GH.set_hid]); first | assumption | (refine GH.vis ?_ ?_ <;> first | assumption | ((try simp only [GH.pn, GH.sn]) <;> omega)))) only [go_sem, ↓reduceIte, Nat.reduceEqDiff, Nat.reduceAdd, Int.reduceToNat, Int.reduceAdd, Int.reduceNeg, Int.reduceSub, Int.reduceMul, Int.reduceLT, Int.reduceLE, Int.reduceEq, ↓GH.gp_eq, ↓GH.gp_ne, ↓GH.gs_eq, ↓GH.gs_ne, GH.push_next, GH.set_next, he, e0, e1, hR9, hA9]
                refine CallD.calm hsm ?_
                rintro v g10 hx10 rfl
                have hn10 := hx10.next
                have hk10 := hk9.ext hx10
                obtain ⟨v0, v1, j0, p0', j1, p1', ja, pa, jb, pb, jc, pc, je, pe, ⟨w0, w1, w2, w3, w4, w5⟩, z0, z1, ⟨z2, z3⟩, ⟨z4, z5, z6, z7⟩, ⟨z8, z9, za, zb⟩⟩ := tab2_reads (ht.kept hk9)
                rw [← hx10.gets j0 w0] at z2
                rw [← hx10.gets j1 w1] at z3
                rw [← hx10.gets ja w2] at z8
                rw [← hx10.gets jb w3] at z9
                rw [← hx10.gets jc w4] at za
                rw [← hx10.gets je w5] at zb
                by_cases hsame : [(A : Int), (B : Int)] = [(xn : Int), (yn : Int)] ∧ (D : Int) = d
                · rw [decide_eq_true hsame]
                  have hax : A = xn := by have := hsame.1; simp at this; omega
                  have hby : B = yn := by have := hsame.1; simp at this; omega
                  by_cases c1 : a < c
                  · by_cases c2 : e < b
                    · have hT1 := back c1 c2 hax hby
                      rw [hT1] at hLV
                      subst hT1
                      simp +decide (disch := first | assumption | exact cellV_int _ _ | exact cellV_bool _ | omega | (simp only [GH.pn, GH.sn] <;> omega) | (with_reducible ((repeat (first | apply GH.ok_push | apply GH.ok_set)); assumption)) | ((try simp only [GH.push_hid, GH.set_hid]); first | assumption | (refine GH.vis ?_ ?_ <;> first | assumption | ((try simp only [GH.pn, GH.sn]) <;> omega)))) only [go_sem, ↓reduceIte, Nat.reduceEqDiff, Nat.reduceAdd, Int.reduceToNat, Int.reduceAdd, Int.reduceNeg, Int.reduceSub, Int.reduceMul, Int.reduceLT, Int.reduceLE, Int.reduceEq, ↓GH.gp_eq, ↓GH.gp_ne, ↓GH.gs_eq, ↓GH.gs_ne, GH.push_next, GH.set_next, he, e0, e1, z0, z1, z2, z3, z4, z5, z6, z7, z8, z9, za, zb, c1, c2]
                      refine CallD.calm (hX.alive _ (hTab.kept hk10)) ?_
                      rintro v g11 hx11 rfl
                      have hn11 := hx11.next
                      simp +decide (disch := first | assumption | exact cellV_int _ _ | exact cellV_bool _ | omega | (simp only [GH.pn, GH.sn] <;> omega) | (with_reducible ((repeat (first | apply GH.ok_push | apply GH.ok_set)); assumption)) | ((try simp only [GH.push_hid, GH.set_hid]); first | assumption | (refine GH.vis ?_ ?_ <;> first | assumption | ((try simp only [GH.pn, GH.sn]) <;> omega)))) only [go_sem, ↓reduceIte, Nat.reduceEqDiff, Nat.reduceAdd, Int.reduceToNat, Int.reduceAdd, Int.reduceNeg, Int.reduceSub, Int.reduceMul, Int.reduceLT, Int.reduceLE, Int.reduceEq, ↓GH.gp_eq, ↓GH.gp_ne, ↓GH.gs_eq, ↓GH.gs_ne, GH.push_next, GH.set_next, he]
                      intro hx0
                      exact ⟨by omega, rfl⟩
                    · have hT1 : LV = false := by
                        cases LV with
                        | false => rfl
                        | true => exact absurd (there rfl).2.1 c2
                      subst hT1
                      simp +decide (disch := first | assumption | exact cellV_int _ _ | exact cellV_bool _ | omega | (simp only [GH.pn, GH.sn] <;> omega) | (with_reducible ((repeat (first | apply GH.ok_push | apply GH.ok_set)); assumption)) | ((try simp only [GH.push_hid, GH.set_hid]); first | assumption | (refine GH.vis ?_ ?_ <;> first | assumption | ((try simp only [GH.pn, GH.sn]) <;> omega)))) only [go_sem, ↓reduceIte, Nat.reduceEqDiff, Nat.reduceAdd, Int.reduceToNat, Int.reduceAdd, Int.reduceNeg, Int.reduceSub, Int.reduceMul, Int.reduceLT, Int.reduceLE, Int.reduceEq, ↓GH.gp_eq, ↓GH.gp_ne, ↓GH.gs_eq, ↓GH.gs_ne, GH.push_next, GH.set_next, he, e0, e1, z0, z1, z2, z3, z4, z5, z6, z7, z8, z9, za, zb, c1, c2]
                      refine CallD.calm (hX.alive _ (hTab.kept hk10)) ?_
                      rintro v g11 hx11 rfl
                      have hn11 := hx11.next
                      simp +decide (disch := first | assumption | exact cellV_int _ _ | exact cellV_bool _ | omega | (simp only [GH.pn, GH.sn] <;> omega) | (with_reducible ((repeat (first | apply GH.ok_push | apply GH.ok_set)); assumption)) | ((try simp only [GH.push_hid, GH.set_hid]); first | assumption | (refine GH.vis ?_ ?_ <;> first | assumption | ((try simp only [GH.pn, GH.sn]) <;> omega)))) only [go_sem, ↓reduceIte, Nat.reduceEqDiff, Nat.reduceAdd, Int.reduceToNat, Int.reduceAdd, Int.reduceNeg, Int.reduceSub, Int.reduceMul, Int.reduceLT, Int.reduceLE, Int.reduceEq, ↓GH.gp_eq, ↓GH.gp_ne, ↓GH.gs_eq, ↓GH.gs_ne, GH.push_next, GH.set_next, he]
                      intro hx0
                      exact ⟨by omega, rfl⟩
                  · have hT1 : LV = false := by
                      cases LV with
                      | false => rfl
                      | true => exact absurd (there rfl).1 c1
                    subst hT1
                    simp +decide (disch := first | assumption | exact cellV_int _ _ | exact cellV_bool _ | omega | (simp only [GH.pn, GH.sn] <;> omega) | (with_reducible ((repeat (first | apply GH.ok_push | apply GH.ok_set)); assumption)) | ((try simp only [GH.push_hid, GH.set_hid]); first | assumption | (refine GH.vis ?_ ?_ <;> first | assumption | ((try simp only [GH.pn, GH.sn]) <;> omega)))) only [go_sem, ↓reduceIte, Nat.reduceEqDiff, Nat.reduceAdd, Int.reduceToNat, Int.reduceAdd, Int.reduceNeg, Int.reduceSub, Int.reduceMul, Int.reduceLT, Int.reduceLE, Int.reduceEq, ↓GH.gp_eq, ↓GH.gp_ne, ↓GH.gs_eq, ↓GH.gs_ne, GH.push_next, GH.set_next, he, e0, e1, z0, z1, z2, z3, z4, z5, z6, z7, z8, z9, za, zb, c1]
                    refine CallD.calm (hX.alive _ (hTab.kept hk10)) ?_
                    rintro v g11 hx11 rfl
                    have hn11 := hx11.next
                    simp +decide (disch := first | assumption | exact cellV_int _ _ | exact cellV_bool _ | omega | (simp only [GH.pn, GH.sn] <;> omega) | (with_reducible ((repeat (first | apply GH.ok_push | apply GH.ok_set)); assumption)) | ((try simp only [GH.push_hid, GH.set_hid]); first | assumption | (refine GH.vis ?_ ?_ <;> first | assumption | ((try simp only [GH.pn, GH.sn]) <;> omega)))) only [go_sem, ↓reduceIte, Nat.reduceEqDiff, Nat.reduceAdd, Int.reduceToNat, Int.reduceAdd, Int.reduceNeg, Int.reduceSub, Int.reduceMul, Int.reduceLT, Int.reduceLE, Int.reduceEq, ↓GH.gp_eq, ↓GH.gp_ne, ↓GH.gs_eq, ↓GH.gs_ne, GH.push_next, GH.set_next, he]
                    intro hx0
                    exact ⟨by omega, rfl⟩
                · rw [decide_eq_false hsame]
                  have hT1 : LV = false := by
                    cases LV with
                    | false => rfl
                    | true =>
                      obtain ⟨_, _, _, h4, h5, h6⟩ := there rfl
                      exact absurd ⟨by rw [h4, h5], by omega⟩ hsame
                  subst hT1
                  simp +decide (disch := first | assumption | exact cellV_int _ _ | exact cellV_bool _ | omega | (simp only [GH.pn, GH.sn] <;> omega) | (with_reducible ((repeat (first | apply GH.ok_push | apply GH.ok_set)); assumption)) | ((try simp only [GH.push_hid, GH.set_hid]); first | assumption | (refine GH.vis ?_ ?_ <;> first | assumption | ((try simp only [GH.pn, GH.sn]) <;> omega)))) only [go_sem, ↓reduceIte, Nat.reduceEqDiff, Nat.reduceAdd, Int.reduceToNat, Int.reduceAdd, Int.reduceNeg, Int.reduceSub, Int.reduceMul, Int.reduceLT, Int.reduceLE, Int.reduceEq, ↓GH.gp_eq, ↓GH.gp_ne, ↓GH.gs_eq, ↓GH.gs_ne, GH.push_next, GH.set_next, he, e0, e1]
                  refine CallD.calm (hX.alive _ (hTab.kept hk10)) ?_
                  rintro v g11 hx11 rfl
                  have hn11 := hx11.next
                  simp +decide (disch := first | assumption | exact cellV_int _ _ | exact cellV_bool _ | omega | (simp only [GH.pn, GH.sn] <;> omega) | (with_reducible ((repeat (first | apply GH.ok_push | apply GH.ok_set)); assumption)) | ((try simp only [GH.push_hid, GH.set_hid]); first | assumption | (refine GH.vis ?_ ?_ <;> first | assumption | ((try simp only [GH.pn, GH.sn]) <;> omega)))) only [go_sem, ↓reduceIte, Nat.reduceEqDiff, Nat.reduceAdd, Int.reduceToNat, Int.reduceAdd, Int.reduceNeg, Int.reduceSub, Int.reduceMul, Int.reduceLT, Int.reduceLE, Int.reduceEq, ↓GH.gp_eq, ↓GH.gp_ne, ↓GH.gs_eq, ↓GH.gs_ne, GH.push_next, GH.set_next, he]
                  intro hx0
                  exact ⟨by omega, rfl⟩
              · obtain rfl := r2 hok
                have hT1 : LV = false := by
                  cases LV with
                  | false => rfl
                  | true => exact absurd (there rfl).2.2.1 hok
                simp +decide (disch := first | assumption | exact cellV_int _ _ | exact cellV_bool _ | omega | (simp only [GH.pn, GH.sn] <;> omega) | (with_reducible ((repeat (first | apply GH.ok_push | apply GH.ok_set)); assumption)) | ((try simp only [GH.push_hid, GH.set_hid]); first | assumption | (refine GH.vis ?_ ?_ <;> first | assumption | ((try simp only [GH.pn, GH.sn]) <;> omega)))) only [go_sem, ↓reduceIte, Nat.reduceEqDiff, Nat.reduceAdd, Int.reduceToNat, Int.reduceAdd, Int.reduceNeg, Int.reduceSub, Int.reduceMul, Int.reduceLT, Int.reduceLE, Int.reduceEq, ↓GH.gp_eq, ↓GH.gp_ne, ↓GH.gs_eq, ↓GH.gs_ne, GH.push_next, GH.set_next, he, e0, e1, hA7]
                refine CallD.name fun G8 hG8 => ?_
                have hnG8 : G8.next = g7.next + 1 := by rw [hG8]; rfl
                have hokG8 : G8.ok := by rw [hG8]; exact GH.ok_set (GH.ok_push hok7)
                have hkG8 : Kept g7 G8 := by rw [hG8]; exact (by (repeat' first | exact Kept.refl _ | assumption | refine Kept.push ?_ ?_ _ | refine Kept.setV ?_ ?_ ?_ _) <;> (first | assumption | exact cellV_int _ _ | exact cellV_bool _ | omega | (simp only [GH.pn, GH.sn] <;> omega) | (with_reducible ((repeat (first | apply GH.ok_push | apply GH.ok_set)); assumption)) | ((try simp only [GH.push_hid, GH.set_hid]); first | assumption | (refine GH.vis ?_ ?_ <;> first | assumption | ((try simp only [GH.pn, GH.sn]) <;> omega)))))
                have hk8 := hk7.trans hkG8
                have hla := Lasts2_rets hX a b c e hT xn yn d hmx2 t s G8 (hTab.kept hk8) (ht.kept hk8) (hs.kept hk8)
                rw [hLV, hT1] at hla
                unfold paV at hla
                refine CallD.calm hla ?_
                rintro v g10 hx10 rfl
                have hn10 := hx10.next
                have hk10 := hk8.ext hx10
                refine Wk.envR (fun e' => ev e' (.s 0) = t ∧ ev e' (.s 3) = ptrTo g.next ∧ ev e' (.s 12) = .int .i64 10 ∧ ev e' (.s 121) = .tuple #[.bool false, .int .i64 0]) (by simp +decide (disch := first | assumption | (apply GH.ok_push; assumption) | exact cellV_int _ _ | exact cellV_bool _ | omega) only [go_sem, ↓reduceIte, Nat.reduceEqDiff, Nat.reduceAdd, Int.reduceToNat, he, e0, e1]; first | done | exact rfl) ?_
                intro en he
                simp +decide (disch := first | assumption | exact cellV_int _ _ | exact cellV_bool _ | omega | (simp only [GH.pn, GH.sn] <;> omega) | (with_reducible ((repeat (first | apply GH.ok_push | apply GH.ok_set)); assumption)) | ((try simp only [GH.push_hid, GH.set_hid]); first | assumption | (refine GH.vis ?_ ?_ <;> first | assumption | ((try simp only [GH.pn, GH.sn]) <;> omega)))) only [go_sem, ↓reduceIte, Nat.reduceEqDiff, Nat.reduceAdd, Int.reduceToNat, Int.reduceAdd, Int.reduceNeg, Int.reduceSub, Int.reduceMul, Int.reduceLT, Int.reduceLE, Int.reduceEq, ↓GH.gp_eq, ↓GH.gp_ne, ↓GH.gs_eq, ↓GH.gs_ne, GH.push_next, GH.set_next, he, e0, e1]
                refine CallD.calm (hX.alive _ (hTab.kept hk10)) ?_
                rintro v g11 hx11 rfl
                have hn11 := hx11.next
                simp +decide (disch := first | assumption | exact cellV_int _ _ | exact cellV_bool _ | omega | (simp only [GH.pn, GH.sn] <;> omega) | (with_reducible ((repeat (first | apply GH.ok_push | apply GH.ok_set)); assumption)) | ((try simp only [GH.push_hid, GH.set_hid]); first | assumption | (refine GH.vis ?_ ?_ <;> first | assumption | ((try simp only [GH.pn, GH.sn]) <;> omega)))) only [go_sem, ↓reduceIte, Nat.reduceEqDiff, Nat.reduceAdd, Int.reduceToNat, Int.reduceAdd, Int.reduceNeg, Int.reduceSub, Int.reduceMul, Int.reduceLT, Int.reduceLE, Int.reduceEq, ↓GH.gp_eq, ↓GH.gp_ne, ↓GH.gs_eq, ↓GH.gs_ne, GH.push_next, GH.set_next, he]
                intro hx0
                exact ⟨by omega, rfl⟩
        · rintro m en g' lo ho' hl' ih out ⟨hlo, hkz, i, hi, he⟩
          have hzn := hkz.next
          by_cases ci : i < 2
          · obtain rfl | rfl : i = 0 ∨ i = 1 := by omega
            · simp +decide (disch := first | assumption | exact cellV_int _ _ | exact cellV_bool _ | omega | (simp only [GH.pn, GH.sn] <;> omega) | (with_reducible ((repeat (first | apply GH.ok_push | apply GH.ok_set)); assumption)) | ((try simp only [GH.push_hid, GH.set_hid]); first | assumption | (refine GH.vis ?_ ?_ <;> first | assumption | ((try simp only [GH.pn, GH.sn]) <;> omega)))) only [go_sem, ↓reduceIte, Nat.reduceEqDiff, Nat.reduceAdd, Int.reduceToNat, Int.reduceAdd, Int.reduceNeg, Int.reduceSub, Int.reduceMul, Int.reduceLT, Int.reduceLE, Int.reduceEq, ↓GH.gp_eq, ↓GH.gp_ne, ↓GH.gs_eq, ↓GH.gs_ne, GH.push_next, GH.set_next, he, bldPX, bslI2]
              refine CallD.name fun G hG => ?_
              have hnG : G.next = g'.next + 1 + 1 := by rw [hG]; rfl
              have hokG : G.ok := by rw [hG]; exact GH.ok_set (GH.ok_push (GH.ok_push ho'))
              have hkG : Kept g' G := by rw [hG]; exact (by (repeat' first | exact Kept.refl _ | assumption | refine Kept.push ?_ ?_ _ | refine Kept.setV ?_ ?_ ?_ _) <;> (first | assumption | exact cellV_int _ _ | exact cellV_bool _ | omega | (simp only [GH.pn, GH.sn] <;> omega) | (with_reducible ((repeat (first | apply GH.ok_push | apply GH.ok_set)); assumption)) | ((try simp only [GH.push_hid, GH.set_hid]); first | assumption | (refine GH.vis ?_ ?_ <;> first | assumption | ((try simp only [GH.pn, GH.sn]) <;> omega)))))
              have hu : G.get g'.next = cellsOb (ints [1, 0]) 3 := by rw [hG]; exact (by simp (disch := first | assumption | exact cellV_int _ _ | exact cellV_bool _ | omega | (simp only [GH.pn, GH.sn] <;> omega) | (with_reducible ((repeat (first | apply GH.ok_push | apply GH.ok_set)); assumption)) | ((try simp only [GH.push_hid, GH.set_hid]); first | assumption | (refine GH.vis ?_ ?_ <;> first | assumption | ((try simp only [GH.pn, GH.sn]) <;> omega)))) only [↓GH.gp_eq, ↓GH.gp_ne, ↓GH.gs_eq, ↓GH.gs_ne, GH.push_next, GH.set_next]; first | done | exact rfl)
              have hsl := SlR.whole (n := 2) (c := 2) hu (by omega) rfl
              have hkk := (hk2.trans hkz).trans hkG
              have hla := Lasts2_rets hX a b c e hT 1 0 1 (by decide) t _ G (hTab.kept hkk) (ht.kept hkk) hsl
              rw [last_one] at hla
              unfold paV at hla
              obtain ⟨LV, hLV⟩ : ∃ l, (decide (c < a) || (decide (a = c) && decide (e < b))) = l := ⟨_, rfl⟩
              rw [hLV] at hla
              refine CallD.calm hla ?_
              rintro v g4 hx4 rfl
              have hn4 := hx4.next
              have hk4 := (hkz.trans hkG).ext hx4
              refine Wk.envR (fun e' => ev e' (.s 0) = t ∧ ev e' (.s 3) = ptrTo g.next ∧ ev e' (.s 5) = .int .i64 0 ∧ ev e' (.s 6) = .int .i64 1 ∧ ev e' (.s 45) = .tuple #[.bool LV, .int .i64 0]) (by simp +decide (disch := first | assumption | (apply GH.ok_push; assumption) | exact cellV_int _ _ | exact cellV_bool _ | omega) only [go_sem, ↓reduceIte, Nat.reduceEqDiff, Nat.reduceAdd, Int.reduceToNat, he]; first | done | exact rfl) ?_
              intro en he
              obtain ⟨v0, v1, j0, p0, j1, p1, ja, pa, jb, pb, jc, pc, je, pe, ⟨y0, y1, y2, y3, y4, y5⟩, z0, z1, ⟨z2, z3⟩, ⟨z4, z5, z6, z7⟩, ⟨z8, z9, za, zb⟩⟩ := tab2_reads (ht.kept (hkk.ext hx4))
              by_cases c1 : c < a
              · have hv : LV = true := by rw [← hLV]; simp [c1]
                subst hv
                simp +decide (disch := first | assumption | exact cellV_int _ _ | exact cellV_bool _ | omega | (simp only [GH.pn, GH.sn] <;> omega) | (with_reducible ((repeat (first | apply GH.ok_push | apply GH.ok_set)); assumption)) | ((try simp only [GH.push_hid, GH.set_hid]); first | assumption | (refine GH.vis ?_ ?_ <;> first | assumption | ((try simp only [GH.pn, GH.sn]) <;> omega)))) only [go_sem, ↓reduceIte, Nat.reduceEqDiff, Nat.reduceAdd, Int.reduceToNat, Int.reduceAdd, Int.reduceNeg, Int.reduceSub, Int.reduceMul, Int.reduceLT, Int.reduceLE, Int.reduceEq, ↓GH.gp_eq, ↓GH.gp_ne, ↓GH.gs_eq, ↓GH.gs_ne, GH.push_next, GH.set_next, he, e0, e1, hq, z0, z1, z2, z3, z4, z5, z6, z7, z8, z9, za, zb, c1]
                exact ih (m - 1) _ _ _ (by omega) ⟨by omega, hk4, 1, by omega, (by simp +decide (disch := first | assumption | (apply GH.ok_push; assumption) | exact cellV_int _ _ | exact cellV_bool _ | omega) only [go_sem, ↓reduceIte, Nat.reduceEqDiff, Nat.reduceAdd, Int.reduceToNat, he]; first | done | exact rfl)⟩
              · by_cases c2 : a = c
                · by_cases c3 : e < b
                  · have hv : LV = true := by rw [← hLV]; simp [c2, c3]
                    subst hv
                    simp +decide (disch := first | assumption | exact cellV_int _ _ | exact cellV_bool _ | omega | (simp only [GH.pn, GH.sn] <;> omega) | (with_reducible ((repeat (first | apply GH.ok_push | apply GH.ok_set)); assumption)) | ((try simp only [GH.push_hid, GH.set_hid]); first | assumption | (refine GH.vis ?_ ?_ <;> first | assumption | ((try simp only [GH.pn, GH.sn]) <;> omega)))) only [go_sem, ↓reduceIte, Nat.reduceEqDiff, Nat.reduceAdd, Int.reduceToNat, Int.reduceAdd, Int.reduceNeg, Int.reduceSub, Int.reduceMul, Int.reduceLT, Int.reduceLE, Int.reduceEq, ↓GH.gp_eq, ↓GH.gp_ne, ↓GH.gs_eq, ↓GH.gs_ne, GH.push_next, GH.set_next, he, e0, e1, hq, z0, z1, z2, z3, z4, z5, z6, z7, z8, z9, za, zb, c1, c2, c3]
                    exact ih (m - 1) _ _ _ (by omega) ⟨by omega, hk4, 1, by omega, (by simp +decide (disch := first | assumption | (apply GH.ok_push; assumption) | exact cellV_int _ _ | exact cellV_bool _ | omega) only [go_sem, ↓reduceIte, Nat.reduceEqDiff, Nat.reduceAdd, Int.reduceToNat, he]; first | done | exact rfl)⟩
                  · have hv : LV = false := by rw [← hLV, decide_eq_false c1, decide_eq_false c3]; simp
                    subst hv
                    simp +decide (disch := first | assumption | exact cellV_int _ _ | exact cellV_bool _ | omega | (simp only [GH.pn, GH.sn] <;> omega) | (with_reducible ((repeat (first | apply GH.ok_push | apply GH.ok_set)); assumption)) | ((try simp only [GH.push_hid, GH.set_hid]); first | assumption | (refine GH.vis ?_ ?_ <;> first | assumption | ((try simp only [GH.pn, GH.sn]) <;> omega)))) only [go_sem, ↓reduceIte, Nat.reduceEqDiff, Nat.reduceAdd, Int.reduceToNat, Int.reduceAdd, Int.reduceNeg, Int.reduceSub, Int.reduceMul, Int.reduceLT, Int.reduceLE, Int.reduceEq, ↓GH.gp_eq, ↓GH.gp_ne, ↓GH.gs_eq, ↓GH.gs_ne, GH.push_next, GH.set_next, he, e0, e1, hq, z0, z1, z2, z3, z4, z5, z6, z7, z8, z9, za, zb, c1, c2, c3]
                    exact ih (m - 1) _ _ _ (by omega) ⟨by omega, hk4, 1, by omega, (by simp +decide (disch := first | assumption | (apply GH.ok_push; assumption) | exact cellV_int _ _ | exact cellV_bool _ | omega) only [go_sem, ↓reduceIte, Nat.reduceEqDiff, Nat.reduceAdd, Int.reduceToNat, he]; first | done | exact rfl)⟩
                · have hv : LV = false := by rw [← hLV, decide_eq_false c1, decide_eq_false c2]; simp
                  subst hv
                  simp +decide (disch := first | assumption | exact cellV_int _ _ | exact cellV_bool _ | omega | (simp only [GH.pn, GH.sn] <;> omega) | (with_reducible ((repeat (first | apply GH.ok_push | apply GH.ok_set)); assumption)) | ((try simp only [GH.push_hid, GH.set_hid]); first | assumption | (refine GH.vis ?_ ?_ <;> first | assumption | ((try simp only [GH.pn, GH.sn]) <;> omega)))) only [go_sem, ↓reduceIte, Nat.reduceEqDiff, Nat.reduceAdd, Int.reduceToNat, Int.reduceAdd, Int.reduceNeg, Int.reduceSub, Int.reduceMul, Int.reduceLT, Int.reduceLE, Int.reduceEq, ↓GH.gp_eq, ↓GH.gp_ne, ↓GH.gs_eq, ↓GH.gs_ne, GH.push_next, GH.set_next, he, e0, e1, hq, z0, z1, z2, z3, z4, z5, z6, z7, z8, z9, za, zb, c1, c2]
                  exact ih (m - 1) _ _ _ (by omega) ⟨by omega, hk4, 1, by omega, (by simp +decide (disch := first | assumption | (apply GH.ok_push; assumption) | exact cellV_int _ _ | exact cellV_bool _ | omega) only [go_sem, ↓reduceIte, Nat.reduceEqDiff, Nat.reduceAdd, Int.reduceToNat, he]; first | done | exact rfl)⟩
            · simp +decide (disch := first | assumption | exact cellV_int _ _ | exact cellV_bool _ | omega | (simp only [GH.pn, GH.sn] <;> omega) | (with_reducible ((repeat (first | apply GH.ok_push | apply GH.ok_set)); assumption)) | ((try simp only [GH.push_hid, GH.set_hid]); first | assumption | (refine GH.vis ?_ ?_ <;> first | assumption | ((try simp only [GH.pn, GH.sn]) <;> omega)))) only [go_sem, ↓reduceIte, Nat.reduceEqDiff, Nat.reduceAdd, Int.reduceToNat, Int.reduceAdd, Int.reduceNeg, Int.reduceSub, Int.reduceMul, Int.reduceLT, Int.reduceLE, Int.reduceEq, ↓GH.gp_eq, ↓GH.gp_ne, ↓GH.gs_eq, ↓GH.gs_ne, GH.push_next, GH.set_next, he, bldPX, bslI2]
              refine CallD.name fun G hG => ?_
              have hnG : G.next = g'.next + 1 + 1 := by rw [hG]; rfl
              have hokG : G.ok := by rw [hG]; exact GH.ok_set (GH.ok_push (GH.ok_push ho'))
              have hkG : Kept g' G := by rw [hG]; exact (by (repeat' first | exact Kept.refl _ | assumption | refine Kept.push ?_ ?_ _ | refine Kept.setV ?_ ?_ ?_ _) <;> (first | assumption | exact cellV_int _ _ | exact cellV_bool _ | omega | (simp only [GH.pn, GH.sn] <;> omega) | (with_reducible ((repeat (first | apply GH.ok_push | apply GH.ok_set)); assumption)) | ((try simp only [GH.push_hid, GH.set_hid]); first | assumption | (refine GH.vis ?_ ?_ <;> first | assumption | ((try simp only [GH.pn, GH.sn]) <;> omega)))))
              have hu : G.get g'.next = cellsOb (ints [0, 1]) 3 := by rw [hG]; exact (by simp (disch := first | assumption | exact cellV_int _ _ | exact cellV_bool _ | omega | (simp only [GH.pn, GH.sn] <;> omega) | (with_reducible ((repeat (first | apply GH.ok_push | apply GH.ok_set)); assumption)) | ((try simp only [GH.push_hid, GH.set_hid]); first | assumption | (refine GH.vis ?_ ?_ <;> first | assumption | ((try simp only [GH.pn, GH.sn]) <;> omega)))) only [↓GH.gp_eq, ↓GH.gp_ne, ↓GH.gs_eq, ↓GH.gs_ne, GH.push_next, GH.set_next]; first | done | exact rfl)
              have hsl := SlR.whole (n := 2) (c := 2) hu (by omega) rfl
              have hkk := (hk2.trans hkz).trans hkG
              have hla := Lasts2_rets hX a b c e hT 0 1 1 (by decide) t _ G (hTab.kept hkk) (ht.kept hkk) hsl
              rw [last_two] at hla
              unfold paV at hla
              obtain ⟨LV, hLV⟩ : ∃ l, (decide (b < e) || (decide (e = b) && decide (a < c))) = l := ⟨_, rfl⟩
              rw [hLV] at hla
              refine CallD.calm hla ?_
              rintro v g4 hx4 rfl
              have hn4 := hx4.next
              have hk4 := (hkz.trans hkG).ext hx4
              refine Wk.envR (fun e' => ev e' (.s 0) = t ∧ ev e' (.s 3) = ptrTo g.next ∧ ev e' (.s 5) = .int .i64 1 ∧ ev e' (.s 6) = .int .i64 0 ∧ ev e' (.s 45) = .tuple #[.bool LV, .int .i64 0]) (by simp +decide (disch := first | assumption | (apply GH.ok_push; assumption) | exact cellV_int _ _ | exact cellV_bool _ | omega) only [go_sem, ↓reduceIte, Nat.reduceEqDiff, Nat.reduceAdd, Int.reduceToNat, he]; first | done | exact rfl) ?_
              intro en he
              obtain ⟨v0, v1, j0, p0, j1, p1, ja, pa, jb, pb, jc, pc, je, pe, ⟨y0, y1, y2, y3, y4, y5⟩, z0, z1, ⟨z2, z3⟩, ⟨z4, z5, z6, z7⟩, ⟨z8, z9, za, zb⟩⟩ := tab2_reads (ht.kept (hkk.ext hx4))
              by_cases c1 : b < e
              · have hv : LV = true := by rw [← hLV]; simp [c1]
                subst hv
                simp +decide (disch := first | assumption | exact cellV_int _ _ | exact cellV_bool _ | omega | (simp only [GH.pn, GH.sn] <;> omega) | (with_reducible ((repeat (first | apply GH.ok_push | apply GH.ok_set)); assumption)) | ((try simp only [GH.push_hid, GH.set_hid]); first | assumption | (refine GH.vis ?_ ?_ <;> first | assumption | ((try simp only [GH.pn, GH.sn]) <;> omega)))) only [go_sem, ↓reduceIte, Nat.reduceEqDiff, Nat.reduceAdd, Int.reduceToNat, Int.reduceAdd, Int.reduceNeg, Int.reduceSub, Int.reduceMul, Int.reduceLT, Int.reduceLE, Int.reduceEq, ↓GH.gp_eq, ↓GH.gp_ne, ↓GH.gs_eq, ↓GH.gs_ne, GH.push_next, GH.set_next, he, e0, e1, hq, z0, z1, z2, z3, z4, z5, z6, z7, z8, z9, za, zb, c1]
                exact ih (m - 1) _ _ _ (by omega) ⟨by omega, hk4, 2, by omega, (by simp +decide (disch := first | assumption | (apply GH.ok_push; assumption) | exact cellV_int _ _ | exact cellV_bool _ | omega) only [go_sem, ↓reduceIte, Nat.reduceEqDiff, Nat.reduceAdd, Int.reduceToNat, he]; first | done | exact rfl)⟩
              · by_cases c2 : e = b
                · by_cases c3 : a < c
                  · have hv : LV = true := by rw [← hLV]; simp [c2, c3]
                    subst hv
                    simp +decide (disch := first | assumption | exact cellV_int _ _ | exact cellV_bool _ | omega | (simp only [GH.pn, GH.sn] <;> omega) | (with_reducible ((repeat (first | apply GH.ok_push | apply GH.ok_set)); assumption)) | ((try simp only [GH.push_hid, GH.set_hid]); first | assumption | (refine GH.vis ?_ ?_ <;> first | assumption | ((try simp only [GH.pn, GH.sn]) <;> omega)))) only [go_sem, ↓reduceIte, Nat.reduceEqDiff, Nat.reduceAdd, Int.reduceToNat, Int.reduceAdd, Int.reduceNeg, Int.reduceSub, Int.reduceMul, Int.reduceLT, Int.reduceLE, Int.reduceEq, ↓GH.gp_eq, ↓GH.gp_ne, ↓GH.gs_eq, ↓GH.gs_ne, GH.push_next, GH.set_next, he, e0, e1, hq, z0, z1, z2, z3, z4, z5, z6, z7, z8, z9, za, zb, c1, c2, c3]
                    exact ih (m - 1) _ _ _ (by omega) ⟨by omega, hk4, 2, by omega, (by simp +decide (disch := first | assumption | (apply GH.ok_push; assumption) | exact cellV_int _ _ | exact cellV_bool _ | omega) only [go_sem, ↓reduceIte, Nat.reduceEqDiff, Nat.reduceAdd, Int.reduceToNat, he]; first | done | exact rfl)⟩
                  · have hv : LV = false := by rw [← hLV, decide_eq_false c1, decide_eq_false c3]; simp
                    subst hv
                    simp +decide (disch := first | assumption | exact cellV_int _ _ | exact cellV_bool _ | omega | (simp only [GH.pn, GH.sn] <;> omega) | (with_reducible ((repeat (first | apply GH.ok_push | apply GH.ok_set)); assumption)) | ((try simp only [GH.push_hid, GH.set_hid]); first | assumption | (refine GH.vis ?_ ?_ <;> first | assumption | ((try simp only [GH.pn, GH.sn]) <;> omega)))) only [go_sem, ↓reduceIte, Nat.reduceEqDiff, Nat.reduceAdd, Int.reduceToNat, Int.reduceAdd, Int.reduceNeg, Int.reduceSub, Int.reduceMul, Int.reduceLT, Int.reduceLE, Int.reduceEq, ↓GH.gp_eq, ↓GH.gp_ne, ↓GH.gs_eq, ↓GH.gs_ne, GH.push_next, GH.set_next, he, e0, e1, hq, z0, z1, z2, z3, z4, z5, z6, z7, z8, z9, za, zb, c1, c2, c3]
                    exact ih (m - 1) _ _ _ (by omega) ⟨by omega, hk4, 2, by omega, (by simp +decide (disch := first | assumption | (apply GH.ok_push; assumption) | exact cellV_int _ _ | exact cellV_bool _ | omega) only [go_sem, ↓reduceIte, Nat.reduceEqDiff, Nat.reduceAdd, Int.reduceToNat, he]; first | done | exact rfl)⟩
                · have hv : LV = false := by rw [← hLV, decide_eq_false c1, decide_eq_false c2]; simp
                  subst hv
                  simp +decide (disch := first | assumption | exact cellV_int _ _ | exact cellV_bool _ | omega | (simp only [GH.pn, GH.sn] <;> omega) | (with_reducible ((repeat (first | apply GH.ok_push | apply GH.ok_set)); assumption)) | ((try simp only [GH.push_hid, GH.set_hid]); first | assumption | (refine GH.vis ?_ ?_ <;> first | assumption | ((try simp only [GH.pn, GH.sn]) <;> omega)))) only [go_sem, ↓reduceIte, Nat.reduceEqDiff, Nat.reduceAdd, Int.reduceToNat, Int.reduceAdd, Int.reduceNeg, Int.reduceSub, Int.reduceMul, Int.reduceLT, Int.reduceLE, Int.reduceEq, ↓GH.gp_eq, ↓GH.gp_ne, ↓GH.gs_eq, ↓GH.gs_ne, GH.push_next, GH.set_next, he, e0, e1, hq, z0, z1, z2, z3, z4, z5, z6, z7, z8, z9, za, zb, c1, c2]
                  exact ih (m - 1) _ _ _ (by omega) ⟨by omega, hk4, 2, by omega, (by simp +decide (disch := first | assumption | (apply GH.ok_push; assumption) | exact cellV_int _ _ | exact cellV_bool _ | omega) only [go_sem, ↓reduceIte, Nat.reduceEqDiff, Nat.reduceAdd, Int.reduceToNat, he]; first | done | exact rfl)⟩
          · have : i = 2 := by omega
            subst this
            simp +decide (disch := first | assumption | exact cellV_int _ _ | exact cellV_bool _ | omega | (simp only [GH.pn, GH.sn] <;> omega) | (with_reducible ((repeat (first | apply GH.ok_push | apply GH.ok_set)); assumption)) | ((try simp only [GH.push_hid, GH.set_hid]); first | assumption | (refine GH.vis ?_ ?_ <;> first | assumption | ((try simp only [GH.pn, GH.sn]) <;> omega)))) only [go_sem, ↓reduceIte, Nat.reduceEqDiff, Nat.reduceAdd, Int.reduceToNat, Int.reduceAdd, Int.reduceNeg, Int.reduceSub, Int.reduceMul, Int.reduceLT, Int.reduceLE, Int.reduceEq, ↓GH.gp_eq, ↓GH.gp_ne, ↓GH.gs_eq, ↓GH.gs_ne, GH.push_next, GH.set_next, he]
            exact out _ _ _ ⟨hlo, hkz, (by simp +decide (disch := first | assumption | (apply GH.ok_push; assumption) | exact cellV_int _ _ | exact cellV_bool _ | omega) only [go_sem, ↓reduceIte, Nat.reduceEqDiff, Nat.reduceAdd, Int.reduceToNat, he]; first | done | exact rfl)⟩
end Go.Proofs.YtngmaccaldhjcaaDoor
