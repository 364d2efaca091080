import Derived.Test.YtngmaccaldhjcaaDoorJ3
import Derived.Test.YtngmaccaldhjcaaDoorKc
import Derived.Test.YtngmaccaldhjcaaDoorJ4
set_option linter.all false
set_option linter.unusedSimpArgs false
set_option linter.unnecessarySimpa false
set_option linter.unusedVariables false
set_option linter.unusedSectionVars false
set_option maxRecDepth 100000
set_option maxHeartbeats 4000000
set_option linter.unusedSimpArgs false
set_option linter.unusedVariables false
namespace Go.Ds
section
variable {P : Program} {X : Caller} {Q : Out → Env → GH → Nat → Prop} {gd : Option (P3 × Bool)} {dd : Option P3} {l : List PI} {k : Nat} {sp : List (Nat × (Nat × Nat))} {wr : List Nat} {ks : List Fr} {e : Env} {g : GH} {lo : Nat} {f : FuncId} {xs : List PO}
/-- A call of a function value that leaves what was there. -/
theorem GR.calmV {R : Value → GH → Prop} {x : PO} {first captured : Array Value} (hg : wantF e gd = some true) (hx : ev e x = .func (.func f) first captured) (hf : Rets P X f (first.toList ++ evs e xs ++ captured.toList) g (fun v g' lo' => g.next ≤ lo' ∧ R v g'))
    (h : ∀ v g', GExt g g' g.next → R v g' → GR P X Q l (Nat.succ k) ((k, (g.next, g'.next)) :: sp) wr ks (putE e dd v) g' lo) : GR P X Q (⟨gd, dd, none, some (.callV x xs), []⟩ :: l) k sp wr ks e g lo := by
  refine GR.use fun hl ho hs => ?_
  unfold Rets at hf
  obtain ⟨v, g', lo', ⟨i, d, n, h1⟩, h2, h3, h4⟩ := hf ho
  have : lo' = g.next := Nat.le_antisymm h2.low h3
  subst this
  have hp : Hp P X (.callV x xs) e g v g' g.next := by
    unfold Hp
    refine ⟨i, d, n, ?_⟩
    simp only [runH, callVF, hx]
    exact h1
  exact GR.more hg hp h2.hid h2.next (h v g' h2 h4)
theorem CallV.calm {args all : List Value} {R : Value → GH → Prop} {first captured : Array Value} (ha : first.toList ++ args ++ captured.toList = all) (hf : Rets P X f all g (fun v g' lo' => g.next ≤ lo' ∧ R v g'))
    (h : ∀ v g', GExt g g' g.next → R v g' → Wk P X Q (.R l (k + 1) ((k, (g.next, g'.next)) :: sp) wr ks (putE e dd v) g' lo)) : CallV P X Q (.func (.func f) first captured) args dd l k sp wr ks e g lo := fun y xs hy hz => by
  subst hz; subst ha
  exact GR.calmV rfl hy hf fun v g' x r => (h v g' x r).R
end
end Go.Ds
namespace Go.Proofs.YtngmaccaldhjcaaDoor
open Go.Ds
def mgV (n m00 m01 m02 m10 m11 m12 m20 m21 m22 p0 p1 p2 q0 q1 q2 : Int) : Value := .agg #[.int .i64 n, .int .i64 m00, .int .i64 m01, .int .i64 m02, .int .i64 m10, .int .i64 m11, .int .i64 m12, .int .i64 m20, .int .i64 m21, .int .i64 m22, .int .i64 p0, .int .i64 p1, .int .i64 p2, .int .i64 q0, .int .i64 q1, .int .i64 q2]
def Sm3 (b x y z : Int) : Prop := Sm b x ∧ Sm b y ∧ Sm b z
theorem eqA4 (a b c d x y z w : Int) : eqAF false 4 (.agg #[.int .i64 a, .int .i64 b, .int .i64 c, .int .i64 d]) (.agg #[.int .i64 x, .int .i64 y, .int .i64 z, .int .i64 w]) = some (.bool (decide (a = x ∧ b = y ∧ c = z ∧ d = w))) := by
  have hk : kindEq .i64 .i64 = true := rfl
  simp only [eqAF, intEqs, hk, eq_i, cond_true]
  by_cases h1 : a = x <;> by_cases h2 : b = y <;> by_cases h3 : c = z <;> by_cases h4 : d = w <;> simp [h1, h2, h3, h4, intEqs]
theorem bldG (c0 c1 c2 c3 c4 c5 c6 c7 c8 c9 u0 u1 u2 w0 w1 w2 : Value) : buildF [(0, 10), (10, 3), (13, 3)] none #[.int .i64 0, .int .i64 0, .int .i64 0, .int .i64 0, .int .i64 0, .int .i64 0, .int .i64 0, .int .i64 0, .int .i64 0, .int .i64 0, .int .i64 0, .int .i64 0, .int .i64 0, .int .i64 0, .int .i64 0, .int .i64 0] [(0, .agg #[c0, c1, c2, c3, c4, c5, c6, c7, c8, c9]), (1, .agg #[u0, u1, u2]), (2, .agg #[w0, w1, w2])] = some (.agg #[c0, c1, c2, c3, c4, c5, c6, c7, c8, c9, u0, u1, u2, w0, w1, w2]) := by
  have e1 : (Value.agg #[c0, c1, c2, c3, c4, c5, c6, c7, c8, c9]).cells = #[c0, c1, c2, c3, c4, c5, c6, c7, c8, c9] := rfl
  have e2 : (Value.agg #[u0, u1, u2]).cells = #[u0, u1, u2] := rfl
  have e3 : (Value.agg #[w0, w1, w2]).cells = #[w0, w1, w2] := rfl
  simp [buildF, Instr.fill, placeF, e1, e2, e3]
theorem spl16 (a0 a1 a2 a3 a4 a5 a6 a7 a8 a9 a10 a11 a12 a13 a14 a15 b0 b1 b2 b3 b4 b5 b6 b7 b8 b9 b10 b11 b12 b13 b14 b15 : Value) : splice 0 [a0, a1, a2, a3, a4, a5, a6, a7, a8, a9, a10, a11, a12, a13, a14, a15] [b0, b1, b2, b3, b4, b5, b6, b7, b8, b9, b10, b11, b12, b13, b14, b15] = [b0, b1, b2, b3, b4, b5, b6, b7, b8, b9, b10, b11, b12, b13, b14, b15] := rfl
theorem beqd (a b : Nat) : Nat.beq a b = decide (a = b) := by rw [Bool.eq_iff_iff]; simp
theorem home67_rets {X : Caller} (hX : Xok X) (n m00 m01 m02 m10 m11 m12 m20 m21 m22 p0 p1 p2 q0 q1 q2 : Int) (hm : Sm9 m00 m01 m02 m10 m11 m12 m20 m21 m22) (hp : Sm3 100000000 p0 p1 p2) (hq : Sm3 100000000 q0 q1 q2) (g : GH) :
    Rets Tryd.prog X 67 [mgV n m00 m01 m02 m10 m11 m12 m20 m21 m22 p0 p1 p2 q0 q1 q2] g (fun v g' lo => g.next ≤ lo ∧ v = .int .i64 (gainZ m00 m01 m02 m10 m11 m12 m20 m21 m22 p0 p1 p2 p0 p1 p2)) := by
  have hga := gain_rets hX n m00 m01 m02 m10 m11 m12 m20 m21 m22 p0 p1 p2 p0 p1 p2 100000000 100000000 20 hm hp hp (by decide) (by decide)
  have hgs := gain_sm hm hp hp
  unfold mkV vcV at hga
  unfold mgV
  obtain ⟨Z, hZ⟩ : ∃ Z, gainZ m00 m01 m02 m10 m11 m12 m20 m21 m22 p0 p1 p2 p0 p1 p2 = Z := ⟨_, rfl⟩
  rw [hZ] at hga hgs ⊢
  refine Rets.run hX.pres p67 (hX.free 67 (by decide) _ _) rfl fun ho => ?_
  simp +decide (disch := first | assumption | exact cellV_int _ _ | exact cellV_bool _ | omega | (simp only [GH.pn, GH.sn] <;> omega) | (with_reducible ((repeat (first | apply GH.ok_push | apply GH.ok_set)); assumption)) | ((try simp only [GH.push_hid, GH.set_hid]); first | assumption | (refine GH.vis ?_ ?_ <;> first | assumption | ((try simp only [GH.pn, GH.sn]) <;> omega)))) only [go_sem, ↓reduceIte, Nat.reduceEqDiff, Nat.reduceAdd, Int.reduceToNat, Int.reduceAdd, Int.reduceNeg, Int.reduceSub, Int.reduceMul, Int.reduceLT, Int.reduceLE, Int.reduceEq, ↓GH.gp_eq, ↓GH.gp_ne, ↓GH.gs_eq, ↓GH.gs_ne, GH.push_next, GH.set_next]
  refine CallD.calm (hga _) ?_
  rintro v g1 hx1 rfl
  simp +decide (disch := first | assumption | exact cellV_int _ _ | exact cellV_bool _ | omega | (simp only [GH.pn, GH.sn] <;> omega) | (with_reducible ((repeat (first | apply GH.ok_push | apply GH.ok_set)); assumption)) | ((try simp only [GH.push_hid, GH.set_hid]); first | assumption | (refine GH.vis ?_ ?_ <;> first | assumption | ((try simp only [GH.pn, GH.sn]) <;> omega)))) only [go_sem, ↓reduceIte, Nat.reduceEqDiff, Nat.reduceAdd, Int.reduceToNat, Int.reduceAdd, Int.reduceNeg, Int.reduceSub, Int.reduceMul, Int.reduceLT, Int.reduceLE, Int.reduceEq, ↓GH.gp_eq, ↓GH.gp_ne, ↓GH.gs_eq, ↓GH.gs_ne, GH.push_next, GH.set_next]
  intro hx0
  exact ⟨by have := hx1.next; simp only [GH.pn, GH.sn] at this ⊢; omega, rfl⟩
theorem home68_rets {X : Caller} (hX : Xok X) (n m00 m01 m02 m10 m11 m12 m20 m21 m22 p0 p1 p2 q0 q1 q2 : Int) (hm : Sm9 m00 m01 m02 m10 m11 m12 m20 m21 m22) (hp : Sm3 100000000 p0 p1 p2) (hq : Sm3 100000000 q0 q1 q2) (g : GH) :
    Rets Tryd.prog X 68 [mgV n m00 m01 m02 m10 m11 m12 m20 m21 m22 p0 p1 p2 q0 q1 q2] g (fun v g' lo => g.next ≤ lo ∧ v = .int .i64 (gainZ m00 m01 m02 m10 m11 m12 m20 m21 m22 q0 q1 q2 p0 p1 p2)) := by
  have hga := gain_rets hX n m00 m01 m02 m10 m11 m12 m20 m21 m22 q0 q1 q2 p0 p1 p2 100000000 100000000 20 hm hq hp (by decide) (by decide)
  have hgs := gain_sm hm hq hp
  unfold mkV vcV at hga
  unfold mgV
  obtain ⟨Z, hZ⟩ : ∃ Z, gainZ m00 m01 m02 m10 m11 m12 m20 m21 m22 q0 q1 q2 p0 p1 p2 = Z := ⟨_, rfl⟩
  rw [hZ] at hga hgs ⊢
  refine Rets.run hX.pres p68 (hX.free 68 (by decide) _ _) rfl fun ho => ?_
  simp +decide (disch := first | assumption | exact cellV_int _ _ | exact cellV_bool _ | omega | (simp only [GH.pn, GH.sn] <;> omega) | (with_reducible ((repeat (first | apply GH.ok_push | apply GH.ok_set)); assumption)) | ((try simp only [GH.push_hid, GH.set_hid]); first | assumption | (refine GH.vis ?_ ?_ <;> first | assumption | ((try simp only [GH.pn, GH.sn]) <;> omega)))) only [go_sem, ↓reduceIte, Nat.reduceEqDiff, Nat.reduceAdd, Int.reduceToNat, Int.reduceAdd, Int.reduceNeg, Int.reduceSub, Int.reduceMul, Int.reduceLT, Int.reduceLE, Int.reduceEq, ↓GH.gp_eq, ↓GH.gp_ne, ↓GH.gs_eq, ↓GH.gs_ne, GH.push_next, GH.set_next]
  refine CallD.calm (hga _) ?_
  rintro v g1 hx1 rfl
  simp +decide (disch := first | assumption | exact cellV_int _ _ | exact cellV_bool _ | omega | (simp only [GH.pn, GH.sn] <;> omega) | (with_reducible ((repeat (first | apply GH.ok_push | apply GH.ok_set)); assumption)) | ((try simp only [GH.push_hid, GH.set_hid]); first | assumption | (refine GH.vis ?_ ?_ <;> first | assumption | ((try simp only [GH.pn, GH.sn]) <;> omega)))) only [go_sem, ↓reduceIte, Nat.reduceEqDiff, Nat.reduceAdd, Int.reduceToNat, Int.reduceAdd, Int.reduceNeg, Int.reduceSub, Int.reduceMul, Int.reduceLT, Int.reduceLE, Int.reduceEq, ↓GH.gp_eq, ↓GH.gp_ne, ↓GH.gs_eq, ↓GH.gs_ne, GH.push_next, GH.set_next]
  intro hx0
  exact ⟨by have := hx1.next; simp only [GH.pn, GH.sn] at this ⊢; omega, rfl⟩
theorem home69_rets {X : Caller} (hX : Xok X) (n m00 m01 m02 m10 m11 m12 m20 m21 m22 p0 p1 p2 q0 q1 q2 : Int) (hm : Sm9 m00 m01 m02 m10 m11 m12 m20 m21 m22) (hp : Sm3 100000000 p0 p1 p2) (hq : Sm3 100000000 q0 q1 q2) (g : GH) :
    Rets Tryd.prog X 69 [mgV n m00 m01 m02 m10 m11 m12 m20 m21 m22 p0 p1 p2 q0 q1 q2] g (fun v g' lo => g.next ≤ lo ∧ v = .int .i64 (gainZ m00 m01 m02 m10 m11 m12 m20 m21 m22 p0 p1 p2 q0 q1 q2)) := by
  have hga := gain_rets hX n m00 m01 m02 m10 m11 m12 m20 m21 m22 p0 p1 p2 q0 q1 q2 100000000 100000000 20 hm hp hq (by decide) (by decide)
  have hgs := gain_sm hm hp hq
  unfold mkV vcV at hga
  unfold mgV
  obtain ⟨Z, hZ⟩ : ∃ Z, gainZ m00 m01 m02 m10 m11 m12 m20 m21 m22 p0 p1 p2 q0 q1 q2 = Z := ⟨_, rfl⟩
  rw [hZ] at hga hgs ⊢
  refine Rets.run hX.pres p69 (hX.free 69 (by decide) _ _) rfl fun ho => ?_
  simp +decide (disch := first | assumption | exact cellV_int _ _ | exact cellV_bool _ | omega | (simp only [GH.pn, GH.sn] <;> omega) | (with_reducible ((repeat (first | apply GH.ok_push | apply GH.ok_set)); assumption)) | ((try simp only [GH.push_hid, GH.set_hid]); first | assumption | (refine GH.vis ?_ ?_ <;> first | assumption | ((try simp only [GH.pn, GH.sn]) <;> omega)))) only [go_sem, ↓reduceIte, Nat.reduceEqDiff, Nat.reduceAdd, Int.reduceToNat, Int.reduceAdd, Int.reduceNeg, Int.reduceSub, Int.reduceMul, Int.reduceLT, Int.reduceLE, Int.reduceEq, ↓GH.gp_eq, ↓GH.gp_ne, ↓GH.gs_eq, ↓GH.gs_ne, GH.push_next, GH.set_next]
  refine CallD.calm (hga _) ?_
  rintro v g1 hx1 rfl
  simp +decide (disch := first | assumption | exact cellV_int _ _ | exact cellV_bool _ | omega | (simp only [GH.pn, GH.sn] <;> omega) | (with_reducible ((repeat (first | apply GH.ok_push | apply GH.ok_set)); assumption)) | ((try simp only [GH.push_hid, GH.set_hid]); first | assumption | (refine GH.vis ?_ ?_ <;> first | assumption | ((try simp only [GH.pn, GH.sn]) <;> omega)))) only [go_sem, ↓reduceIte, Nat.reduceEqDiff, Nat.reduceAdd, Int.reduceToNat, Int.reduceAdd, Int.reduceNeg, Int.reduceSub, Int.reduceMul, Int.reduceLT, Int.reduceLE, Int.reduceEq, ↓GH.gp_eq, ↓GH.gp_ne, ↓GH.gs_eq, ↓GH.gs_ne, GH.push_next, GH.set_next]
  intro hx0
  exact ⟨by have := hx1.next; simp only [GH.pn, GH.sn] at this ⊢; omega, rfl⟩
theorem home70_rets {X : Caller} (hX : Xok X) (n m00 m01 m02 m10 m11 m12 m20 m21 m22 p0 p1 p2 q0 q1 q2 : Int) (hm : Sm9 m00 m01 m02 m10 m11 m12 m20 m21 m22) (hp : Sm3 100000000 p0 p1 p2) (hq : Sm3 100000000 q0 q1 q2) (g : GH) :
    Rets Tryd.prog X 70 [mgV n m00 m01 m02 m10 m11 m12 m20 m21 m22 p0 p1 p2 q0 q1 q2] g (fun v g' lo => g.next ≤ lo ∧ v = .int .i64 (gainZ m00 m01 m02 m10 m11 m12 m20 m21 m22 q0 q1 q2 q0 q1 q2)) := by
  have hga := gain_rets hX n m00 m01 m02 m10 m11 m12 m20 m21 m22 q0 q1 q2 q0 q1 q2 100000000 100000000 20 hm hq hq (by decide) (by decide)
  have hgs := gain_sm hm hq hq
  unfold mkV vcV at hga
  unfold mgV
  obtain ⟨Z, hZ⟩ : ∃ Z, gainZ m00 m01 m02 m10 m11 m12 m20 m21 m22 q0 q1 q2 q0 q1 q2 = Z := ⟨_, rfl⟩
  rw [hZ] at hga hgs ⊢
  refine Rets.run hX.pres p70 (hX.free 70 (by decide) _ _) rfl fun ho => ?_
  simp +decide (disch := first | assumption | exact cellV_int _ _ | exact cellV_bool _ | omega | (simp only [GH.pn, GH.sn] <;> omega) | (with_reducible ((repeat (first | apply GH.ok_push | apply GH.ok_set)); assumption)) | ((try simp only [GH.push_hid, GH.set_hid]); first | assumption | (refine GH.vis ?_ ?_ <;> first | assumption | ((try simp only [GH.pn, GH.sn]) <;> omega)))) only [go_sem, ↓reduceIte, Nat.reduceEqDiff, Nat.reduceAdd, Int.reduceToNat, Int.reduceAdd, Int.reduceNeg, Int.reduceSub, Int.reduceMul, Int.reduceLT, Int.reduceLE, Int.reduceEq, ↓GH.gp_eq, ↓GH.gp_ne, ↓GH.gs_eq, ↓GH.gs_ne, GH.push_next, GH.set_next]
  refine CallD.calm (hga _) ?_
  rintro v g1 hx1 rfl
  simp +decide (disch := first | assumption | exact cellV_int _ _ | exact cellV_bool _ | omega | (simp only [GH.pn, GH.sn] <;> omega) | (with_reducible ((repeat (first | apply GH.ok_push | apply GH.ok_set)); assumption)) | ((try simp only [GH.push_hid, GH.set_hid]); first | assumption | (refine GH.vis ?_ ?_ <;> first | assumption | ((try simp only [GH.pn, GH.sn]) <;> omega)))) only [go_sem, ↓reduceIte, Nat.reduceEqDiff, Nat.reduceAdd, Int.reduceToNat, Int.reduceAdd, Int.reduceNeg, Int.reduceSub, Int.reduceMul, Int.reduceLT, Int.reduceLE, Int.reduceEq, ↓GH.gp_eq, ↓GH.gp_ne, ↓GH.gs_eq, ↓GH.gs_ne, GH.push_next, GH.set_next]
  intro hx0
  exact ⟨by have := hx1.next; simp only [GH.pn, GH.sn] at this ⊢; omega, rfl⟩
theorem leadS_rets {X : Caller} (hX : Xok X) (n m00 m01 m02 m10 m11 m12 m20 m21 m22 p0 p1 p2 q0 q1 q2 : Int) (hm : Sm9 m00 m01 m02 m10 m11 m12 m20 m21 m22) (hp : Sm3 100000000 p0 p1 p2) (hq : Sm3 100000000 q0 q1 q2) (g : GH) :
    Rets Tryd.prog X 66 [mgV n m00 m01 m02 m10 m11 m12 m20 m21 m22 p0 p1 p2 q0 q1 q2, .func (.func 67) #[] #[], .func (.func 68) #[] #[]] g (fun v g' lo => g.next ≤ lo ∧ v = .int .i64 (gainZ m00 m01 m02 m10 m11 m12 m20 m21 m22 p0 p1 p2 p0 p1 p2 - gainZ m00 m01 m02 m10 m11 m12 m20 m21 m22 q0 q1 q2 p0 p1 p2)) := by
  have h1 := home67_rets hX n m00 m01 m02 m10 m11 m12 m20 m21 m22 p0 p1 p2 q0 q1 q2 hm hp hq
  have h2 := home68_rets hX n m00 m01 m02 m10 m11 m12 m20 m21 m22 p0 p1 p2 q0 q1 q2 hm hp hq
  have hgs1 := gain_sm hm hp hp
  have hgs2 := gain_sm hm hq hp
  obtain ⟨Z, hZ⟩ : ∃ Z, gainZ m00 m01 m02 m10 m11 m12 m20 m21 m22 p0 p1 p2 p0 p1 p2 = Z := ⟨_, rfl⟩
  obtain ⟨W, hW⟩ : ∃ W, gainZ m00 m01 m02 m10 m11 m12 m20 m21 m22 q0 q1 q2 p0 p1 p2 = W := ⟨_, rfl⟩
  rw [hZ] at h1 hgs1 ⊢
  rw [hW] at h2 hgs2 ⊢
  unfold mgV at h1 h2 ⊢
  have hgs1 : Sm 1800000000000000000 Z := hgs1
  have hgs2 : Sm 1800000000000000000 W := hgs2
  unfold Sm at hgs1 hgs2
  refine Rets.run hX.pres p66 (hX.free 66 (by decide) _ _) rfl fun ho => ?_
  simp +decide (disch := first | assumption | exact cellV_int _ _ | exact cellV_bool _ | omega | (simp only [GH.pn, GH.sn] <;> omega) | (with_reducible ((repeat (first | apply GH.ok_push | apply GH.ok_set)); assumption)) | ((try simp only [GH.push_hid, GH.set_hid]); first | assumption | (refine GH.vis ?_ ?_ <;> first | assumption | ((try simp only [GH.pn, GH.sn]) <;> omega)))) only [go_sem, ↓reduceIte, Nat.reduceEqDiff, Nat.reduceAdd, Int.reduceToNat, Int.reduceAdd, Int.reduceNeg, Int.reduceSub, Int.reduceMul, Int.reduceLT, Int.reduceLE, Int.reduceEq, ↓GH.gp_eq, ↓GH.gp_ne, ↓GH.gs_eq, ↓GH.gs_ne, GH.push_next, GH.set_next]
  refine CallV.calm rfl (h1 _) ?_
  rintro v g1 hx1 rfl
  have hn1 := hx1.next
  simp only [GH.pn, GH.sn] at hn1
  have hA1 : g1.get g.next = cellsOb [.int .i64 n, .int .i64 m00, .int .i64 m01, .int .i64 m02, .int .i64 m10, .int .i64 m11, .int .i64 m12, .int .i64 m20, .int .i64 m21, .int .i64 m22, .int .i64 p0, .int .i64 p1, .int .i64 p2, .int .i64 q0, .int .i64 q1, .int .i64 q2] 86 := (hx1.gets g.next (by simp only [GH.pn, GH.sn]; omega)).trans (by simp (disch := first | assumption | exact cellV_int _ _ | exact cellV_bool _ | omega | (simp only [GH.pn, GH.sn] <;> omega) | (with_reducible ((repeat (first | apply GH.ok_push | apply GH.ok_set)); assumption)) | ((try simp only [GH.push_hid, GH.set_hid]); first | assumption | (refine GH.vis ?_ ?_ <;> first | assumption | ((try simp only [GH.pn, GH.sn]) <;> omega)))) only [↓GH.gp_eq, ↓GH.gp_ne, ↓GH.gs_eq, ↓GH.gs_ne, GH.push_next, GH.set_next]; first | done | exact rfl)
  simp +decide (disch := first | assumption | exact cellV_int _ _ | exact cellV_bool _ | omega | (simp only [GH.pn, GH.sn] <;> omega) | (with_reducible ((repeat (first | apply GH.ok_push | apply GH.ok_set)); assumption)) | ((try simp only [GH.push_hid, GH.set_hid]); first | assumption | (refine GH.vis ?_ ?_ <;> first | assumption | ((try simp only [GH.pn, GH.sn]) <;> omega)))) only [go_sem, ↓reduceIte, Nat.reduceEqDiff, Nat.reduceAdd, Int.reduceToNat, Int.reduceAdd, Int.reduceNeg, Int.reduceSub, Int.reduceMul, Int.reduceLT, Int.reduceLE, Int.reduceEq, ↓GH.gp_eq, ↓GH.gp_ne, ↓GH.gs_eq, ↓GH.gs_ne, GH.push_next, GH.set_next, hA1]
  refine CallV.calm rfl (h2 _) ?_
  rintro v g2 hx2 rfl
  simp +decide (disch := first | assumption | exact cellV_int _ _ | exact cellV_bool _ | omega | (simp only [GH.pn, GH.sn] <;> omega) | (with_reducible ((repeat (first | apply GH.ok_push | apply GH.ok_set)); assumption)) | ((try simp only [GH.push_hid, GH.set_hid]); first | assumption | (refine GH.vis ?_ ?_ <;> first | assumption | ((try simp only [GH.pn, GH.sn]) <;> omega)))) only [go_sem, ↓reduceIte, Nat.reduceEqDiff, Nat.reduceAdd, Int.reduceToNat, Int.reduceAdd, Int.reduceNeg, Int.reduceSub, Int.reduceMul, Int.reduceLT, Int.reduceLE, Int.reduceEq, ↓GH.gp_eq, ↓GH.gp_ne, ↓GH.gs_eq, ↓GH.gs_ne, GH.push_next, GH.set_next]
  intro hx0
  exact ⟨by have := hx2.next; omega, rfl⟩
theorem leadE_rets {X : Caller} (hX : Xok X) (n m00 m01 m02 m10 m11 m12 m20 m21 m22 p0 p1 p2 q0 q1 q2 : Int) (hm : Sm9 m00 m01 m02 m10 m11 m12 m20 m21 m22) (hp : Sm3 100000000 p0 p1 p2) (hq : Sm3 100000000 q0 q1 q2) (g : GH) :
    Rets Tryd.prog X 66 [mgV n m00 m01 m02 m10 m11 m12 m20 m21 m22 p0 p1 p2 q0 q1 q2, .func (.func 69) #[] #[], .func (.func 70) #[] #[]] g (fun v g' lo => g.next ≤ lo ∧ v = .int .i64 (gainZ m00 m01 m02 m10 m11 m12 m20 m21 m22 p0 p1 p2 q0 q1 q2 - gainZ m00 m01 m02 m10 m11 m12 m20 m21 m22 q0 q1 q2 q0 q1 q2)) := by
  have h1 := home69_rets hX n m00 m01 m02 m10 m11 m12 m20 m21 m22 p0 p1 p2 q0 q1 q2 hm hp hq
  have h2 := home70_rets hX n m00 m01 m02 m10 m11 m12 m20 m21 m22 p0 p1 p2 q0 q1 q2 hm hp hq
  have hgs1 := gain_sm hm hp hq
  have hgs2 := gain_sm hm hq hq
  obtain ⟨Z, hZ⟩ : ∃ Z, gainZ m00 m01 m02 m10 m11 m12 m20 m21 m22 p0 p1 p2 q0 q1 q2 = Z := ⟨_, rfl⟩
  obtain ⟨W, hW⟩ : ∃ W, gainZ m00 m01 m02 m10 m11 m12 m20 m21 m22 q0 q1 q2 q0 q1 q2 = W := ⟨_, rfl⟩
  rw [hZ] at h1 hgs1 ⊢
  rw [hW] at h2 hgs2 ⊢
  unfold mgV at h1 h2 ⊢
  have hgs1 : Sm 1800000000000000000 Z := hgs1
  have hgs2 : Sm 1800000000000000000 W := hgs2
  unfold Sm at hgs1 hgs2
  refine Rets.run hX.pres p66 (hX.free 66 (by decide) _ _) rfl fun ho => ?_
  simp +decide (disch := first | assumption | exact cellV_int _ _ | exact cellV_bool _ | omega | (simp only [GH.pn, GH.sn] <;> omega) | (with_reducible ((repeat (first | apply GH.ok_push | apply GH.ok_set)); assumption)) | ((try simp only [GH.push_hid, GH.set_hid]); first | assumption | (refine GH.vis ?_ ?_ <;> first | assumption | ((try simp only [GH.pn, GH.sn]) <;> omega)))) only [go_sem, ↓reduceIte, Nat.reduceEqDiff, Nat.reduceAdd, Int.reduceToNat, Int.reduceAdd, Int.reduceNeg, Int.reduceSub, Int.reduceMul, Int.reduceLT, Int.reduceLE, Int.reduceEq, ↓GH.gp_eq, ↓GH.gp_ne, ↓GH.gs_eq, ↓GH.gs_ne, GH.push_next, GH.set_next]
  refine CallV.calm rfl (h1 _) ?_
  rintro v g1 hx1 rfl
  have hn1 := hx1.next
  simp only [GH.pn, GH.sn] at hn1
  have hA1 : g1.get g.next = cellsOb [.int .i64 n, .int .i64 m00, .int .i64 m01, .int .i64 m02, .int .i64 m10, .int .i64 m11, .int .i64 m12, .int .i64 m20, .int .i64 m21, .int .i64 m22, .int .i64 p0, .int .i64 p1, .int .i64 p2, .int .i64 q0, .int .i64 q1, .int .i64 q2] 86 := (hx1.gets g.next (by simp only [GH.pn, GH.sn]; omega)).trans (by simp (disch := first | assumption | exact cellV_int _ _ | exact cellV_bool _ | omega | (simp only [GH.pn, GH.sn] <;> omega) | (with_reducible ((repeat (first | apply GH.ok_push | apply GH.ok_set)); assumption)) | ((try simp only [GH.push_hid, GH.set_hid]); first | assumption | (refine GH.vis ?_ ?_ <;> first | assumption | ((try simp only [GH.pn, GH.sn]) <;> omega)))) only [↓GH.gp_eq, ↓GH.gp_ne, ↓GH.gs_eq, ↓GH.gs_ne, GH.push_next, GH.set_next]; first | done | exact rfl)
  simp +decide (disch := first | assumption | exact cellV_int _ _ | exact cellV_bool _ | omega | (simp only [GH.pn, GH.sn] <;> omega) | (with_reducible ((repeat (first | apply GH.ok_push | apply GH.ok_set)); assumption)) | ((try simp only [GH.push_hid, GH.set_hid]); first | assumption | (refine GH.vis ?_ ?_ <;> first | assumption | ((try simp only [GH.pn, GH.sn]) <;> omega)))) only [go_sem, ↓reduceIte, Nat.reduceEqDiff, Nat.reduceAdd, Int.reduceToNat, Int.reduceAdd, Int.reduceNeg, Int.reduceSub, Int.reduceMul, Int.reduceLT, Int.reduceLE, Int.reduceEq, ↓GH.gp_eq, ↓GH.gp_ne, ↓GH.gs_eq, ↓GH.gs_ne, GH.push_next, GH.set_next, hA1]
  refine CallV.calm rfl (h2 _) ?_
  rintro v g2 hx2 rfl
  simp +decide (disch := first | assumption | exact cellV_int _ _ | exact cellV_bool _ | omega | (simp only [GH.pn, GH.sn] <;> omega) | (with_reducible ((repeat (first | apply GH.ok_push | apply GH.ok_set)); assumption)) | ((try simp only [GH.push_hid, GH.set_hid]); first | assumption | (refine GH.vis ?_ ?_ <;> first | assumption | ((try simp only [GH.pn, GH.sn]) <;> omega)))) only [go_sem, ↓reduceIte, Nat.reduceEqDiff, Nat.reduceAdd, Int.reduceToNat, Int.reduceAdd, Int.reduceNeg, Int.reduceSub, Int.reduceMul, Int.reduceLT, Int.reduceLE, Int.reduceEq, ↓GH.gp_eq, ↓GH.gp_ne, ↓GH.gs_eq, ↓GH.gs_ne, GH.push_next, GH.set_next]
  intro hx0
  exact ⟨by have := hx2.next; omega, rfl⟩
theorem meeting_rets {X : Caller} (hX : Xok X) (n m00 m01 m02 m10 m11 m12 m20 m21 m22 x0 x1 x2 d y0 y1 y2 f : Int) (hx : Sm3 10000 x0 x1 x2) (hy : Sm3 10000 y0 y1 y2) (hd : Sm 10000 d) (hf : Sm 10000 f) (g : GH) :
    Rets Tryd.prog X 65 [mkV n m00 m01 m02 m10 m11 m12 m20 m21 m22, mxV x0 x1 x2 d, mxV y0 y1 y2 f] g (fun v g' lo => g.next ≤ lo ∧ v = mgV n m00 m01 m02 m10 m11 m12 m20 m21 m22 (x0 * f) (x1 * f) (x2 * f) (y0 * d) (y1 * d) (y2 * d)) := by
  have up : ∀ {a b : Int}, Sm 10000 a → Sm 10000 b → Sm 1000000000000 (a * b) := fun h1 h2 => (h1.mul h2).up (by decide)
  have ht1 := times_rets hX x0 x1 x2 f (up hx.1 hf) (up hx.2.1 hf) (up hx.2.2 hf)
  have ht2 := times_rets hX y0 y1 y2 d (up hy.1 hd) (up hy.2.1 hd) (up hy.2.2 hd)
  unfold vcV at ht1 ht2
  unfold mkV mxV mgV
  refine Rets.run hX.pres p65 (hX.free 65 (by decide) _ _) rfl fun ho => ?_
  simp +decide (disch := first | assumption | exact cellV_int _ _ | exact cellV_bool _ | omega | (simp only [GH.pn, GH.sn] <;> omega) | (with_reducible ((repeat (first | apply GH.ok_push | apply GH.ok_set)); assumption)) | ((try simp only [GH.push_hid, GH.set_hid]); first | assumption | (refine GH.vis ?_ ?_ <;> first | assumption | ((try simp only [GH.pn, GH.sn]) <;> omega)))) only [go_sem, ↓reduceIte, Nat.reduceEqDiff, Nat.reduceAdd, Int.reduceToNat, Int.reduceAdd, Int.reduceNeg, Int.reduceSub, Int.reduceMul, Int.reduceLT, Int.reduceLE, Int.reduceEq, ↓GH.gp_eq, ↓GH.gp_ne, ↓GH.gs_eq, ↓GH.gs_ne, GH.push_next, GH.set_next]
  refine CallD.name fun H hH => ?_
  have hnH : H.next = g.next + 1 + 1 + 1 + 1 := by rw [hH]; rfl
  have hA : H.get (g.next + 1) = cellsOb [.int .i64 x0, .int .i64 x1, .int .i64 x2, .int .i64 d] 69 := by rw [hH]; exact (by simp (disch := first | assumption | exact cellV_int _ _ | exact cellV_bool _ | omega | (simp only [GH.pn, GH.sn] <;> omega) | (with_reducible ((repeat (first | apply GH.ok_push | apply GH.ok_set)); assumption)) | ((try simp only [GH.push_hid, GH.set_hid]); first | assumption | (refine GH.vis ?_ ?_ <;> first | assumption | ((try simp only [GH.pn, GH.sn]) <;> omega)))) only [↓GH.gp_eq, ↓GH.gp_ne, ↓GH.gs_eq, ↓GH.gs_ne, GH.push_next, GH.set_next]; first | done | exact rfl)
  have hB : H.get (g.next + 1 + 1) = cellsOb [.int .i64 y0, .int .i64 y1, .int .i64 y2, .int .i64 f] 69 := by rw [hH]; exact (by simp (disch := first | assumption | exact cellV_int _ _ | exact cellV_bool _ | omega | (simp only [GH.pn, GH.sn] <;> omega) | (with_reducible ((repeat (first | apply GH.ok_push | apply GH.ok_set)); assumption)) | ((try simp only [GH.push_hid, GH.set_hid]); first | assumption | (refine GH.vis ?_ ?_ <;> first | assumption | ((try simp only [GH.pn, GH.sn]) <;> omega)))) only [↓GH.gp_eq, ↓GH.gp_ne, ↓GH.gs_eq, ↓GH.gs_ne, GH.push_next, GH.set_next]; first | done | exact rfl)
  have hC : H.get (g.next + 1 + 1 + 1) = cellsOb [.int .i64 0, .int .i64 0, .int .i64 0, .int .i64 0, .int .i64 0, .int .i64 0, .int .i64 0, .int .i64 0, .int .i64 0, .int .i64 0, .int .i64 0, .int .i64 0, .int .i64 0, .int .i64 0, .int .i64 0, .int .i64 0] 86 := by rw [hH]; exact (by simp (disch := first | assumption | exact cellV_int _ _ | exact cellV_bool _ | omega | (simp only [GH.pn, GH.sn] <;> omega) | (with_reducible ((repeat (first | apply GH.ok_push | apply GH.ok_set)); assumption)) | ((try simp only [GH.push_hid, GH.set_hid]); first | assumption | (refine GH.vis ?_ ?_ <;> first | assumption | ((try simp only [GH.pn, GH.sn]) <;> omega)))) only [↓GH.gp_eq, ↓GH.gp_ne, ↓GH.gs_eq, ↓GH.gs_ne, GH.push_next, GH.set_next]; first | done | exact rfl)
  have hokH : H.ok := by rw [hH]; exact GH.ok_push (GH.ok_push (GH.ok_push (GH.ok_push ho)))
  refine CallD.calmH (by simp [spansOf, spanAt, blt_d, beqd]) rfl (ht1 _) ?_
  rintro v g1 hx1 rfl
  have hn1 := hx1.next
  have hok1 := hx1.ok hokH
  have hA1 := (hx1.gets (g.next + 1) (by omega)).trans hA
  have hB1 := (hx1.gets (g.next + 1 + 1) (by omega)).trans hB
  have hC1 := (hx1.gets (g.next + 1 + 1 + 1) (by omega)).trans hC
  simp +decide (disch := first | assumption | exact cellV_int _ _ | exact cellV_bool _ | omega | (simp only [GH.pn, GH.sn] <;> omega) | (with_reducible ((repeat (first | apply GH.ok_push | apply GH.ok_set)); assumption)) | ((try simp only [GH.push_hid, GH.set_hid]); first | assumption | (refine GH.vis ?_ ?_ <;> first | assumption | ((try simp only [GH.pn, GH.sn]) <;> omega)))) only [go_sem, ↓reduceIte, Nat.reduceEqDiff, Nat.reduceAdd, Int.reduceToNat, Int.reduceAdd, Int.reduceNeg, Int.reduceSub, Int.reduceMul, Int.reduceLT, Int.reduceLE, Int.reduceEq, ↓GH.gp_eq, ↓GH.gp_ne, ↓GH.gs_eq, ↓GH.gs_ne, GH.push_next, GH.set_next, hA1, hB1]
  refine CallD.calmH (by simp [spansOf, spanAt, blt_d, beqd]) rfl (ht2 _) ?_
  rintro v g2 hx2 rfl
  have hn2 := hx2.next
  have hok2 := hx2.ok hok1
  have hC2 := (hx2.gets (g.next + 1 + 1 + 1) (by omega)).trans hC1
  have hvC2 := GH.seen hC2 Nat.one_ne_zero
  simp +decide (disch := first | assumption | exact cellV_int _ _ | exact cellV_bool _ | omega | (simp only [GH.pn, GH.sn] <;> omega) | (with_reducible ((repeat (first | apply GH.ok_push | apply GH.ok_set)); assumption)) | ((try simp only [GH.push_hid, GH.set_hid]); first | assumption | (refine GH.vis ?_ ?_ <;> first | assumption | ((try simp only [GH.pn, GH.sn]) <;> omega)))) only [go_sem, ↓reduceIte, Nat.reduceEqDiff, Nat.reduceAdd, Int.reduceToNat, Int.reduceAdd, Int.reduceNeg, Int.reduceSub, Int.reduceMul, Int.reduceLT, Int.reduceLE, Int.reduceEq, ↓GH.gp_eq, ↓GH.gp_ne, ↓GH.gs_eq, ↓GH.gs_ne, GH.push_next, GH.set_next, bldG, spl16, hC2]
  intro hx0
  exact ⟨by omega, rfl⟩
end Go.Proofs.YtngmaccaldhjcaaDoor
set_option maxRecDepth 100000
set_option maxHeartbeats 4000000
set_option linter.unusedSimpArgs false
set_option linter.unusedVariables false
namespace Go.Proofs.YtngmaccaldhjcaaDoor
open Go.Ds
def sgS (T : List (List Int)) (L : List Int) (d : Int) (M : List Int) (f : Int) : Int := gT T (ne L 0 * f) (ne L 1 * f) (ne L 2 * f) (ne L 0 * f) (ne L 1 * f) (ne L 2 * f) - gT T (ne M 0 * d) (ne M 1 * d) (ne M 2 * d) (ne L 0 * f) (ne L 1 * f) (ne L 2 * f)
def sgE (T : List (List Int)) (L : List Int) (d : Int) (M : List Int) (f : Int) : Int := gT T (ne L 0 * f) (ne L 1 * f) (ne L 2 * f) (ne M 0 * d) (ne M 1 * d) (ne M 2 * d) - gT T (ne M 0 * d) (ne M 1 * d) (ne M 2 * d) (ne M 0 * d) (ne M 1 * d) (ne M 2 * d)
/-- What Limit returns. -/
def limR (T : List (List Int)) (L : List Int) (d : Int) (M : List Int) (f : Int) : Value :=
  if err2 T L d M f = 2 then .tuple #[raV 0 0, .int .i64 2]
  else if L = M ∧ d = f then .tuple #[raV 0 0, .int .i64 10]
  else if sgS T L d M f < 0 ∨ (sgS T L d M f = 0 ∧ sgE T L d M f ≤ 0) then .tuple #[raV 0 0, .int .i64 9]
  else if 0 ≤ sgE T L d M f then .tuple #[raV 1 1, .int .i64 0]
  else .tuple #[raV (lowN (sgS T L d M f) (sgS T L d M f - sgE T L d M f)) (lowD (sgS T L d M f) (sgS T L d M f - sgE T L d M f)), .int .i64 0]
theorem same3 {L M : List Int} {n : Nat} {d f : Int} (h1 : L.length = n) (h2 : M.length = n) (h3 : n ≤ 3) : (L.getD 0 0 = M.getD 0 0 ∧ L.getD 1 0 = M.getD 1 0 ∧ L.getD 2 0 = M.getD 2 0 ∧ d = f) ↔ (L = M ∧ d = f) := by
  constructor
  · rintro ⟨a, b, c, e⟩
    refine ⟨List.ext_getElem (by omega) fun i hi hj => ?_, e⟩
    have q1 : L.getD i 0 = L[i] := by rw [List.getD_eq_getElem?_getD, List.getElem?_eq_getElem hi]; rfl
    have q2 : M.getD i 0 = M[i] := by rw [List.getD_eq_getElem?_getD, List.getElem?_eq_getElem hj]; rfl
    rw [← q1, ← q2]
    have : i = 0 ∨ i = 1 ∨ i = 2 := by omega
    rcases this with rfl | rfl | rfl <;> assumption
  · rintro ⟨rfl, rfl⟩
    exact ⟨rfl, rfl, rfl, rfl⟩
theorem sg_sm {T : List (List Int)} {L M : List Int} {d f : Int} (hT : tabB T = true) (hp : Sm3 100000000 (ne L 0 * f) (ne L 1 * f) (ne L 2 * f)) (hq : Sm3 100000000 (ne M 0 * d) (ne M 1 * d) (ne M 2 * d)) : Sm 3600000000000000000 (sgS T L d M f) ∧ Sm 3600000000000000000 (sgE T L d M f) := by
  have h1 : Sm 1800000000000000000 (gT T (ne L 0 * f) (ne L 1 * f) (ne L 2 * f) (ne L 0 * f) (ne L 1 * f) (ne L 2 * f)) := gain_sm (tab_sm9 hT) hp hp
  have h2 : Sm 1800000000000000000 (gT T (ne M 0 * d) (ne M 1 * d) (ne M 2 * d) (ne L 0 * f) (ne L 1 * f) (ne L 2 * f)) := gain_sm (tab_sm9 hT) hq hp
  have h3 : Sm 1800000000000000000 (gT T (ne L 0 * f) (ne L 1 * f) (ne L 2 * f) (ne M 0 * d) (ne M 1 * d) (ne M 2 * d)) := gain_sm (tab_sm9 hT) hp hq
  have h4 : Sm 1800000000000000000 (gT T (ne M 0 * d) (ne M 1 * d) (ne M 2 * d) (ne M 0 * d) (ne M 1 * d) (ne M 2 * d)) := gain_sm (tab_sm9 hT) hq hq
  unfold sgS sgE
  unfold Sm at *
  omega
theorem Limit_rets {X : Caller} (hX : Xok X) (T : List (List Int)) (hF : Few T) (L : List Int) (d : Int) (M : List Int) (f : Int) (t s r : Value) (g : GH) (ht : Sl2 g t T) (hs : SlR g s (ints L)) (hr : SlR g r (ints M)) :
    Rets Tryd.prog X 34 [t, paV s d, paV r f] g (fun v g' lo => g.next ≤ lo ∧ v = limR T L d M f) := by
  have hc := hs.cell
  have hcr := hr.cell
  unfold paV
  refine Rets.run hX.pres p34 (hX.free 34 (by decide) _ _) rfl fun ho => ?_
  have hk : Kept g ((((g.push (cellsOb [s, .int .i64 d] 25)).push (cellsOb [r, .int .i64 f] 25)).push (cellsOb [.int .i64 0, .int .i64 0] 32)).push (cellsOb [s, .int .i64 d, r, .int .i64 f] 25)) := (by (repeat' first | exact Kept.refl _ | assumption | refine Kept.push ?_ ?_ _ | refine Kept.setV ?_ ?_ ?_ _) <;> (first | assumption | exact cellV_int _ _ | exact cellV_bool _ | omega | (simp only [GH.pn, GH.sn] <;> omega) | (with_reducible ((repeat (first | apply GH.ok_push | apply GH.ok_set)); assumption)) | ((try simp only [GH.push_hid, GH.set_hid]); first | assumption | (refine GH.vis ?_ ?_ <;> first | assumption | ((try simp only [GH.pn, GH.sn]) <;> omega)))))
  have hg : ((((g.push (cellsOb [s, .int .i64 d] 25)).push (cellsOb [r, .int .i64 f] 25)).push (cellsOb [.int .i64 0, .int .i64 0] 32)).push (cellsOb [s, .int .i64 d, r, .int .i64 f] 25)).get (g.next + 1 + 1 + 1) = cellsOb [s, .int .i64 d, r, .int .i64 f] 25 := (by simp (disch := first | assumption | exact cellV_int _ _ | exact cellV_bool _ | omega | (simp only [GH.pn, GH.sn] <;> omega) | (with_reducible ((repeat (first | apply GH.ok_push | apply GH.ok_set)); assumption)) | ((try simp only [GH.push_hid, GH.set_hid]); first | assumption | (refine GH.vis ?_ ?_ <;> first | assumption | ((try simp only [GH.pn, GH.sn]) <;> omega)))) only [↓GH.gp_eq, ↓GH.gp_ne, ↓GH.gs_eq, ↓GH.gs_ne, GH.push_next, GH.set_next]; first | done | exact rfl)
  have hA : ((((g.push (cellsOb [s, .int .i64 d] 25)).push (cellsOb [r, .int .i64 f] 25)).push (cellsOb [.int .i64 0, .int .i64 0] 32)).push (cellsOb [s, .int .i64 d, r, .int .i64 f] 25)).get g.next = cellsOb [s, .int .i64 d] 25 := (by simp (disch := first | assumption | exact cellV_int _ _ | exact cellV_bool _ | omega | (simp only [GH.pn, GH.sn] <;> omega) | (with_reducible ((repeat (first | apply GH.ok_push | apply GH.ok_set)); assumption)) | ((try simp only [GH.push_hid, GH.set_hid]); first | assumption | (refine GH.vis ?_ ?_ <;> first | assumption | ((try simp only [GH.pn, GH.sn]) <;> omega)))) only [↓GH.gp_eq, ↓GH.gp_ne, ↓GH.gs_eq, ↓GH.gs_ne, GH.push_next, GH.set_next]; first | done | exact rfl)
  have hB : ((((g.push (cellsOb [s, .int .i64 d] 25)).push (cellsOb [r, .int .i64 f] 25)).push (cellsOb [.int .i64 0, .int .i64 0] 32)).push (cellsOb [s, .int .i64 d, r, .int .i64 f] 25)).get (g.next + 1) = cellsOb [r, .int .i64 f] 25 := (by simp (disch := first | assumption | exact cellV_int _ _ | exact cellV_bool _ | omega | (simp only [GH.pn, GH.sn] <;> omega) | (with_reducible ((repeat (first | apply GH.ok_push | apply GH.ok_set)); assumption)) | ((try simp only [GH.push_hid, GH.set_hid]); first | assumption | (refine GH.vis ?_ ?_ <;> first | assumption | ((try simp only [GH.pn, GH.sn]) <;> omega)))) only [↓GH.gp_eq, ↓GH.gp_ne, ↓GH.gs_eq, ↓GH.gs_ne, GH.push_next, GH.set_next]; first | done | exact rfl)
  have hC : ((((g.push (cellsOb [s, .int .i64 d] 25)).push (cellsOb [r, .int .i64 f] 25)).push (cellsOb [.int .i64 0, .int .i64 0] 32)).push (cellsOb [s, .int .i64 d, r, .int .i64 f] 25)).get (g.next + 1 + 1) = cellsOb [.int .i64 0, .int .i64 0] 32 := (by simp (disch := first | assumption | exact cellV_int _ _ | exact cellV_bool _ | omega | (simp only [GH.pn, GH.sn] <;> omega) | (with_reducible ((repeat (first | apply GH.ok_push | apply GH.ok_set)); assumption)) | ((try simp only [GH.push_hid, GH.set_hid]); first | assumption | (refine GH.vis ?_ ?_ <;> first | assumption | ((try simp only [GH.pn, GH.sn]) <;> omega)))) only [↓GH.gp_eq, ↓GH.gp_ne, ↓GH.gs_eq, ↓GH.gs_ne, GH.push_next, GH.set_next]; first | done | exact rfl)
  have hokH : ((((g.push (cellsOb [s, .int .i64 d] 25)).push (cellsOb [r, .int .i64 f] 25)).push (cellsOb [.int .i64 0, .int .i64 0] 32)).push (cellsOb [s, .int .i64 d, r, .int .i64 f] 25)).ok := GH.ok_push (GH.ok_push (GH.ok_push (GH.ok_push ho)))
  simp +decide (disch := first | assumption | exact cellV_int _ _ | exact cellV_bool _ | omega | (simp only [GH.pn, GH.sn] <;> omega) | (with_reducible ((repeat (first | apply GH.ok_push | apply GH.ok_set)); assumption)) | ((try simp only [GH.push_hid, GH.set_hid]); first | assumption | (refine GH.vis ?_ ?_ <;> first | assumption | ((try simp only [GH.pn, GH.sn]) <;> omega)))) only [go_sem, ↓reduceIte, Nat.reduceEqDiff, Nat.reduceAdd, Int.reduceToNat, Int.reduceAdd, Int.reduceNeg, Int.reduceSub, Int.reduceMul, Int.reduceLT, Int.reduceLE, Int.reduceEq, ↓GH.gp_eq, ↓GH.gp_ne, ↓GH.gs_eq, ↓GH.gs_ne, GH.push_next, GH.set_next, hc, hcr]
  obtain ⟨H, hH⟩ : ∃ H, ((((g.push (cellsOb [s, .int .i64 d] 25)).push (cellsOb [r, .int .i64 f] 25)).push (cellsOb [.int .i64 0, .int .i64 0] 32)).push (cellsOb [s, .int .i64 d, r, .int .i64 f] 25)) = H := ⟨_, rfl⟩
  have hnH : H.next = g.next + 1 + 1 + 1 + 1 := by rw [← hH]; rfl
  rw [hH] at hk hg hA hB hC hokH
  have hck := check2_rets hX T hF L d M f t s r (g.next + 1 + 1 + 1) 25 H (ht.kept hk) (hs.kept hk) (hr.kept hk) (by omega) hg
  rw [← hH] at hck
  refine CallD.calm hck ?_
  rw [hH]
  rintro v g1 hx1 rfl
  have hn1 := hx1.next
  have hok1 := hx1.ok hokH
  have hA1 := (hx1.gets g.next (by omega)).trans hA
  have hB1 := (hx1.gets (g.next + 1) (by omega)).trans hB
  have hC1 := (hx1.gets (g.next + 1 + 1) (by omega)).trans hC
  have hvC := GH.seen hC1 Nat.one_ne_zero
  have hk1 := hk.ext hx1
  unfold limR
  rcases err2_cases T L d M f with hE | ⟨hE, hT, hm1, hm2⟩
  · rw [hE]
    simp +decide (disch := first | assumption | exact cellV_int _ _ | exact cellV_bool _ | omega | (simp only [GH.pn, GH.sn] <;> omega) | (with_reducible ((repeat (first | apply GH.ok_push | apply GH.ok_set)); assumption)) | ((try simp only [GH.push_hid, GH.set_hid]); first | assumption | (refine GH.vis ?_ ?_ <;> first | assumption | ((try simp only [GH.pn, GH.sn]) <;> omega)))) only [go_sem, ↓reduceIte, Nat.reduceEqDiff, Nat.reduceAdd, Int.reduceToNat, Int.reduceAdd, Int.reduceNeg, Int.reduceSub, Int.reduceMul, Int.reduceLT, Int.reduceLE, Int.reduceEq, ↓GH.gp_eq, ↓GH.gp_ne, ↓GH.gs_eq, ↓GH.gs_ne, GH.push_next, GH.set_next, hC1]
    intro hx0
    exact ⟨by omega, rfl⟩
  · rw [hE, if_neg (show ¬ (0 : Int) = 2 by decide)]
    obtain ⟨a1, a2, a3, a4, a5, a6, a7, a8⟩ := mix_facts hm1
    obtain ⟨b1, b2, b3, b4, b5, b6, b7, b8⟩ := mix_facts hm2
    have hmo := mixtureOf_rets hX L (by omega) (by omega) d s
    have hmo2 := mixtureOf_rets hX M (by omega) (by omega) f r
    unfold paV mxV at hmo hmo2
    simp +decide (disch := first | assumption | exact cellV_int _ _ | exact cellV_bool _ | omega | (simp only [GH.pn, GH.sn] <;> omega) | (with_reducible ((repeat (first | apply GH.ok_push | apply GH.ok_set)); assumption)) | ((try simp only [GH.push_hid, GH.set_hid]); first | assumption | (refine GH.vis ?_ ?_ <;> first | assumption | ((try simp only [GH.pn, GH.sn]) <;> omega)))) only [go_sem, ↓reduceIte, Nat.reduceEqDiff, Nat.reduceAdd, Int.reduceToNat, Int.reduceAdd, Int.reduceNeg, Int.reduceSub, Int.reduceMul, Int.reduceLT, Int.reduceLE, Int.reduceEq, ↓GH.gp_eq, ↓GH.gp_ne, ↓GH.gs_eq, ↓GH.gs_ne, GH.push_next, GH.set_next, hA1, hB1]
    refine CallD.calm (hmo g1 (hs.kept hk1)) ?_
    rintro v g2 hx2 rfl
    have hn2 := hx2.next
    have hok2 := hx2.ok hok1
    have hB2 := (hx2.gets (g.next + 1) (by omega)).trans hB1
    have hC2 := (hx2.gets (g.next + 1 + 1) (by omega)).trans hC1
    have hk2 := hk1.ext hx2
    simp +decide (disch := first | assumption | exact cellV_int _ _ | exact cellV_bool _ | omega | (simp only [GH.pn, GH.sn] <;> omega) | (with_reducible ((repeat (first | apply GH.ok_push | apply GH.ok_set)); assumption)) | ((try simp only [GH.push_hid, GH.set_hid]); first | assumption | (refine GH.vis ?_ ?_ <;> first | assumption | ((try simp only [GH.pn, GH.sn]) <;> omega)))) only [go_sem, ↓reduceIte, Nat.reduceEqDiff, Nat.reduceAdd, Int.reduceToNat, Int.reduceAdd, Int.reduceNeg, Int.reduceSub, Int.reduceMul, Int.reduceLT, Int.reduceLE, Int.reduceEq, ↓GH.gp_eq, ↓GH.gp_ne, ↓GH.gs_eq, ↓GH.gs_ne, GH.push_next, GH.set_next, hB2]
    refine CallD.calm (hmo2 g2 (hr.kept hk2)) ?_
    rintro v g3 hx3 rfl
    have hn3 := hx3.next
    have hok3 := hx3.ok hok2
    have hC3 := (hx3.gets (g.next + 1 + 1) (by omega)).trans hC2
    have hvC3 := GH.seen hC3 Nat.one_ne_zero
    have hk3 := hk2.ext hx3
    have e4 := eqA4 (L.getD 0 0) (L.getD 1 0) (L.getD 2 0) d (M.getD 0 0) (M.getD 1 0) (M.getD 2 0) f
    by_cases hsm : L = M ∧ d = f
    · rw [decide_eq_true ((same3 a3 b3 a2).2 hsm)] at e4
      rw [if_pos hsm]
      simp +decide (disch := first | assumption | exact cellV_int _ _ | exact cellV_bool _ | omega | (simp only [GH.pn, GH.sn] <;> omega) | (with_reducible ((repeat (first | apply GH.ok_push | apply GH.ok_set)); assumption)) | ((try simp only [GH.push_hid, GH.set_hid]); first | assumption | (refine GH.vis ?_ ?_ <;> first | assumption | ((try simp only [GH.pn, GH.sn]) <;> omega)))) only [go_sem, ↓reduceIte, Nat.reduceEqDiff, Nat.reduceAdd, Int.reduceToNat, Int.reduceAdd, Int.reduceNeg, Int.reduceSub, Int.reduceMul, Int.reduceLT, Int.reduceLE, Int.reduceEq, ↓GH.gp_eq, ↓GH.gp_ne, ↓GH.gs_eq, ↓GH.gs_ne, GH.push_next, GH.set_next, e4, hC3]
      intro hx0
      exact ⟨by omega, rfl⟩
    · rw [decide_eq_false (fun h => hsm ((same3 a3 b3 a2).1 h))] at e4
      rw [if_neg hsm]
      simp +decide (disch := first | assumption | exact cellV_int _ _ | exact cellV_bool _ | omega | (simp only [GH.pn, GH.sn] <;> omega) | (with_reducible ((repeat (first | apply GH.ok_push | apply GH.ok_set)); assumption)) | ((try simp only [GH.push_hid, GH.set_hid]); first | assumption | (refine GH.vis ?_ ?_ <;> first | assumption | ((try simp only [GH.pn, GH.sn]) <;> omega)))) only [go_sem, ↓reduceIte, Nat.reduceEqDiff, Nat.reduceAdd, Int.reduceToNat, Int.reduceAdd, Int.reduceNeg, Int.reduceSub, Int.reduceMul, Int.reduceLT, Int.reduceLE, Int.reduceEq, ↓GH.gp_eq, ↓GH.gp_ne, ↓GH.gs_eq, ↓GH.gs_ne, GH.push_next, GH.set_next, e4]
      have hma := market_rets hX T hT t
      unfold mkT mkV at hma
      refine CallD.name fun G hG => ?_
      have hnG : G.next = g3.next + 1 + 1 := by rw [hG]; rfl
      have hokG : G.ok := by rw [hG]; exact GH.ok_set (GH.ok_set (GH.ok_push (GH.ok_push hok3)))
      have hP : G.get g3.next = cellsOb [.int .i64 (L.getD 0 0), .int .i64 (L.getD 1 0), .int .i64 (L.getD 2 0), .int .i64 d] 69 := by rw [hG]; exact (by simp (disch := first | assumption | exact cellV_int _ _ | exact cellV_bool _ | omega | (simp only [GH.pn, GH.sn] <;> omega) | (with_reducible ((repeat (first | apply GH.ok_push | apply GH.ok_set)); assumption)) | ((try simp only [GH.push_hid, GH.set_hid]); first | assumption | (refine GH.vis ?_ ?_ <;> first | assumption | ((try simp only [GH.pn, GH.sn]) <;> omega)))) only [↓GH.gp_eq, ↓GH.gp_ne, ↓GH.gs_eq, ↓GH.gs_ne, GH.push_next, GH.set_next]; first | done | exact rfl)
      have hQ : G.get (g3.next + 1) = cellsOb [.int .i64 (M.getD 0 0), .int .i64 (M.getD 1 0), .int .i64 (M.getD 2 0), .int .i64 f] 69 := by rw [hG]; exact (by simp (disch := first | assumption | exact cellV_int _ _ | exact cellV_bool _ | omega | (simp only [GH.pn, GH.sn] <;> omega) | (with_reducible ((repeat (first | apply GH.ok_push | apply GH.ok_set)); assumption)) | ((try simp only [GH.push_hid, GH.set_hid]); first | assumption | (refine GH.vis ?_ ?_ <;> first | assumption | ((try simp only [GH.pn, GH.sn]) <;> omega)))) only [↓GH.gp_eq, ↓GH.gp_ne, ↓GH.gs_eq, ↓GH.gs_ne, GH.push_next, GH.set_next]; first | done | exact rfl)
      have hkG : Kept g3 G := by rw [hG]; exact (by (repeat' first | exact Kept.refl _ | assumption | refine Kept.push ?_ ?_ _ | refine Kept.setV ?_ ?_ ?_ _) <;> (first | assumption | exact cellV_int _ _ | exact cellV_bool _ | omega | (simp only [GH.pn, GH.sn] <;> omega) | (with_reducible ((repeat (first | apply GH.ok_push | apply GH.ok_set)); assumption)) | ((try simp only [GH.push_hid, GH.set_hid]); first | assumption | (refine GH.vis ?_ ?_ <;> first | assumption | ((try simp only [GH.pn, GH.sn]) <;> omega)))))
      have hCG := (hkG.gets (g.next + 1 + 1) (by omega)).trans hC3
      refine CallD.calm (hma G (ht.kept (hk3.trans hkG))) ?_
      rintro v g5 hx5 rfl
      have hn5 := hx5.next
      have hok5 := hx5.ok hokG
      have hP5 := (hx5.gets g3.next (by omega)).trans hP
      have hQ5 := (hx5.gets (g3.next + 1) (by omega)).trans hQ
      have hC5 := (hx5.gets (g.next + 1 + 1) (by omega)).trans hCG
      have hsx : Sm3 10000 (L.getD 0 0) (L.getD 1 0) (L.getD 2 0) := ⟨mix_sm hm1 0, mix_sm hm1 1, mix_sm hm1 2⟩
      have hsy : Sm3 10000 (M.getD 0 0) (M.getD 1 0) (M.getD 2 0) := ⟨mix_sm hm2 0, mix_sm hm2 1, mix_sm hm2 2⟩
      have sd : Sm 10000 d := ⟨by omega, by omega⟩
      have sf : Sm 10000 f := ⟨by omega, by omega⟩
      have hme := meeting_rets hX T.length (te T 0 0) (te T 0 1) (te T 0 2) (te T 1 0) (te T 1 1) (te T 1 2) (te T 2 0) (te T 2 1) (te T 2 2) (L.getD 0 0) (L.getD 1 0) (L.getD 2 0) d (M.getD 0 0) (M.getD 1 0) (M.getD 2 0) f hsx hsy sd sf
      unfold mkV mxV mgV at hme
      simp +decide (disch := first | assumption | exact cellV_int _ _ | exact cellV_bool _ | omega | (simp only [GH.pn, GH.sn] <;> omega) | (with_reducible ((repeat (first | apply GH.ok_push | apply GH.ok_set)); assumption)) | ((try simp only [GH.push_hid, GH.set_hid]); first | assumption | (refine GH.vis ?_ ?_ <;> first | assumption | ((try simp only [GH.pn, GH.sn]) <;> omega)))) only [go_sem, ↓reduceIte, Nat.reduceEqDiff, Nat.reduceAdd, Int.reduceToNat, Int.reduceAdd, Int.reduceNeg, Int.reduceSub, Int.reduceMul, Int.reduceLT, Int.reduceLE, Int.reduceEq, ↓GH.gp_eq, ↓GH.gp_ne, ↓GH.gs_eq, ↓GH.gs_ne, GH.push_next, GH.set_next, hP5, hQ5]
      refine CallD.calm (hme _) ?_
      rintro v g6 hx6 rfl
      have hn6 := hx6.next
      have hok6 := hx6.ok hok5
      have hC6 := (hx6.gets (g.next + 1 + 1) (by omega)).trans hC5
      simp +decide (disch := first | assumption | exact cellV_int _ _ | exact cellV_bool _ | omega | (simp only [GH.pn, GH.sn] <;> omega) | (with_reducible ((repeat (first | apply GH.ok_push | apply GH.ok_set)); assumption)) | ((try simp only [GH.push_hid, GH.set_hid]); first | assumption | (refine GH.vis ?_ ?_ <;> first | assumption | ((try simp only [GH.pn, GH.sn]) <;> omega)))) only [go_sem, ↓reduceIte, Nat.reduceEqDiff, Nat.reduceAdd, Int.reduceToNat, Int.reduceAdd, Int.reduceNeg, Int.reduceSub, Int.reduceMul, Int.reduceLT, Int.reduceLE, Int.reduceEq, ↓GH.gp_eq, ↓GH.gp_ne, ↓GH.gs_eq, ↓GH.gs_ne, GH.push_next, GH.set_next, spl16]
      refine CallD.name fun F hF => ?_
      have hnF : F.next = g6.next + 1 := by rw [hF]; rfl
      have hokF : F.ok := by rw [hF]; exact GH.ok_set (GH.ok_push hok6)
      have hN : F.get g6.next = cellsOb [.int .i64 T.length , .int .i64 (te T 0 0) , .int .i64 (te T 0 1) , .int .i64 (te T 0 2) , .int .i64 (te T 1 0) , .int .i64 (te T 1 1) , .int .i64 (te T 1 2) , .int .i64 (te T 2 0) , .int .i64 (te T 2 1) , .int .i64 (te T 2 2), .int .i64 (L.getD 0 0 * f), .int .i64 (L.getD 1 0 * f), .int .i64 (L.getD 2 0 * f), .int .i64 (M.getD 0 0 * d), .int .i64 (M.getD 1 0 * d), .int .i64 (M.getD 2 0 * d)] 86 := by rw [hF]; exact (by simp (disch := first | assumption | exact cellV_int _ _ | exact cellV_bool _ | omega | (simp only [GH.pn, GH.sn] <;> omega) | (with_reducible ((repeat (first | apply GH.ok_push | apply GH.ok_set)); assumption)) | ((try simp only [GH.push_hid, GH.set_hid]); first | assumption | (refine GH.vis ?_ ?_ <;> first | assumption | ((try simp only [GH.pn, GH.sn]) <;> omega)))) only [↓GH.gp_eq, ↓GH.gp_ne, ↓GH.gs_eq, ↓GH.gs_ne, GH.push_next, GH.set_next]; first | done | exact rfl)
      have hkF : Kept g6 F := by rw [hF]; exact (by (repeat' first | exact Kept.refl _ | assumption | refine Kept.push ?_ ?_ _ | refine Kept.setV ?_ ?_ ?_ _) <;> (first | assumption | exact cellV_int _ _ | exact cellV_bool _ | omega | (simp only [GH.pn, GH.sn] <;> omega) | (with_reducible ((repeat (first | apply GH.ok_push | apply GH.ok_set)); assumption)) | ((try simp only [GH.push_hid, GH.set_hid]); first | assumption | (refine GH.vis ?_ ?_ <;> first | assumption | ((try simp only [GH.pn, GH.sn]) <;> omega)))))
      have hCF := (hkF.gets (g.next + 1 + 1) (by omega)).trans hC6
      have up : ∀ {a b : Int}, Sm 10000 a → Sm 10000 b → Sm 100000000 (a * b) := fun h1 h2 => (h1.mul h2).up (by decide)
      have hp : Sm3 100000000 (L.getD 0 0 * f) (L.getD 1 0 * f) (L.getD 2 0 * f) := ⟨up hsx.1 sf, up hsx.2.1 sf, up hsx.2.2 sf⟩
      have hq : Sm3 100000000 (M.getD 0 0 * d) (M.getD 1 0 * d) (M.getD 2 0 * d) := ⟨up hsy.1 sd, up hsy.2.1 sd, up hsy.2.2 sd⟩
      have hlS := leadS_rets hX T.length (te T 0 0) (te T 0 1) (te T 0 2) (te T 1 0) (te T 1 1) (te T 1 2) (te T 2 0) (te T 2 1) (te T 2 2) (L.getD 0 0 * f) (L.getD 1 0 * f) (L.getD 2 0 * f) (M.getD 0 0 * d) (M.getD 1 0 * d) (M.getD 2 0 * d) (tab_sm9 hT) hp hq
      have hlE := leadE_rets hX T.length (te T 0 0) (te T 0 1) (te T 0 2) (te T 1 0) (te T 1 1) (te T 1 2) (te T 2 0) (te T 2 1) (te T 2 2) (L.getD 0 0 * f) (L.getD 1 0 * f) (L.getD 2 0 * f) (M.getD 0 0 * d) (M.getD 1 0 * d) (M.getD 2 0 * d) (tab_sm9 hT) hp hq
      obtain ⟨smS, smE⟩ := sg_sm hT hp hq
      have eS : gainZ (te T 0 0) (te T 0 1) (te T 0 2) (te T 1 0) (te T 1 1) (te T 1 2) (te T 2 0) (te T 2 1) (te T 2 2) (L.getD 0 0 * f) (L.getD 1 0 * f) (L.getD 2 0 * f) (L.getD 0 0 * f) (L.getD 1 0 * f) (L.getD 2 0 * f) - gainZ (te T 0 0) (te T 0 1) (te T 0 2) (te T 1 0) (te T 1 1) (te T 1 2) (te T 2 0) (te T 2 1) (te T 2 2) (M.getD 0 0 * d) (M.getD 1 0 * d) (M.getD 2 0 * d) (L.getD 0 0 * f) (L.getD 1 0 * f) (L.getD 2 0 * f) = sgS T L d M f := rfl
      have eE : gainZ (te T 0 0) (te T 0 1) (te T 0 2) (te T 1 0) (te T 1 1) (te T 1 2) (te T 2 0) (te T 2 1) (te T 2 2) (L.getD 0 0 * f) (L.getD 1 0 * f) (L.getD 2 0 * f) (M.getD 0 0 * d) (M.getD 1 0 * d) (M.getD 2 0 * d) - gainZ (te T 0 0) (te T 0 1) (te T 0 2) (te T 1 0) (te T 1 1) (te T 1 2) (te T 2 0) (te T 2 1) (te T 2 2) (M.getD 0 0 * d) (M.getD 1 0 * d) (M.getD 2 0 * d) (M.getD 0 0 * d) (M.getD 1 0 * d) (M.getD 2 0 * d) = sgE T L d M f := rfl
      rw [eS] at hlS
      rw [eE] at hlE
      obtain ⟨S, hS⟩ : ∃ S, sgS T L d M f = S := ⟨_, rfl⟩
      obtain ⟨E, hEE⟩ : ∃ E, sgE T L d M f = E := ⟨_, rfl⟩
      rw [hS] at hlS smS ⊢
      rw [hEE] at hlE smE ⊢
      unfold mgV at hlS hlE
      refine CallD.calm (hlS _) ?_
      rintro v g7 hx7 rfl
      have hn7 := hx7.next
      have hok7 := hx7.ok hokF
      have hN7 := (hx7.gets g6.next (by omega)).trans hN
      have hC7 := (hx7.gets (g.next + 1 + 1) (by omega)).trans hCF
      simp +decide (disch := first | assumption | exact cellV_int _ _ | exact cellV_bool _ | omega | (simp only [GH.pn, GH.sn] <;> omega) | (with_reducible ((repeat (first | apply GH.ok_push | apply GH.ok_set)); assumption)) | ((try simp only [GH.push_hid, GH.set_hid]); first | assumption | (refine GH.vis ?_ ?_ <;> first | assumption | ((try simp only [GH.pn, GH.sn]) <;> omega)))) only [go_sem, ↓reduceIte, Nat.reduceEqDiff, Nat.reduceAdd, Int.reduceToNat, Int.reduceAdd, Int.reduceNeg, Int.reduceSub, Int.reduceMul, Int.reduceLT, Int.reduceLE, Int.reduceEq, ↓GH.gp_eq, ↓GH.gp_ne, ↓GH.gs_eq, ↓GH.gs_ne, GH.push_next, GH.set_next, hN7]
      refine CallD.calm (hlE _) ?_
      rintro v g8 hx8 rfl
      have hn8 := hx8.next
      have hok8 := hx8.ok hok7
      have hC8 := (hx8.gets (g.next + 1 + 1) (by omega)).trans hC7
      have hvC8 := GH.seen hC8 Nat.one_ne_zero
      unfold Sm at smS smE
      by_cases q1 : S < 0
      · rw [if_pos (.inl q1)]
        simp +decide (disch := first | assumption | exact cellV_int _ _ | exact cellV_bool _ | omega | (simp only [GH.pn, GH.sn] <;> omega) | (with_reducible ((repeat (first | apply GH.ok_push | apply GH.ok_set)); assumption)) | ((try simp only [GH.push_hid, GH.set_hid]); first | assumption | (refine GH.vis ?_ ?_ <;> first | assumption | ((try simp only [GH.pn, GH.sn]) <;> omega)))) only [go_sem, ↓reduceIte, Nat.reduceEqDiff, Nat.reduceAdd, Int.reduceToNat, Int.reduceAdd, Int.reduceNeg, Int.reduceSub, Int.reduceMul, Int.reduceLT, Int.reduceLE, Int.reduceEq, ↓GH.gp_eq, ↓GH.gp_ne, ↓GH.gs_eq, ↓GH.gs_ne, GH.push_next, GH.set_next, q1, hC8]
        intro hx0
        exact ⟨by omega, rfl⟩
      · by_cases q2 : S = 0
        · by_cases q3 : E ≤ 0
          · rw [if_pos (.inr ⟨q2, q3⟩)]
            simp +decide (disch := first | assumption | exact cellV_int _ _ | exact cellV_bool _ | omega | (simp only [GH.pn, GH.sn] <;> omega) | (with_reducible ((repeat (first | apply GH.ok_push | apply GH.ok_set)); assumption)) | ((try simp only [GH.push_hid, GH.set_hid]); first | assumption | (refine GH.vis ?_ ?_ <;> first | assumption | ((try simp only [GH.pn, GH.sn]) <;> omega)))) only [go_sem, ↓reduceIte, Nat.reduceEqDiff, Nat.reduceAdd, Int.reduceToNat, Int.reduceAdd, Int.reduceNeg, Int.reduceSub, Int.reduceMul, Int.reduceLT, Int.reduceLE, Int.reduceEq, ↓GH.gp_eq, ↓GH.gp_ne, ↓GH.gs_eq, ↓GH.gs_ne, GH.push_next, GH.set_next, q1, q2, q3, hC8]
            intro hx0
            exact ⟨by omega, rfl⟩
          · rw [if_neg (by omega), if_pos (by omega)]
            have q4 : 0 ≤ E := by omega
            simp +decide (disch := first | assumption | exact cellV_int _ _ | exact cellV_bool _ | omega | (simp only [GH.pn, GH.sn] <;> omega) | (with_reducible ((repeat (first | apply GH.ok_push | apply GH.ok_set)); assumption)) | ((try simp only [GH.push_hid, GH.set_hid]); first | assumption | (refine GH.vis ?_ ?_ <;> first | assumption | ((try simp only [GH.pn, GH.sn]) <;> omega)))) only [go_sem, ↓reduceIte, Nat.reduceEqDiff, Nat.reduceAdd, Int.reduceToNat, Int.reduceAdd, Int.reduceNeg, Int.reduceSub, Int.reduceMul, Int.reduceLT, Int.reduceLE, Int.reduceEq, ↓GH.gp_eq, ↓GH.gp_ne, ↓GH.gs_eq, ↓GH.gs_ne, GH.push_next, GH.set_next, q1, q2, q3, q4]
            refine CallD.calm (lowest_rets hX 1 1 ⟨by decide, by decide⟩ (by decide) _) ?_
            rintro v g9 hx9 rfl
            have hn9 := hx9.next
            have hC9 := (hx9.gets (g.next + 1 + 1) (by omega)).trans hC8
            have hvC9 := GH.seen hC9 Nat.one_ne_zero
            rw [show lowN 1 1 = 1 from rfl, show lowD 1 1 = 1 from rfl]
            unfold raV
            simp +decide (disch := first | assumption | exact cellV_int _ _ | exact cellV_bool _ | omega | (simp only [GH.pn, GH.sn] <;> omega) | (with_reducible ((repeat (first | apply GH.ok_push | apply GH.ok_set)); assumption)) | ((try simp only [GH.push_hid, GH.set_hid]); first | assumption | (refine GH.vis ?_ ?_ <;> first | assumption | ((try simp only [GH.pn, GH.sn]) <;> omega)))) only [go_sem, ↓reduceIte, Nat.reduceEqDiff, Nat.reduceAdd, Int.reduceToNat, Int.reduceAdd, Int.reduceNeg, Int.reduceSub, Int.reduceMul, Int.reduceLT, Int.reduceLE, Int.reduceEq, ↓GH.gp_eq, ↓GH.gp_ne, ↓GH.gs_eq, ↓GH.gs_ne, GH.push_next, GH.set_next, hC9]
            intro hx0
            exact ⟨by omega, rfl⟩
        · rw [if_neg (by omega)]
          by_cases q4 : 0 ≤ E
          · rw [if_pos q4]
            simp +decide (disch := first | assumption | exact cellV_int _ _ | exact cellV_bool _ | omega | (simp only [GH.pn, GH.sn] <;> omega) | (with_reducible ((repeat (first | apply GH.ok_push | apply GH.ok_set)); assumption)) | ((try simp only [GH.push_hid, GH.set_hid]); first | assumption | (refine GH.vis ?_ ?_ <;> first | assumption | ((try simp only [GH.pn, GH.sn]) <;> omega)))) only [go_sem, ↓reduceIte, Nat.reduceEqDiff, Nat.reduceAdd, Int.reduceToNat, Int.reduceAdd, Int.reduceNeg, Int.reduceSub, Int.reduceMul, Int.reduceLT, Int.reduceLE, Int.reduceEq, ↓GH.gp_eq, ↓GH.gp_ne, ↓GH.gs_eq, ↓GH.gs_ne, GH.push_next, GH.set_next, q1, q2, q4]
            refine CallD.calm (lowest_rets hX 1 1 ⟨by decide, by decide⟩ (by decide) _) ?_
            rintro v g9 hx9 rfl
            have hn9 := hx9.next
            have hC9 := (hx9.gets (g.next + 1 + 1) (by omega)).trans hC8
            have hvC9 := GH.seen hC9 Nat.one_ne_zero
            rw [show lowN 1 1 = 1 from rfl, show lowD 1 1 = 1 from rfl]
            unfold raV
            simp +decide (disch := first | assumption | exact cellV_int _ _ | exact cellV_bool _ | omega | (simp only [GH.pn, GH.sn] <;> omega) | (with_reducible ((repeat (first | apply GH.ok_push | apply GH.ok_set)); assumption)) | ((try simp only [GH.push_hid, GH.set_hid]); first | assumption | (refine GH.vis ?_ ?_ <;> first | assumption | ((try simp only [GH.pn, GH.sn]) <;> omega)))) only [go_sem, ↓reduceIte, Nat.reduceEqDiff, Nat.reduceAdd, Int.reduceToNat, Int.reduceAdd, Int.reduceNeg, Int.reduceSub, Int.reduceMul, Int.reduceLT, Int.reduceLE, Int.reduceEq, ↓GH.gp_eq, ↓GH.gp_ne, ↓GH.gs_eq, ↓GH.gs_ne, GH.push_next, GH.set_next, hC9]
            intro hx0
            exact ⟨by omega, rfl⟩
          · rw [if_neg q4]
            simp +decide (disch := first | assumption | exact cellV_int _ _ | exact cellV_bool _ | omega | (simp only [GH.pn, GH.sn] <;> omega) | (with_reducible ((repeat (first | apply GH.ok_push | apply GH.ok_set)); assumption)) | ((try simp only [GH.push_hid, GH.set_hid]); first | assumption | (refine GH.vis ?_ ?_ <;> first | assumption | ((try simp only [GH.pn, GH.sn]) <;> omega)))) only [go_sem, ↓reduceIte, Nat.reduceEqDiff, Nat.reduceAdd, Int.reduceToNat, Int.reduceAdd, Int.reduceNeg, Int.reduceSub, Int.reduceMul, Int.reduceLT, Int.reduceLE, Int.reduceEq, ↓GH.gp_eq, ↓GH.gp_ne, ↓GH.gs_eq, ↓GH.gs_ne, GH.push_next, GH.set_next, q1, q2, q4]
            refine CallD.calm (lowest_rets hX S (S - E) ⟨by omega, by omega⟩ (by omega) _) ?_
            rintro v g9 hx9 rfl
            have hn9 := hx9.next
            have hC9 := (hx9.gets (g.next + 1 + 1) (by omega)).trans hC8
            have hvC9 := GH.seen hC9 Nat.one_ne_zero
            unfold raV
            simp +decide (disch := first | assumption | exact cellV_int _ _ | exact cellV_bool _ | omega | (simp only [GH.pn, GH.sn] <;> omega) | (with_reducible ((repeat (first | apply GH.ok_push | apply GH.ok_set)); assumption)) | ((try simp only [GH.push_hid, GH.set_hid]); first | assumption | (refine GH.vis ?_ ?_ <;> first | assumption | ((try simp only [GH.pn, GH.sn]) <;> omega)))) only [go_sem, ↓reduceIte, Nat.reduceEqDiff, Nat.reduceAdd, Int.reduceToNat, Int.reduceAdd, Int.reduceNeg, Int.reduceSub, Int.reduceMul, Int.reduceLT, Int.reduceLE, Int.reduceEq, ↓GH.gp_eq, ↓GH.gp_ne, ↓GH.gs_eq, ↓GH.gs_ne, GH.push_next, GH.set_next, hC9]
            intro hx0
            exact ⟨by omega, rfl⟩
end Go.Proofs.YtngmaccaldhjcaaDoor
set_option maxRecDepth 100000
set_option maxHeartbeats 4000000
set_option linter.unusedSimpArgs false
set_option linter.unusedVariables false
namespace Go.Proofs.YtngmaccaldhjcaaDoor
open Go.Ds
def SoundR (a b : Int) : Prop := 1 ≤ b ∧ b ≤ 100000000 ∧ -2000000000 ≤ a ∧ a ≤ 2000000000
theorem above_rets {X : Caller} (hX : Xok X) (a b c d : Int) (h : SoundR a b) (k : SoundR c d) (g : GH) :
    Rets Tryd.prog X 43 [.agg #[.int .i64 a, .int .i64 b], .agg #[.int .i64 c, .int .i64 d]] g (fun v g' lo => g.next ≤ lo ∧ v = .bool (decide (c * b < a * d))) := by
  have p1 : Sm 200000000000000000 (c * b) := (Sm.mul (b := 2000000000) (d := 100000000) (by unfold SoundR at *; unfold Sm; omega) (by unfold SoundR at *; unfold Sm; omega)).up (by decide)
  have p2 : Sm 200000000000000000 (a * d) := (Sm.mul (b := 2000000000) (d := 100000000) (by unfold SoundR at *; unfold Sm; omega) (by unfold SoundR at *; unfold Sm; omega)).up (by decide)
  unfold Sm at p1 p2
  refine Rets.run hX.pres p43 (hX.free 43 (by decide) _ _) rfl fun ho => ?_
  simp +decide (disch := first | assumption | exact cellV_int _ _ | exact cellV_bool _ | omega | (simp only [GH.pn, GH.sn] <;> omega) | (with_reducible ((repeat (first | apply GH.ok_push | apply GH.ok_set)); assumption)) | ((try simp only [GH.push_hid, GH.set_hid]); first | assumption | (refine GH.vis ?_ ?_ <;> first | assumption | ((try simp only [GH.pn, GH.sn]) <;> omega)))) only [go_sem, ↓reduceIte, Nat.reduceEqDiff, Nat.reduceAdd, Int.reduceToNat, Int.reduceAdd, Int.reduceNeg, Int.reduceSub, Int.reduceMul, Int.reduceLT, Int.reduceLE, Int.reduceEq, ↓GH.gp_eq, ↓GH.gp_ne, ↓GH.gs_eq, ↓GH.gs_ne, GH.push_next, GH.set_next]
  intro hx
  exact ⟨Nat.le_refl _, rfl⟩
end Go.Proofs.YtngmaccaldhjcaaDoor
set_option maxRecDepth 100000
set_option maxHeartbeats 4000000
set_option linter.unusedSimpArgs false
set_option linter.unusedVariables false
namespace Go.Proofs.YtngmaccaldhjcaaDoor
open Go.Ds
theorem stpL_nodup (b f : Nat) : ∀ n, (stpL b f n).Nodup
  | 0 => by simp [stpL]
  | n + 1 => by
    unfold stpL
    split
    · rw [List.nodup_append]
      refine ⟨stpL_nodup b f n, by simp, fun a ha c hc => ?_⟩
      have := (stpL_mem b f n a).1 ha
      rw [List.mem_singleton] at hc
      omega
    · exact stpL_nodup b f n
theorem quad_id {m00 m01 m02 m10 m11 m12 m20 m21 m22 : Int} {Z i k : Nat} (z : Nat → Int) (hZ : Z < 3) (hi : i < 3) (hk : k < 3) (h1 : i ≠ Z) (h2 : k ≠ Z) (h3 : i ≠ k) (hs : z 0 + z 1 + z 2 = 0) :
    gainZ m00 m01 m02 m10 m11 m12 m20 m21 m22 (z 0) (z 1) (z 2) (z 0) (z 1) (z 2) = gS m00 m01 m02 m10 m11 m12 m20 m21 m22 i i Z * (z i * z i) + (gS m00 m01 m02 m10 m11 m12 m20 m21 m22 i k Z + gS m00 m01 m02 m10 m11 m12 m20 m21 m22 k i Z) * (z i * z k) + gS m00 m01 m02 m10 m11 m12 m20 m21 m22 k k Z * (z k * z k) := by
  rcases (show (Z = 0 ∧ i = 1 ∧ k = 2) ∨ (Z = 0 ∧ i = 2 ∧ k = 1) ∨ (Z = 1 ∧ i = 0 ∧ k = 2) ∨ (Z = 1 ∧ i = 2 ∧ k = 0) ∨ (Z = 2 ∧ i = 0 ∧ k = 1) ∨ (Z = 2 ∧ i = 1 ∧ k = 0) by omega) with ⟨rfl, rfl, rfl⟩ | ⟨rfl, rfl, rfl⟩ | ⟨rfl, rfl, rfl⟩ | ⟨rfl, rfl, rfl⟩ | ⟨rfl, rfl, rfl⟩ | ⟨rfl, rfl, rfl⟩
  · have e : z 0 = -(z 1) - z 2 := by omega
    simp [gS, gainZ, uI, e]; grind
  · have e : z 0 = -(z 1) - z 2 := by omega
    simp [gS, gainZ, uI, e]; grind
  · have e : z 1 = -(z 0) - z 2 := by omega
    simp [gS, gainZ, uI, e]; grind
  · have e : z 1 = -(z 0) - z 2 := by omega
    simp [gS, gainZ, uI, e]; grind
  · have e : z 2 = -(z 0) - z 1 := by omega
    simp [gS, gainZ, uI, e]; grind
  · have e : z 2 = -(z 0) - z 1 := by omega
    simp [gS, gainZ, uI, e]; grind
theorem sq_pos' {u : Int} (h : u ≠ 0) : 0 < u * u := by
  rcases Int.lt_or_gt_of_ne h with c | c
  · exact Int.mul_pos_of_neg_of_neg c c
  · exact Int.mul_pos c c
theorem sq_nn (u : Int) : 0 ≤ u * u := by
  by_cases c : u = 0
  · subst c; simp
  · have := sq_pos' c; omega
theorem neg_sq {A u : Int} (hA : A < 0) : A * (u * u) ≤ 0 := by
  have := Int.mul_nonneg (show 0 ≤ -A by omega) (sq_nn u)
  rw [Int.neg_mul] at this; omega
theorem neg_sq' {A u : Int} (hA : A < 0) (h : u ≠ 0) : A * (u * u) < 0 := by
  have := Int.mul_pos (show 0 < -A by omega) (sq_pos' h)
  rw [Int.neg_mul] at this; omega
theorem lb2_neg {d A C M u v : Int} (h : lb2 d A C M = true) (hp : d = 1 → 0 ≤ u ∧ 0 ≤ v) (hne : u ≠ 0 ∨ v ≠ 0) : A * (u * u) + M * (u * v) + C * (v * v) < 0 := by
  unfold lb2 at h
  simp only [Bool.and_eq_true, Bool.or_eq_true, decide_eq_true_eq] at h
  obtain ⟨hA, hC, h⟩ := h
  rcases h with ⟨h1, h2⟩ | h
  · obtain ⟨p, q⟩ := hp h1
    have hM : M * (u * v) ≤ 0 := by
      have := Int.mul_nonneg (show 0 ≤ -M by omega) (Int.mul_nonneg p q)
      rw [Int.neg_mul] at this; omega
    have a := neg_sq (u := u) hA
    have c := neg_sq (u := v) hC
    rcases hne with e | e
    · have := neg_sq' hA e; omega
    · have := neg_sq' hC e; omega
  · by_cases e : v = 0
    · subst e
      have := neg_sq' hA (u := u) (by rcases hne with e | e; exact e; exact absurd rfl e)
      simp; exact this
    · have k1 := sq_nn (2 * A * u + M * v)
      have k2 := Int.mul_pos (show 0 < 4 * A * C - M * M by omega) (sq_pos' e)
      have k3 : 4 * A * (A * (u * u) + M * (u * v) + C * (v * v)) = (2 * A * u + M * v) * (2 * A * u + M * v) + (4 * A * C - M * M) * (v * v) := by grind
      apply Classical.byContradiction
      intro hn
      have := Int.mul_nonneg (show 0 ≤ -(4 * A) by omega) (show 0 ≤ A * (u * u) + M * (u * v) + C * (v * v) by omega)
      rw [Int.neg_mul] at this
      omega
theorem lbL_neg {d m00 m01 m02 m10 m11 m12 m20 m21 m22 : Int} {Z : Nat} (hZ : Z < 3) (l : List Nat) (hmem : ∀ i, i ∈ l → i < 3 ∧ i ≠ Z) (hnd : l.Nodup) (h2 : l.length ≤ 2) (z : Nat → Int) (hs : z 0 + z 1 + z 2 = 0) (hsup : ∀ i, i < 3 → i ≠ Z → i ∉ l → z i = 0) (hpos : d = 1 → ∀ i, i < 3 → i ≠ Z → 0 ≤ z i) (hlb : lbL d m00 m01 m02 m10 m11 m12 m20 m21 m22 Z l = true) (hne : ∃ i, i < 3 ∧ z i ≠ 0) :
    gainZ m00 m01 m02 m10 m11 m12 m20 m21 m22 (z 0) (z 1) (z 2) (z 0) (z 1) (z 2) < 0 := by
  obtain ⟨j, hj, hj0⟩ := hne
  have sumZ : (∀ i, i < 3 → i ≠ Z → z i = 0) → False := fun h => by
    have h0 := h 0 (by omega)
    have h1 := h 1 (by omega)
    have h2 := h 2 (by omega)
    apply hj0
    rcases (show j = 0 ∨ j = 1 ∨ j = 2 by omega) with rfl | rfl | rfl
    all_goals rcases (show Z = 0 ∨ Z = 1 ∨ Z = 2 by omega) with rfl | rfl | rfl
    all_goals simp at h0 h1 h2
    all_goals omega
  match l, hmem, hnd, h2, hsup, hlb with
  | [], _, _, _, hsup, _ => exact absurd (fun i a b => hsup i a b (by simp)) (fun h => sumZ h)
  | [i], hmem, _, _, hsup, hlb =>
    have hi := hmem i (by simp)
    have hk := hsup (3 - Z - i) (by omega) (by omega) (by rw [List.mem_singleton]; omega)
    rw [quad_id z hZ hi.1 (k := 3 - Z - i) (by omega) hi.2 (by omega) (by omega) hs, hk]
    have hA : gS m00 m01 m02 m10 m11 m12 m20 m21 m22 i i Z < 0 := of_decide_eq_true hlb
    have hzi : z i ≠ 0 := fun e => sumZ fun q a b => by
      by_cases c : q = i
      · rw [c]; exact e
      · rw [show q = 3 - Z - i by omega]; exact hk
    have := neg_sq' hA hzi
    simp; exact this
  | [i, k], hmem, hnd, _, hsup, hlb =>
    have hi := hmem i (by simp)
    have hk := hmem k (by simp)
    have hik : i ≠ k := by
      intro e; subst e; simp at hnd
    rw [quad_id z hZ hi.1 hk.1 hi.2 hk.2 hik hs]
    refine lb2_neg hlb (fun e => ⟨hpos e i hi.1 hi.2, hpos e k hk.1 hk.2⟩) ?_
    apply Classical.byContradiction
    intro hn
    refine sumZ fun q a b => ?_
    by_cases c : q = i
    · rw [c]; apply Classical.byContradiction; intro e; exact hn (.inl e)
    · rw [show q = k by omega]; apply Classical.byContradiction; intro e; exact hn (.inr e)
  | _ :: _ :: _ :: _, _, _, h, _, _ => simp at h
theorem tz_pos {a b c : Int} (h : 1 ≤ fashF (v3 a b c) 3) : tzN (fashF (v3 a b c) 3) < 3 ∧ 0 < v3 a b c (tzN (fashF (v3 a b c) 3)) := by
  have h7 := fashF_lt (v3 a b c) 3
  refine ⟨tzN_lt h (by omega), ?_⟩
  by_cases c0 : 0 < a
  all_goals by_cases c1 : 0 < b
  all_goals by_cases c2 : 0 < c
  all_goals simp only [fashF, v3, c0, c1, c2, if_true, if_false] at h ⊢
  all_goals first | exact absurd h (by decide) | (simp [tzN, c0, c1, c2])
theorem gcdL_dvd {D F : Nat} : ∀ (X : List Int) (a : Nat), D ∣ a * F → (∀ x, x ∈ X → D ∣ x.natAbs * F) → D ∣ gcdL a X * F
  | [], a, h, _ => h
  | x :: X, a, h, hx => by
    show D ∣ gcdL (Nat.gcd a x.natAbs) X * F
    refine gcdL_dvd X _ ?_ fun y hy => hx y (List.mem_cons_of_mem _ hy)
    rw [Nat.gcd_comm, ← Nat.gcd_mul_right]
    exact Nat.dvd_gcd (hx x (List.mem_cons_self ..)) h
theorem same_den {n : Nat} {L M : List Int} {d f : Int} (h1 : mixB n L d = true) (h2 : mixB n M f = true) (h : ∀ i, i < 3 → ne L i * f = ne M i * d) : d.natAbs ∣ f.natAbs := by
  obtain ⟨a1, a2, a3, a4, a5, a6, a7, a8⟩ := mix_facts h1
  have := gcdL_dvd (D := d.natAbs) (F := f.natAbs) L d.natAbs (Nat.dvd_mul_right ..) fun x hx => by
    obtain ⟨i, hi, rfl⟩ := List.getElem_of_mem hx
    have e := h i (by omega)
    have q : ne L i = L[i] := by unfold ne; rw [List.getD_eq_getElem?_getD, List.getElem?_eq_getElem hi]; rfl
    rw [← q, ← Int.natAbs_mul, e, Int.natAbs_mul]
    exact Nat.dvd_mul_left ..
  rw [a8, Nat.one_mul] at this
  exact this
theorem same_mix {n : Nat} {L M : List Int} {d f : Int} (h1 : mixB n L d = true) (h2 : mixB n M f = true) (h : ∀ i, i < 3 → ne L i * f = ne M i * d) : L = M ∧ d = f := by
  have k1 := same_den h1 h2 h
  have k2 := same_den h2 h1 fun i hi => (h i hi).symm
  obtain ⟨a1, a2, a3, a4, a5, a6, a7, a8⟩ := mix_facts h1
  obtain ⟨b1, b2, b3, b4, b5, b6, b7, b8⟩ := mix_facts h2
  have e : d = f := by have := Nat.dvd_antisymm k1 k2; omega
  subst e
  have g : ∀ i, i < 3 → ne L i = ne M i := fun i hi => Int.eq_of_mul_eq_mul_right (by omega) (h i hi)
  exact (same3 a3 b3 a2).1 ⟨g 0 (by omega), g 1 (by omega), g 2 (by omega), rfl⟩
theorem rest_more {T : List (List Int)} (hT : tabB T = true) {L : List Int} {d : Int} (h : mixB T.length L d = true) : ∃ mx : Int, (∀ i, i < T.length → rowT T L i ≤ mx) ∧ (∃ j, j < T.length ∧ rowT T L j = mx) ∧ (∀ j, j < T.length → ((bestT T L).testBit j = true ↔ rowT T L j = mx)) ∧ (restB T L = true ↔ ∀ i, i < 3 → 0 < ne L i → i < T.length ∧ rowT T L i = mx) := by
  obtain ⟨t1, t2, t3⟩ := tab_len hT
  obtain ⟨mx, h1, ⟨j, hj, h2⟩, h3⟩ := best_mask (rowT T L) T.length t1
  have hb : bestT T L = maskP (fun i => decide (rowT T L i = mx)) T.length := by
    show (bestS (rowT T L) T.length).1 = _
    rw [h3]
  refine ⟨mx, h1, ⟨j, hj, h2⟩, fun i hi => ?_, ?_⟩
  · rw [Nat.testBit_eq_decide_div_mod_eq, decide_eq_true_iff, hb, maskP_bit _ t2 hi]; simp
  · unfold restB
    rw [hb, fashF_mask, decide_eq_true_iff, andn_mask _ _ t2]
    simp only [decide_eq_true_eq]
    have hv : ∀ i, i < 3 → v3 (ne L 0) (ne L 1) (ne L 2) i = ne L i := fun i hi => by
      obtain rfl | rfl | rfl : i = 0 ∨ i = 1 ∨ i = 2 := by omega
      all_goals rfl
    constructor
    · intro hh i hi hp
      exact hh i hi (by rw [hv i hi]; exact hp)
    · intro hh i hi hp
      rw [hv i hi] at hp
      exact hh i hi hp
theorem gT_rows' (T : List (List Int)) (p0 p1 p2 f : Int) (L : List Int) : gT T p0 p1 p2 (ne L 0 * f) (ne L 1 * f) (ne L 2 * f) = f * (p0 * rowT T L 0 + p1 * rowT T L 1 + p2 * rowT T L 2) := by
  unfold gT gainZ rowT rowG v3
  grind
theorem gT_split (T : List (List Int)) (p0 p1 p2 q0 q1 q2 : Int) : gT T p0 p1 p2 q0 q1 q2 - gT T q0 q1 q2 q0 q1 q2 = -(gT T (q0 - p0) (q1 - p1) (q2 - p2) (q0 - p0) (q1 - p1) (q2 - p2)) - (gT T q0 q1 q2 p0 p1 p2 - gT T p0 p1 p2 p0 p1 p2) := by
  unfold gT gainZ
  grind
/-- What lasts has a limit with every other mixture. -/
theorem last_lim {T : List (List Int)} (hT : tabB T = true) {L M : List Int} {d f : Int} (h1 : mixB T.length L d = true) (h2 : mixB T.length M f = true) (hl : lastT T L d = true) (hne : ¬ (L = M ∧ d = f)) : ¬ (sgS T L d M f < 0 ∨ (sgS T L d M f = 0 ∧ sgE T L d M f ≤ 0)) := by
  obtain ⟨t1, t2, t3⟩ := tab_len hT
  obtain ⟨mx, r1, -, r2, r3⟩ := rest_more hT h1
  unfold lastT at hl
  rw [Bool.and_eq_true] at hl
  obtain ⟨hr, hlb⟩ := hl
  have r3 := r3.1 hr
  obtain ⟨a1, a2, a3, a4, a5, a6, a7, a8⟩ := mix_facts h1
  obtain ⟨b1, b2, b3, b4, b5, b6, b7, b8⟩ := mix_facts h2
  have s1 := mix_sum h1
  have s2 := mix_sum h2
  obtain ⟨z3, zp⟩ := tz_pos (fash_one h1)
  obtain ⟨Z, hZ⟩ : ∃ Z, tzN (fashF (v3 (ne L 0) (ne L 1) (ne L 2)) 3) = Z := ⟨_, rfl⟩
  rw [hZ] at hlb z3 zp
  have zp : 0 < ne L Z := by
    rcases (show Z = 0 ∨ Z = 1 ∨ Z = 2 by omega) with rfl | rfl | rfl
    all_goals exact zp
  let z : Nat → Int := fun i => ne M i * d - ne L i * f
  have hout : ∀ i, T.length ≤ i → z i = 0 := fun i hi => by
    show ne M i * d - ne L i * f = 0
    rw [ne_out (by omega), ne_out (L := L) (by omega)]; simp
  have hzs : z 0 + z 1 + z 2 = 0 := by
    have e1 : (ne M 0 + ne M 1 + ne M 2) * d = f * d := by rw [s2]
    have e2 : (ne L 0 + ne L 1 + ne L 2) * f = d * f := by rw [s1]
    show (ne M 0 * d - ne L 0 * f) + (ne M 1 * d - ne L 1 * f) + (ne M 2 * d - ne L 2 * f) = 0
    grind
  have zpos : ∀ i, ¬ 0 < ne L i → 0 ≤ z i := fun i hi => by
    have e : ne L i = 0 := by have := (a6 i).1; omega
    show 0 ≤ ne M i * d - ne L i * f
    rw [e]
    have := Int.mul_nonneg (b6 i).1 (show 0 ≤ d by omega)
    simp; exact this
  have term : ∀ i, i < 3 → z i * rowT T L i ≤ z i * mx ∧ (z i * rowT T L i = z i * mx → z i = 0 ∨ (i < T.length ∧ rowT T L i = mx)) := fun i hi => by
    by_cases c : i < T.length
    · by_cases cp : 0 < ne L i
      · have := (r3 i hi cp).2
        rw [this]; exact ⟨Int.le_refl _, fun _ => .inr ⟨c, rfl⟩⟩
      · have z0 := zpos i cp
        refine ⟨Int.mul_le_mul_of_nonneg_left (r1 i c) z0, fun e => ?_⟩
        by_cases cz : z i = 0
        · exact .inl cz
        · exact .inr ⟨c, Int.eq_of_mul_eq_mul_left cz e⟩
    · rw [hout i (by omega)]; simp
  have t0 := term 0 (by omega)
  have t1' := term 1 (by omega)
  have t2' := term 2 (by omega)
  have hsum : z 0 * mx + z 1 * mx + z 2 * mx = 0 := by
    have : (z 0 + z 1 + z 2) * mx = 0 := by rw [hzs]; simp
    grind
  have eS : sgS T L d M f = -(f * (z 0 * rowT T L 0 + z 1 * rowT T L 1 + z 2 * rowT T L 2)) := by
    unfold sgS
    rw [gT_rows', gT_rows']
    show _ = -(f * ((ne M 0 * d - ne L 0 * f) * rowT T L 0 + (ne M 1 * d - ne L 1 * f) * rowT T L 1 + (ne M 2 * d - ne L 2 * f) * rowT T L 2))
    grind
  obtain ⟨W, hW⟩ : ∃ W, z 0 * rowT T L 0 + z 1 * rowT T L 1 + z 2 * rowT T L 2 = W := ⟨_, rfl⟩
  rw [hW] at eS
  have hW0 : W ≤ 0 := by omega
  have hfW : 0 ≤ sgS T L d M f := by
    rw [eS]
    have := Int.mul_nonneg (show 0 ≤ f by omega) (show 0 ≤ -W by omega)
    rw [Int.mul_neg] at this; exact this
  rintro (hh | ⟨hh, hE⟩)
  · omega
  · have hW1 : W = 0 := by
      rw [hh] at eS
      rcases Int.mul_eq_zero.1 (show f * W = 0 by omega) with e | e
      · omega
      · exact e
    have e0 := t0.2 (by omega)
    have e1 := t1'.2 (by omega)
    have e2 := t2'.2 (by omega)
    have eB : ∀ i, i < 3 → z i = 0 ∨ (i < T.length ∧ rowT T L i = mx) := fun i hi => by
      rcases (show i = 0 ∨ i = 1 ∨ i = 2 by omega) with rfl | rfl | rfl
      · exact e0
      · exact e1
      · exact e2
    have hE2 : sgE T L d M f = -(gT T (z 0) (z 1) (z 2) (z 0) (z 1) (z 2)) := by
      have q := gT_split T (ne L 0 * f) (ne L 1 * f) (ne L 2 * f) (ne M 0 * d) (ne M 1 * d) (ne M 2 * d)
      unfold sgS at hh
      unfold sgE
      rw [q]
      show -(gT T (z 0) (z 1) (z 2) (z 0) (z 1) (z 2)) - _ = _
      omega
    have hn : ∃ i, i < 3 ∧ z i ≠ 0 := by
      apply Classical.byContradiction
      intro hno
      apply hne
      refine same_mix h1 h2 fun i hi => ?_
      apply Classical.byContradiction
      intro hq
      exact hno ⟨i, hi, fun e => hq (by have : ne M i * d - ne L i * f = 0 := e; omega)⟩
    have hneg := lbL_neg z3 _ (fun i hi => by
        have := (stpL_mem _ _ _ _).1 hi
        exact ⟨by omega, this.2.2⟩) (stpL_nodup _ _ _) (stpL_two t2 z3) z hzs (fun i hi hiZ hil => by
        rcases eB i hi with e | ⟨q1, q2⟩
        · exact e
        · exact absurd ((stpL_mem _ _ _ _).2 ⟨q1, (r2 i q1).2 q2, hiZ⟩) hil) (fun hd i hi hiZ => by
        refine zpos i ?_
        intro hp
        have p0 := a6 0
        have p1 := a6 1
        have p2 := a6 2
        subst hd
        rcases (show Z = 0 ∨ Z = 1 ∨ Z = 2 by omega) with rfl | rfl | rfl
        all_goals rcases (show i = 0 ∨ i = 1 ∨ i = 2 by omega) with rfl | rfl | rfl
        all_goals omega) hlb hn
    have : gT T (z 0) (z 1) (z 2) (z 0) (z 1) (z 2) < 0 := hneg
    omega
end Go.Proofs.YtngmaccaldhjcaaDoor
set_option maxRecDepth 100000
set_option maxHeartbeats 4000000
set_option linter.unusedSimpArgs false
set_option linter.unusedVariables false
namespace Go.Proofs.YtngmaccaldhjcaaDoor
open Go.Ds
def unitL (n i : Nat) : List Int := (List.replicate n 0).set i 1
theorem unitL_len (n i : Nat) : (unitL n i).length = n := by simp [unitL]
theorem unitL_ne (n i : Nat) (hi : i < n) (k : Nat) : ne (unitL n i) k = if k = i then 1 else 0 := by
  unfold ne unitL
  rw [List.getD_eq_getElem?_getD, List.getElem?_set]
  by_cases c : i = k
  · subst c
    simp [hi]
  · rw [if_neg c, if_neg (fun e => c e.symm)]
    rw [List.getElem?_replicate]
    split <;> rfl
theorem unit_mix : ∀ n : Nat, n ≤ 3 → ∀ j, j < n → mixB n (unitL n j) 1 = true := by decide
theorem rest_facts {T : List (List Int)} (hT : tabB T = true) {L : List Int} {d : Int} (h : mixB T.length L d = true) : ∃ mx : Int, 1 ≤ bestT T L ∧ bestT T L < 2 ^ T.length ∧ Sm (20 * d) mx ∧ (∀ i, i < T.length → rowT T L i ≤ mx) ∧ (∀ j, j < T.length → (bestT T L / 2 ^ j % 2 = 1 ↔ rowT T L j = mx)) ∧
    (restB T L = true → gT T (ne L 0) (ne L 1) (ne L 2) (ne L 0) (ne L 1) (ne L 2) = mx * d) ∧ (restB T L = false → gT T (ne L 0) (ne L 1) (ne L 2) (ne L 0) (ne L 1) (ne L 2) < mx * d) ∧
    (∀ (P : List Int) (f : Int), mixB T.length P f = true → gT T (ne P 0) (ne P 1) (ne P 2) (ne L 0) (ne L 1) (ne L 2) ≤ mx * f) := by
  obtain ⟨t1, t2, t3⟩ := tab_len hT
  obtain ⟨mx, h1, ⟨j, hj, h2⟩, h3⟩ := best_mask (rowT T L) T.length t1
  have hb : bestT T L = maskP (fun i => decide (rowT T L i = mx)) T.length := by
    show (bestS (rowT T L) T.length).1 = _
    rw [h3]
  obtain ⟨a1, a2, a3, a4, a5, a6, a7, a8⟩ := mix_facts h
  have hrest : restB T L = true ↔ ∀ i, i < 3 → 0 < v3 (ne L 0) (ne L 1) (ne L 2) i → i < T.length ∧ rowT T L i = mx := by
    unfold restB
    rw [hb, fashF_mask, decide_eq_true_iff, andn_mask _ _ t2]
    simp only [decide_eq_true_eq]
  have zero : ∀ (P : List Int), P.length = T.length → ∀ i, T.length ≤ i → ne P i = 0 := fun P hP i hi => ne_out (by omega)
  have le_mul : ∀ (x r m : Int), 0 ≤ x → r ≤ m → x * r ≤ x * m := fun x r m p q => Int.mul_le_mul_of_nonneg_left q p
  have term : ∀ (P : List Int), P.length = T.length → (∀ i, 0 ≤ ne P i) → ∀ i, ne P i * rowT T L i ≤ ne P i * mx := by
    intro P hP hp i
    by_cases c : i < T.length
    · exact le_mul _ _ _ (hp i) (h1 i c)
    · rw [zero P hP i (by omega)]; simp
  refine ⟨mx, by rw [hb]; exact maskP_pos _ j hj (by simpa using h2), bestS_lt _ _, by rw [← h2]; exact row_bound hT h j, h1, fun i hi => by rw [hb, maskP_bit _ t2 hi]; simp, fun hr => ?_, fun hr => ?_, fun P f hP => ?_⟩
  · rw [gT_rows, ← mix_sum h]
    have e : ∀ i, i < 3 → ne L i * rowT T L i = ne L i * mx := by
      intro i hi
      have := hrest.1 hr i hi
      have hv : v3 (ne L 0) (ne L 1) (ne L 2) i = ne L i := by
        obtain rfl | rfl | rfl : i = 0 ∨ i = 1 ∨ i = 2 := by omega
        all_goals rfl
      rw [hv] at this
      by_cases c : 0 < ne L i
      · rw [(this c).2]
      · have := (a6 i).1
        rw [show ne L i = 0 by omega]; simp
    rw [e 0 (by omega), e 1 (by omega), e 2 (by omega)]
    grind
  · have hn : ¬ ∀ i, i < 3 → 0 < v3 (ne L 0) (ne L 1) (ne L 2) i → i < T.length ∧ rowT T L i = mx := fun hh => by
      rw [hrest.2 hh] at hr; cases hr
    have ⟨i, hi, hp, hne⟩ : ∃ i, i < 3 ∧ 0 < ne L i ∧ rowT T L i ≠ mx := by
      apply Classical.byContradiction
      intro hno
      apply hn
      intro i hi hp
      have hv : v3 (ne L 0) (ne L 1) (ne L 2) i = ne L i := by
        obtain rfl | rfl | rfl : i = 0 ∨ i = 1 ∨ i = 2 := by omega
        all_goals rfl
      rw [hv] at hp
      refine ⟨?_, ?_⟩
      · rcases Nat.lt_or_ge i T.length with q | q
        · exact q
        · have := zero L a3 i q; omega
      · apply Classical.byContradiction
        intro hq
        exact hno ⟨i, hi, hp, hq⟩
    rw [gT_rows, ← mix_sum h]
    have q0 := term L a3 (fun i => (a6 i).1) 0
    have q1 := term L a3 (fun i => (a6 i).1) 1
    have q2 := term L a3 (fun i => (a6 i).1) 2
    have hlt : rowT T L i < mx := by
      have : i < T.length := by
        rcases Nat.lt_or_ge i T.length with q | q
        · exact q
        · have := zero L a3 i q; omega
      have := h1 i this
      omega
    have qs : ne L i * rowT T L i < ne L i * mx := Int.mul_lt_mul_of_pos_left hlt hp
    have : mx * (ne L 0 + ne L 1 + ne L 2) = ne L 0 * mx + ne L 1 * mx + ne L 2 * mx := by grind
    rw [this]
    obtain rfl | rfl | rfl : i = 0 ∨ i = 1 ∨ i = 2 := by omega
    all_goals omega
  · obtain ⟨b1, b2, b3, b4, b5, b6, b7, b8⟩ := mix_facts hP
    rw [gT_rows, ← mix_sum hP]
    have q0 := term P b3 (fun i => (b6 i).1) 0
    have q1 := term P b3 (fun i => (b6 i).1) 1
    have q2 := term P b3 (fun i => (b6 i).1) 2
    have : mx * (ne P 0 + ne P 1 + ne P 2) = ne P 0 * mx + ne P 1 * mx + ne P 2 * mx := by grind
    rw [this]
    omega

theorem bldPX (j n c : Nat) (y : Int) : buildF [(0, 1), (1, 1)] none #[.slice none 0 0, .int .i64 0] [(0, .slice (some ⟨j, 0, none⟩) n c), (1, .int .i64 y)] = some (.agg #[.slice (some ⟨j, 0, none⟩) n c, .int .i64 y]) := rfl
theorem lim_form (T : List (List Int)) (L : List Int) (d : Int) (M : List Int) (f : Int) : ∃ a b e, limR T L d M f = .tuple #[raV a b, .int .i64 e] ∧ (err2 T L d M f = 0 → ¬ (L = M ∧ d = f) → (e = 9 ↔ (sgS T L d M f < 0 ∨ (sgS T L d M f = 0 ∧ sgE T L d M f ≤ 0)))) := by
  unfold limR
  split
  · rename_i h
    exact ⟨_, _, _, rfl, fun h0 => by rw [h0] at h; cases h⟩
  · split
    · rename_i h; exact ⟨_, _, _, rfl, fun _ h0 => absurd h h0⟩
    · split
      · rename_i h; exact ⟨_, _, _, rfl, fun _ _ => ⟨fun _ => h, fun _ => rfl⟩⟩
      · split
        · rename_i h _; exact ⟨_, _, _, rfl, fun _ _ => ⟨fun e => absurd e (by decide), fun e => absurd e h⟩⟩
        · rename_i h _; exact ⟨_, _, _, rfl, fun _ _ => ⟨fun e => absurd e (by decide), fun e => absurd e h⟩⟩
/-- Against a mixture that is not at rest, one fashion alone has no limit. -/
theorem press {T : List (List Int)} (hT : tabB T = true) {L : List Int} {d : Int} (h : mixB T.length L d = true) (hr : restB T L = false) : ∃ j, j < T.length ∧ ∃ a b, limR T L d (unitL T.length j) 1 = .tuple #[raV a b, .int .i64 9] := by
  obtain ⟨t1, t2, t3⟩ := tab_len hT
  obtain ⟨mx, -, -, -, r4, r5, -, r7, -⟩ := rest_facts hT h
  obtain ⟨mx', q1, ⟨j, hj, q2⟩, q3, -⟩ := rest_more hT h
  have hmx : rowT T L j = mx := (r5 j hj).1 (by have := (q3 j hj).2 q2; rw [Nat.testBit_eq_decide_div_mod_eq, decide_eq_true_iff] at this; exact this)
  have hlt := r7 hr
  refine ⟨j, hj, ?_⟩
  obtain ⟨a, b, e, h1, h2⟩ := lim_form T L d (unitL T.length j) 1
  have hu := unit_mix T.length t2 j hj
  have hE : err2 T L d (unitL T.length j) 1 = 0 := by unfold err2; rw [if_pos ⟨hT, h, hu⟩]
  have hg : gT T (ne (unitL T.length j) 0) (ne (unitL T.length j) 1) (ne (unitL T.length j) 2) (ne L 0) (ne L 1) (ne L 2) = mx := by
    rw [gT_rows, unitL_ne _ _ hj, unitL_ne _ _ hj, unitL_ne _ _ hj, ← hmx]
    rcases (show j = 0 ∨ j = 1 ∨ j = 2 by omega) with rfl | rfl | rfl
    all_goals simp
  have hne : ¬ (L = unitL T.length j ∧ d = 1) := by
    rintro ⟨e1, e2⟩
    rw [← e1] at hg
    rw [hg, e2] at hlt
    omega
  have hS : sgS T L d (unitL T.length j) 1 < 0 := by
    have e : sgS T L d (unitL T.length j) 1 = gT T (ne L 0) (ne L 1) (ne L 2) (ne L 0) (ne L 1) (ne L 2) - d * gT T (ne (unitL T.length j) 0) (ne (unitL T.length j) 1) (ne (unitL T.length j) 2) (ne L 0) (ne L 1) (ne L 2) := by
      unfold sgS gT gainZ
      grind
    rw [e, hg]
    have : d * mx = mx * d := Int.mul_comm ..
    omega
  refine ⟨a, b, ?_⟩
  rw [h1, (h2 hE hne).2 (.inl hS)]
theorem pressed_rets {X : Caller} (hX : Xok X) (T : List (List Int)) (hF : Few T) (hT : tabB T = true) (L : List Int) (d : Int) (hm : mixB T.length L d = true) (hr : restB T L = false) (t s : Value) (g : GH) (ht : Sl2 g t T) (hs : SlR g s (ints L)) :
    Rets Tryd.prog X 44 [t, paV s d] g (fun v g' lo => g.next ≤ lo ∧ v = .bool true) := by
  obtain ⟨t1, t2, t3⟩ := tab_len hT
  obtain ⟨j, hj, pa, pb, hp⟩ := press hT hm hr
  have x0 : ∀ a b : Value, extF (.tuple #[a, b]) 0 = some a := fun _ _ => rfl
  have x1 : ∀ a b : Value, extF (.tuple #[a, b]) 1 = some b := fun _ _ => rfl
  have hl := ht.len
  have hc := hs.cell
  unfold paV
  refine Rets.run hX.pres p44 (hX.free 44 (by decide) _ _) rfl fun ho => ?_
  have hB : (g.push (cellsOb [s, .int .i64 d] 25)).get g.next = cellsOb [s, .int .i64 d] 25 := (by simp (disch := first | assumption | exact cellV_int _ _ | exact cellV_bool _ | omega | (simp only [GH.pn, GH.sn] <;> omega) | (with_reducible ((repeat (first | apply GH.ok_push | apply GH.ok_set)); assumption)) | ((try simp only [GH.push_hid, GH.set_hid]); first | assumption | (refine GH.vis ?_ ?_ <;> first | assumption | ((try simp only [GH.pn, GH.sn]) <;> omega)))) only [↓GH.gp_eq, ↓GH.gp_ne, ↓GH.gs_eq, ↓GH.gs_ne, GH.push_next, GH.set_next]; first | done | exact rfl)
  have hk0 := (Kept.refl g).push ho (cellsOb [s, .int .i64 d] 25)
  simp +decide (disch := first | assumption | exact cellV_int _ _ | exact cellV_bool _ | omega | (simp only [GH.pn, GH.sn] <;> omega) | (with_reducible ((repeat (first | apply GH.ok_push | apply GH.ok_set)); assumption)) | ((try simp only [GH.push_hid, GH.set_hid]); first | assumption | (refine GH.vis ?_ ?_ <;> first | assumption | ((try simp only [GH.pn, GH.sn]) <;> omega)))) only [go_sem, ↓reduceIte, Nat.reduceEqDiff, Nat.reduceAdd, Int.reduceToNat, Int.reduceAdd, Int.reduceNeg, Int.reduceSub, Int.reduceMul, Int.reduceLT, Int.reduceLE, Int.reduceEq, ↓GH.gp_eq, ↓GH.gp_ne, ↓GH.gs_eq, ↓GH.gs_ne, GH.push_next, GH.set_next, hc]
  obtain ⟨g2, hg2⟩ : ∃ g2, g.push (cellsOb [s, .int .i64 d] 25) = g2 := ⟨_, rfl⟩
  have hgn : g2.next = g.next + 1 := by rw [← hg2]; rfl
  rw [hg2] at hB hk0 ⊢
  refine Wk.loops (fun m e g' lo => g.next ≤ lo ∧ Kept g2 g' ∧ ∃ i : Nat, i + m = j ∧ (ev e (.s 0) = t ∧ ev e (.s 3) = ptrTo g.next ∧ ev e (.s 5) = .int .i64 i))
    (fun e g' lo => False) (n := j) ?_ ?_ ?_
  · exact ⟨Nat.le_refl _, Kept.refl _, 0, by omega, (by simp +decide (disch := first | assumption | (apply GH.ok_push; assumption) | exact cellV_int _ _ | exact cellV_bool _ | omega) only [go_sem, ↓reduceIte, Nat.reduceEqDiff, Nat.reduceAdd, Int.reduceToNat]; first | done | exact rfl)⟩
  · rintro e g' lo - - hh
    exact hh.elim
  · rintro m e g' lo ho' hl' ih out ⟨hlo, hk, i, hi, he⟩
    have hkn := hk.next
    have ci : i < T.length := by omega
    have hB' := (hk.gets g.next (by omega)).trans hB
    have ci' : (i : Int) < T.length := by omega
    simp +decide (disch := first | assumption | exact cellV_int _ _ | exact cellV_bool _ | omega | (simp only [GH.pn, GH.sn] <;> omega) | (with_reducible ((repeat (first | apply GH.ok_push | apply GH.ok_set)); assumption)) | ((try simp only [GH.push_hid, GH.set_hid]); first | assumption | (refine GH.vis ?_ ?_ <;> first | assumption | ((try simp only [GH.pn, GH.sn]) <;> omega)))) only [go_sem, ↓reduceIte, Nat.reduceEqDiff, Nat.reduceAdd, Int.reduceToNat, Int.reduceAdd, Int.reduceNeg, Int.reduceSub, Int.reduceMul, Int.reduceLT, Int.reduceLE, Int.reduceEq, ↓GH.gp_eq, ↓GH.gp_ne, ↓GH.gs_eq, ↓GH.gs_ne, GH.push_next, GH.set_next, he, hl, ci']
    refine Wk.mkslice (n := T.length) (c := T.length) (by simp +decide (disch := first | assumption | (apply GH.ok_push; assumption) | exact cellV_int _ _ | exact cellV_bool _ | omega) only [go_sem, ↓reduceIte, Nat.reduceEqDiff, Nat.reduceAdd, Int.reduceToNat, he, hl]; first | done | exact rfl) (by simp +decide (disch := first | assumption | (apply GH.ok_push; assumption) | exact cellV_int _ _ | exact cellV_bool _ | omega) only [go_sem, ↓reduceIte, Nat.reduceEqDiff, Nat.reduceAdd, Int.reduceToNat, he, hl]; first | done | exact rfl) (Nat.le_refl _) (by omega) ?_
    have hz : repeatN [Value.int .i64 0] T.length = ints (List.replicate T.length 0) := by
      rw [repeatN_replicate]; simp [ints]
    rw [hz]
    have hia := iaddrS_at (j := g'.next) (n := T.length) (c := T.length) (m := i) (x := (i : Int)) rfl ci
    have hsp : splice i (ints (List.replicate T.length 0)) [.int .i64 1] = ints (unitL T.length i) := by
      rw [splice_set _ _ _ (by rw [ints_len]; simpa using ci), ints_set]; rfl
    have hrl : (ints (List.replicate T.length 0)).length = T.length := by rw [ints_len]; simp
    simp +decide (disch := first | assumption | exact cellV_int _ _ | exact cellV_bool _ | omega | (simp only [GH.pn, GH.sn] <;> omega) | (with_reducible ((repeat (first | apply GH.ok_push | apply GH.ok_set)); assumption)) | ((try simp only [GH.push_hid, GH.set_hid]); first | assumption | (refine GH.vis ?_ ?_ <;> first | assumption | ((try simp only [GH.pn, GH.sn]) <;> omega)))) only [go_sem, ↓reduceIte, Nat.reduceEqDiff, Nat.reduceAdd, Int.reduceToNat, Int.reduceAdd, Int.reduceNeg, Int.reduceSub, Int.reduceMul, Int.reduceLT, Int.reduceLE, Int.reduceEq, ↓GH.gp_eq, ↓GH.gp_ne, ↓GH.gs_eq, ↓GH.gs_ne, GH.push_next, GH.set_next, he, hl, hia, hsp, hrl, hB', bldPX]
    rw [hsp]
    refine CallD.name fun G hG => ?_
    have hkG : Kept g' G := by rw [hG]; exact (by (repeat' first | exact Kept.refl _ | assumption | refine Kept.push ?_ ?_ _ | refine Kept.setV ?_ ?_ ?_ _) <;> (first | assumption | exact cellV_int _ _ | exact cellV_bool _ | omega | (simp only [GH.pn, GH.sn] <;> omega) | (with_reducible ((repeat (first | apply GH.ok_push | apply GH.ok_set)); assumption)) | ((try simp only [GH.push_hid, GH.set_hid]); first | assumption | (refine GH.vis ?_ ?_ <;> first | assumption | ((try simp only [GH.pn, GH.sn]) <;> omega)))))
    have hgetG : G.get g'.next = cellsOb (ints (unitL T.length i)) 3 := by rw [hG]; exact (by simp (disch := first | assumption | exact cellV_int _ _ | exact cellV_bool _ | omega | (simp only [GH.pn, GH.sn] <;> omega) | (with_reducible ((repeat (first | apply GH.ok_push | apply GH.ok_set)); assumption)) | ((try simp only [GH.push_hid, GH.set_hid]); first | assumption | (refine GH.vis ?_ ?_ <;> first | assumption | ((try simp only [GH.pn, GH.sn]) <;> omega)))) only [↓GH.gp_eq, ↓GH.gp_ne, ↓GH.gs_eq, ↓GH.gs_ne, GH.push_next, GH.set_next]; first | done | exact rfl)
    have hokG : G.ok := by rw [hG]; exact GH.ok_set (GH.ok_set (GH.ok_push (GH.ok_push ho')))
    have hnG : G.next = g'.next + 1 + 1 := by rw [hG]; rfl
    have hu := SlR.whole (n := T.length) (c := T.length) hgetG (by omega) (by rw [ints_len, unitL_len])
    have hkk := hk0.trans (hk.trans hkG)
    have hlim := Limit_rets hX T hF L d (unitL T.length i) 1 t s _ G (ht.kept hkk) (hs.kept hkk) hu
    unfold paV at hlim
    obtain ⟨a, b, e9, hfo, -⟩ := lim_form T L d (unitL T.length i) 1
    refine CallD.calm hlim ?_
    rintro v G3 hx3 rfl
    have hn3 := hx3.next
    have hok3 := hx3.ok hokG
    have hkk2 := (hk.trans hkG).ext hx3
    rw [hfo]
    unfold raV
    by_cases c9 : e9 = 9
    · simp +decide (disch := first | assumption | exact cellV_int _ _ | exact cellV_bool _ | omega | (simp only [GH.pn, GH.sn] <;> omega) | (with_reducible ((repeat (first | apply GH.ok_push | apply GH.ok_set)); assumption)) | ((try simp only [GH.push_hid, GH.set_hid]); first | assumption | (refine GH.vis ?_ ?_ <;> first | assumption | ((try simp only [GH.pn, GH.sn]) <;> omega)))) only [go_sem, ↓reduceIte, Nat.reduceEqDiff, Nat.reduceAdd, Int.reduceToNat, Int.reduceAdd, Int.reduceNeg, Int.reduceSub, Int.reduceMul, Int.reduceLT, Int.reduceLE, Int.reduceEq, ↓GH.gp_eq, ↓GH.gp_ne, ↓GH.gs_eq, ↓GH.gs_ne, GH.push_next, GH.set_next, he, c9, x0, x1]
      intro hx0
      exact ⟨by omega, rfl⟩
    · have hij : i ≠ j := by
        intro e; subst e
        rw [hp] at hfo
        injection hfo with q
        injection q with q
        injection q with q1 q2
        injection q2 with q2 q3
        injection q2 with q4 q5
        exact c9 q5.symm
      simp +decide (disch := first | assumption | exact cellV_int _ _ | exact cellV_bool _ | omega | (simp only [GH.pn, GH.sn] <;> omega) | (with_reducible ((repeat (first | apply GH.ok_push | apply GH.ok_set)); assumption)) | ((try simp only [GH.push_hid, GH.set_hid]); first | assumption | (refine GH.vis ?_ ?_ <;> first | assumption | ((try simp only [GH.pn, GH.sn]) <;> omega)))) only [go_sem, ↓reduceIte, Nat.reduceEqDiff, Nat.reduceAdd, Int.reduceToNat, Int.reduceAdd, Int.reduceNeg, Int.reduceSub, Int.reduceMul, Int.reduceLT, Int.reduceLE, Int.reduceEq, ↓GH.gp_eq, ↓GH.gp_ne, ↓GH.gs_eq, ↓GH.gs_ne, GH.push_next, GH.set_next, he, c9, x0, x1]
      refine ih (m - 1) _ _ _ (by omega) ⟨by omega, ?_, i + 1, by omega, (by simp +decide (disch := first | assumption | (apply GH.ok_push; assumption) | exact cellV_int _ _ | exact cellV_bool _ | omega) only [go_sem, ↓reduceIte, Nat.reduceEqDiff, Nat.reduceAdd, Int.reduceToNat, he]; first | done | exact rfl)⟩
      exact (by (repeat' first | exact Kept.refl _ | assumption | refine Kept.push ?_ ?_ _ | refine Kept.setV ?_ ?_ ?_ _) <;> (first | assumption | exact cellV_int _ _ | exact cellV_bool _ | omega | (simp only [GH.pn, GH.sn] <;> omega) | (with_reducible ((repeat (first | apply GH.ok_push | apply GH.ok_set)); assumption)) | ((try simp only [GH.push_hid, GH.set_hid]); first | assumption | (refine GH.vis ?_ ?_ <;> first | assumption | ((try simp only [GH.pn, GH.sn]) <;> omega)))))
end Go.Proofs.YtngmaccaldhjcaaDoor
