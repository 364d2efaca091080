import Derived.Test.YtngmaccaldhjcaaDoorJ5
import Derived.Test.YtngmaccaldhjcaaDoorJ3
set_option linter.all false
set_option linter.unusedSimpArgs false
set_option linter.unnecessarySimpa false
set_option linter.unusedVariables false
set_option linter.unusedSectionVars false
set_option maxRecDepth 100000
set_option maxHeartbeats 8000000
set_option linter.unusedSimpArgs false
set_option linter.unusedVariables false
namespace Go.Proofs.YtngmaccaldhjcaaDoor
open Go.Ds
theorem sound4_rets {X : Caller} (hX : Xok X) (a b c d p q r s : Int) (h : SoundR a b) (k : SoundR c d) (h' : SoundR p q) (k' : SoundR r s) (j : Nat) (ty : TypeId) (g : GH) (hj : j < g.next) (hg : g.get j = cellsOb [.int .i64 a, .int .i64 b, .int .i64 c, .int .i64 d, .int .i64 p, .int .i64 q, .int .i64 r, .int .i64 s] ty) :
    Rets Tryd.prog X 41 [.slice (some ⟨j, 0, none⟩) 4 4] g (fun v g' lo => g.next ≤ lo ∧ v = .bool true) := by
  have hia : iaddrSF 2 (.slice (some ⟨j, 0, none⟩) 4 4) (.int .i64 0) = some (.pointer (some ⟨j, 0, none⟩)) := rfl
  have hib : iaddrSF 2 (.slice (some ⟨j, 0, none⟩) 4 4) (.int .i64 1) = some (.pointer (some ⟨j, 2, none⟩)) := by
    show some (Value.pointer (some ((⟨j, 0, none⟩ : Addr).add 2))) = _
    unfold Addr.add; rfl
  have hic : iaddrSF 2 (.slice (some ⟨j, 0, none⟩) 4 4) (.int .i64 2) = some (.pointer (some ⟨j, 4, none⟩)) := by
    show some (Value.pointer (some ((⟨j, 0, none⟩ : Addr).add 4))) = _
    unfold Addr.add; rfl
  have hid : iaddrSF 2 (.slice (some ⟨j, 0, none⟩) 4 4) (.int .i64 3) = some (.pointer (some ⟨j, 6, none⟩)) := by
    show some (Value.pointer (some ((⟨j, 0, none⟩ : Addr).add 6))) = _
    unfold Addr.add; rfl
  obtain ⟨h1, h2, h3, h4⟩ := h
  obtain ⟨k1, k2, k3, k4⟩ := k
  obtain ⟨u1, u2, u3, u4⟩ := h'
  obtain ⟨w1, w2, w3, w4⟩ := k'
  have c1 : ¬ b < 1 ∧ ¬ 100000000 < b ∧ ¬ a < -2000000000 ∧ ¬ 2000000000 < a := by omega
  have c2 : ¬ d < 1 ∧ ¬ 100000000 < d ∧ ¬ c < -2000000000 ∧ ¬ 2000000000 < c := by omega
  have c3 : ¬ q < 1 ∧ ¬ 100000000 < q ∧ ¬ p < -2000000000 ∧ ¬ 2000000000 < p := by omega
  have c4 : ¬ s < 1 ∧ ¬ 100000000 < s ∧ ¬ r < -2000000000 ∧ ¬ 2000000000 < r := by omega
  refine Rets.run hX.pres p41 (hX.free 41 (by decide) _ _) rfl fun ho => ?_
  simp +decide (disch := first | assumption | exact cellV_int _ _ | exact cellV_bool _ | omega | (simp only [GH.pn, GH.sn] <;> omega) | (with_reducible ((repeat (first | apply GH.ok_push | apply GH.ok_set)); assumption)) | ((try simp only [GH.push_hid, GH.set_hid]); first | assumption | (refine GH.vis ?_ ?_ <;> first | assumption | ((try simp only [GH.pn, GH.sn]) <;> omega)))) only [go_sem, ↓reduceIte, Nat.reduceEqDiff, Nat.reduceAdd, Int.reduceToNat, Int.reduceAdd, Int.reduceNeg, Int.reduceSub, Int.reduceMul, Int.reduceLT, Int.reduceLE, Int.reduceEq, ↓GH.gp_eq, ↓GH.gp_ne, ↓GH.gs_eq, ↓GH.gs_ne, GH.push_next, GH.set_next]
  repeat ((first | refine Wk.once ?_ | refine Wk.more (Wk.once ?_) | refine Wk.leave ?_); simp +decide (disch := first | assumption | exact cellV_int _ _ | exact cellV_bool _ | omega | (simp only [GH.pn, GH.sn] <;> omega) | (with_reducible ((repeat (first | apply GH.ok_push | apply GH.ok_set)); assumption)) | ((try simp only [GH.push_hid, GH.set_hid]); first | assumption | (refine GH.vis ?_ ?_ <;> first | assumption | ((try simp only [GH.pn, GH.sn]) <;> omega)))) only [go_sem, ↓reduceIte, Nat.reduceEqDiff, Nat.reduceAdd, Int.reduceToNat, Int.reduceAdd, Int.reduceNeg, Int.reduceSub, Int.reduceMul, Int.reduceLT, Int.reduceLE, Int.reduceEq, ↓GH.gp_eq, ↓GH.gp_ne, ↓GH.gs_eq, ↓GH.gs_ne, GH.push_next, GH.set_next, hia, hib, hic, hid, hg, c1, c2, c3, c4])
  intro hx
  exact ⟨Nat.le_refl _, rfl⟩
theorem sgn_lt {p q u v : Int} (hp : 0 < p) (hq : 0 < q) (h : p * u = q * v) : 0 < u ↔ 0 < v := by
  constructor
  · intro hu
    have := Int.mul_pos hp hu
    rw [h] at this
    exact Int.pos_of_mul_pos_right this (by omega)
  · intro hv
    have := Int.mul_pos hq hv
    rw [← h] at this
    exact Int.pos_of_mul_pos_right this (by omega)
end Go.Proofs.YtngmaccaldhjcaaDoor
set_option maxRecDepth 100000
set_option maxHeartbeats 8000000
set_option linter.unusedSimpArgs false
set_option linter.unusedVariables false
namespace Go.Proofs.YtngmaccaldhjcaaDoor
open Go.Ds
def gU (T : List (List Int)) (P Q : List Int) : Int := gT T (ne P 0) (ne P 1) (ne P 2) (ne Q 0) (ne Q 1) (ne Q 2)
theorem sgS_eq (T : List (List Int)) (L : List Int) (d : Int) (M : List Int) (f : Int) : sgS T L d M f = f * (f * gU T L L - d * gU T M L) := by
  unfold sgS gU gT gainZ
  grind
theorem sgE_eq (T : List (List Int)) (L : List Int) (d : Int) (M : List Int) (f : Int) : sgE T L d M f = d * (f * gU T L M - d * gU T M M) := by
  unfold sgE gU gT gainZ
  grind
theorem gU_sm {T : List (List Int)} (hT : tabB T = true) {n : Nat} {P L : List Int} {f d : Int} (hP : mixB n P f = true) (hL : mixB n L d = true) : Sm 2000000000 (gU T P L) := by
  have := gT_bound hT hP hL
  obtain ⟨a1, a2, a3, a4, a5, a6, a7, a8⟩ := mix_facts hP
  obtain ⟨b1, b2, b3, b4, b5, b6, b7, b8⟩ := mix_facts hL
  have h : d * f ≤ 100000000 := Int.mul_le_mul b5 a5 (by omega) (by omega)
  refine Sm.up this ?_
  rw [Int.mul_assoc]; omega
theorem lim_cases {T : List (List Int)} (hT : tabB T = true) {L M : List Int} {d f : Int} (h1 : mixB T.length L d = true) (h2 : mixB T.length M f = true) :
    ((L = M ∧ d = f) ∧ limR T L d M f = .tuple #[raV 0 0, .int .i64 10]) ∨
    (¬ (L = M ∧ d = f) ∧ (sgS T L d M f < 0 ∨ (sgS T L d M f = 0 ∧ sgE T L d M f ≤ 0)) ∧ limR T L d M f = .tuple #[raV 0 0, .int .i64 9]) ∨
    (¬ (L = M ∧ d = f) ∧ ¬ (sgS T L d M f < 0 ∨ (sgS T L d M f = 0 ∧ sgE T L d M f ≤ 0)) ∧ ∃ a b : Int, limR T L d M f = .tuple #[raV a b, .int .i64 0] ∧ 1 ≤ a ∧ a ≤ b ∧ b ≤ 4611686018427387904 ∧ (a < b ↔ sgE T L d M f < 0)) := by
  have hE : err2 T L d M f = 0 := by unfold err2; rw [if_pos ⟨hT, h1, h2⟩]
  unfold limR
  rw [hE, if_neg (show ¬ (0 : Int) = 2 by decide)]
  by_cases c1 : L = M ∧ d = f
  · rw [if_pos c1]; exact .inl ⟨c1, rfl⟩
  rw [if_neg c1]
  by_cases c2 : sgS T L d M f < 0 ∨ (sgS T L d M f = 0 ∧ sgE T L d M f ≤ 0)
  · rw [if_pos c2]; exact .inr (.inl ⟨c1, c2, rfl⟩)
  rw [if_neg c2]
  refine .inr (.inr ⟨c1, c2, ?_⟩)
  obtain ⟨a1, a2, a3, a4, a5, a6, a7, a8⟩ := mix_facts h1
  obtain ⟨b1, b2, b3, b4, b5, b6, b7, b8⟩ := mix_facts h2
  have sd : Sm 10000 d := ⟨by omega, by omega⟩
  have sf : Sm 10000 f := ⟨by omega, by omega⟩
  have g1 := sf.mul (gU_sm hT h1 h1)
  have g2 := sd.mul (gU_sm hT h2 h1)
  have g3 := sf.mul (gU_sm hT h1 h2)
  have g4 := sd.mul (gU_sm hT h2 h2)
  have bS : Sm 400000000000000000 (sgS T L d M f) := by
    rw [sgS_eq]
    exact (sf.mul (show Sm 40000000000000 (f * gU T L L - d * gU T M L) by unfold Sm at *; omega)).up (by decide)
  have bE : Sm 400000000000000000 (sgE T L d M f) := by
    rw [sgE_eq]
    exact (sd.mul (show Sm 40000000000000 (f * gU T L M - d * gU T M M) by unfold Sm at *; omega)).up (by decide)
  obtain ⟨S, hS⟩ : ∃ S, sgS T L d M f = S := ⟨_, rfl⟩
  obtain ⟨E, hE⟩ : ∃ S, sgE T L d M f = S := ⟨_, rfl⟩
  rw [hS] at c2 bS ⊢
  rw [hE] at c2 bE ⊢
  by_cases c3 : 0 ≤ E
  · rw [if_pos c3]
    exact ⟨1, 1, rfl, by omega, by omega, by omega, by omega⟩
  · rw [if_neg c3]
    have hS0 : 0 < S := by omega
    obtain ⟨q, q0, e1, e2, e3, e4⟩ := low_facts S (show 0 < S - E by omega)
    unfold Sm at bS bE
    refine ⟨_, _, rfl, ?_, ?_, by omega, ?_⟩
    · apply Classical.byContradiction
      intro hn
      have := Int.mul_le_mul_of_nonneg_right (show lowN S (S - E) ≤ 0 by omega) (show 0 ≤ q by omega)
      omega
    · apply Classical.byContradiction
      intro hn
      have := Int.mul_le_mul_of_nonneg_right (show lowD S (S - E) ≤ lowN S (S - E) by omega) (show 0 ≤ q by omega)
      omega
    · refine ⟨fun _ => by omega, fun _ => ?_⟩
      apply Classical.byContradiction
      intro hn
      have := Int.mul_le_mul_of_nonneg_right (show lowD S (S - E) ≤ lowN S (S - E) by omega) (show 0 ≤ q by omega)
      omega
theorem cmp1 {d f x y S : Int} (hd : 0 < d) (hf : 0 < f) (h : S = f * (f * x - d * y)) : (x * (f * d) < y * (d * d)) ↔ S < 0 := by
  have := sgn_lt (u := y * (d * d) - x * (f * d)) (v := -S) hf hd (by rw [h]; grind)
  omega
theorem cmp2 {d f x y S : Int} (hd : 0 < d) (hf : 0 < f) (h : S = f * (f * x - d * y)) : (y * (d * d) < x * (f * d)) ↔ 0 < S := by
  have := sgn_lt (u := x * (f * d) - y * (d * d)) (v := S) hf hd (by rw [h]; grind)
  omega
theorem cmp3 {d f x y E : Int} (hd : 0 < d) (hf : 0 < f) (h : E = d * (f * x - d * y)) : (y * (d * f) < x * (f * f)) ↔ 0 < E := by
  have := sgn_lt (u := x * (f * f) - y * (d * f)) (v := E) hd hf (by rw [h]; grind)
  omega
theorem cmp4 {d f x y E : Int} (hd : 0 < d) (hf : 0 < f) (h : E = d * (f * x - d * y)) : (x * (f * f) < y * (d * f)) ↔ E < 0 := by
  have := sgn_lt (u := y * (d * f) - x * (f * f)) (v := -E) hd hf (by rw [h]; grind)
  omega
end Go.Proofs.YtngmaccaldhjcaaDoor
set_option maxRecDepth 100000
set_option maxHeartbeats 8000000
set_option linter.unusedSimpArgs false
set_option linter.unusedVariables false
namespace Go.Ds
section
variable {P : Program} {X : Caller} {Q : Out → Env → GH → Nat → Prop} {l : List PI} {k : Nat} {sp : List (Nat × (Nat × Nat))} {wr : List Nat} {ks : List Fr} {e : Env} {g : GH} {lo : Nat}
/-- Of the temporaries, no more than what is told. -/
theorem Wk.envS (F : Env → Prop) (h0 : F e) (h : ∀ e', F e' → Wk P X Q (.R l k sp wr ks e' g lo)) : Wk P X Q (.R l k sp wr ks e g lo) := h e h0
end
end Go.Ds
namespace Go.Proofs.YtngmaccaldhjcaaDoor
open Go.Ds
theorem bslP4 (a b c d e f p q : Value) (x0 x1 x2 x3 x4 x5 x6 x7 : Value) : bsl 2 #[a, b, c, d, e, f, p, q] [(0, .agg #[x0, x1]), (1, .agg #[x2, x3]), (2, .agg #[x4, x5]), (3, .agg #[x6, x7])] = some #[x0, x1, x2, x3, x4, x5, x6, x7] := rfl
attribute [go_sem] bslP4
theorem lim_inj {a b e a' b' e' : Int} (h : Value.tuple #[raV a b, .int .i64 e] = .tuple #[raV a' b', .int .i64 e']) : a = a' ∧ b = b' ∧ e = e' := by
  unfold raV at h
  simp at h
  exact ⟨h.1.1, h.1.2, h.2⟩
theorem othersLaw_rets {X : Caller} (hX : Xok X) (T : List (List Int)) (L : List Int) (d : Int) (M : List Int) (f : Int) (t s r : Value) (g : GH) (hT : HasTab g) (ht : Sl2 g t T) (hs : SlR g s (ints L)) (hr : SlR g r (ints M)) :
    Rets Tryd.prog X 11 [t, paV s d, paV r f] g (fun v g' lo => g.next ≤ lo ∧ v = .bool true) := by
  have e0 : ∀ a b : Value, extF (.tuple #[a, b]) 0 = some a := fun _ _ => rfl
  have e1 : ∀ a b : Value, extF (.tuple #[a, b]) 1 = some b := fun _ _ => rfl
  have hq : ∀ p : Bool, eqBF true (.bool p) (.bool p) = some (.bool false) := fun p => by cases p <;> rfl
  have hc := hs.cell
  have hcr := hr.cell
  have hl := ht.len
  unfold paV
  refine Rets.run hX.pres p11 (hX.free 11 (by decide) _ _) rfl fun ho => ?_
  obtain ⟨H, hH⟩ : ∃ H, ((g.push (cellsOb [s, .int .i64 d] 25)).push (cellsOb [r, .int .i64 f] 25)) = H := ⟨_, rfl⟩
  have hnH : H.next = g.next + 1 + 1 := by rw [← hH]; rfl
  have hokH : H.ok := by rw [← hH]; exact GH.ok_push (GH.ok_push ho)
  have hkH : Kept g H := by rw [← hH]; exact (by (repeat' first | exact Kept.refl _ | assumption | refine Kept.push ?_ ?_ _ | refine Kept.setV ?_ ?_ ?_ _) <;> (first | assumption | exact cellV_int _ _ | exact cellV_bool _ | omega | (simp only [GH.pn, GH.sn] <;> omega) | (with_reducible ((repeat (first | apply GH.ok_push | apply GH.ok_set)); assumption)) | ((try simp only [GH.push_hid, GH.set_hid]); first | assumption | (refine GH.vis ?_ ?_ <;> first | assumption | ((try simp only [GH.pn, GH.sn]) <;> omega)))))
  have hA : H.get g.next = cellsOb [s, .int .i64 d] 25 := by rw [← hH]; exact (by simp (disch := first | assumption | exact cellV_int _ _ | exact cellV_bool _ | omega | (simp only [GH.pn, GH.sn] <;> omega) | (with_reducible ((repeat (first | apply GH.ok_push | apply GH.ok_set)); assumption)) | ((try simp only [GH.push_hid, GH.set_hid]); first | assumption | (refine GH.vis ?_ ?_ <;> first | assumption | ((try simp only [GH.pn, GH.sn]) <;> omega)))) only [↓GH.gp_eq, ↓GH.gp_ne, ↓GH.gs_eq, ↓GH.gs_ne, GH.push_next, GH.set_next]; first | done | exact rfl)
  have hB : H.get (g.next + 1) = cellsOb [r, .int .i64 f] 25 := by rw [← hH]; exact (by simp (disch := first | assumption | exact cellV_int _ _ | exact cellV_bool _ | omega | (simp only [GH.pn, GH.sn] <;> omega) | (with_reducible ((repeat (first | apply GH.ok_push | apply GH.ok_set)); assumption)) | ((try simp only [GH.push_hid, GH.set_hid]); first | assumption | (refine GH.vis ?_ ?_ <;> first | assumption | ((try simp only [GH.pn, GH.sn]) <;> omega)))) only [↓GH.gp_eq, ↓GH.gp_ne, ↓GH.gs_eq, ↓GH.gs_ne, GH.push_next, GH.set_next]; first | done | exact rfl)
  simp +decide (disch := first | assumption | exact cellV_int _ _ | exact cellV_bool _ | omega | (simp only [GH.pn, GH.sn] <;> omega) | (with_reducible ((repeat (first | apply GH.ok_push | apply GH.ok_set)); assumption)) | ((try simp only [GH.push_hid, GH.set_hid]); first | assumption | (refine GH.vis ?_ ?_ <;> first | assumption | ((try simp only [GH.pn, GH.sn]) <;> omega)))) only [go_sem, ↓reduceIte, Nat.reduceEqDiff, Nat.reduceAdd, Int.reduceToNat, Int.reduceAdd, Int.reduceNeg, Int.reduceSub, Int.reduceMul, Int.reduceLT, Int.reduceLE, Int.reduceEq, ↓GH.gp_eq, ↓GH.gp_ne, ↓GH.gs_eq, ↓GH.gs_ne, GH.push_next, GH.set_next, hc, hcr]
  refine CallD.name fun G0 hG0 => ?_
  have hk0 : Kept H G0 := by rw [hG0, ← hH]; exact (by (repeat' first | exact Kept.refl _ | assumption | refine Kept.push ?_ ?_ _ | refine Kept.setV ?_ ?_ ?_ _) <;> (first | assumption | exact cellV_int _ _ | exact cellV_bool _ | omega | (simp only [GH.pn, GH.sn] <;> omega) | (with_reducible ((repeat (first | apply GH.ok_push | apply GH.ok_set)); assumption)) | ((try simp only [GH.push_hid, GH.set_hid]); first | assumption | (refine GH.vis ?_ ?_ <;> first | assumption | ((try simp only [GH.pn, GH.sn]) <;> omega)))))
  have hok0 : G0.ok := by rw [hG0]; exact GH.ok_push (GH.ok_push (GH.ok_push ho))
  have hn0 : G0.next = g.next + 1 + 1 + 1 := by rw [hG0]; rfl
  have hg0 : G0.get (g.next + 1 + 1) = cellsOb [s, .int .i64 d, r, .int .i64 f] 25 := by rw [hG0]; exact (by simp (disch := first | assumption | exact cellV_int _ _ | exact cellV_bool _ | omega | (simp only [GH.pn, GH.sn] <;> omega) | (with_reducible ((repeat (first | apply GH.ok_push | apply GH.ok_set)); assumption)) | ((try simp only [GH.push_hid, GH.set_hid]); first | assumption | (refine GH.vis ?_ ?_ <;> first | assumption | ((try simp only [GH.pn, GH.sn]) <;> omega)))) only [↓GH.gp_eq, ↓GH.gp_ne, ↓GH.gs_eq, ↓GH.gs_ne, GH.push_next, GH.set_next]; first | done | exact rfl)
  have kk := hkH.trans hk0
  refine CallD.calm (few2_rets hX T L s d M r f t G0 (ht.kept kk) (hs.kept kk) (hr.kept kk) (g.next + 1 + 1) 25 (by omega) hg0) ?_
  rintro v g1 hx1 rfl
  have hn1 := hx1.next
  have hok1 := hx1.ok hok0
  have hk1 := hk0.ext hx1
  have hA1 := (hk1.gets g.next (by omega)).trans hA
  cases hf : (fewT T && decide (L.length ≤ 20) && decide (M.length ≤ 20)) with
  | false =>
    simp +decide (disch := first | assumption | exact cellV_int _ _ | exact cellV_bool _ | omega | (simp only [GH.pn, GH.sn] <;> omega) | (with_reducible ((repeat (first | apply GH.ok_push | apply GH.ok_set)); assumption)) | ((try simp only [GH.push_hid, GH.set_hid]); first | assumption | (refine GH.vis ?_ ?_ <;> first | assumption | ((try simp only [GH.pn, GH.sn]) <;> omega)))) only [go_sem, ↓reduceIte, Nat.reduceEqDiff, Nat.reduceAdd, Int.reduceToNat, Int.reduceAdd, Int.reduceNeg, Int.reduceSub, Int.reduceMul, Int.reduceLT, Int.reduceLE, Int.reduceEq, ↓GH.gp_eq, ↓GH.gp_ne, ↓GH.gs_eq, ↓GH.gs_ne, GH.push_next, GH.set_next]
    refine CallD.calm (hX.alive _ (hT.kept (hkH.trans hk1))) ?_
    rintro v gz hxz rfl
    have hnz := hxz.next
    simp +decide (disch := first | assumption | exact cellV_int _ _ | exact cellV_bool _ | omega | (simp only [GH.pn, GH.sn] <;> omega) | (with_reducible ((repeat (first | apply GH.ok_push | apply GH.ok_set)); assumption)) | ((try simp only [GH.push_hid, GH.set_hid]); first | assumption | (refine GH.vis ?_ ?_ <;> first | assumption | ((try simp only [GH.pn, GH.sn]) <;> omega)))) only [go_sem, ↓reduceIte, Nat.reduceEqDiff, Nat.reduceAdd, Int.reduceToNat, Int.reduceAdd, Int.reduceNeg, Int.reduceSub, Int.reduceMul, Int.reduceLT, Int.reduceLE, Int.reduceEq, ↓GH.gp_eq, ↓GH.gp_ne, ↓GH.gs_eq, ↓GH.gs_ne, GH.push_next, GH.set_next]
    intro hx0
    exact ⟨by omega, rfl⟩
  | true =>
    simp only [Bool.and_eq_true] at hf
    have hF := fewT_Few hf.1.1
    simp +decide (disch := first | assumption | exact cellV_int _ _ | exact cellV_bool _ | omega | (simp only [GH.pn, GH.sn] <;> omega) | (with_reducible ((repeat (first | apply GH.ok_push | apply GH.ok_set)); assumption)) | ((try simp only [GH.push_hid, GH.set_hid]); first | assumption | (refine GH.vis ?_ ?_ <;> first | assumption | ((try simp only [GH.pn, GH.sn]) <;> omega)))) only [go_sem, ↓reduceIte, Nat.reduceEqDiff, Nat.reduceAdd, Int.reduceToNat, Int.reduceAdd, Int.reduceNeg, Int.reduceSub, Int.reduceMul, Int.reduceLT, Int.reduceLE, Int.reduceEq, ↓GH.gp_eq, ↓GH.gp_ne, ↓GH.gs_eq, ↓GH.gs_ne, GH.push_next, GH.set_next]
    refine CallD.calm (refIsTable_rets hX T hF.2 t g1 (ht.kept (hkH.trans hk1)) hF.1) ?_
    rintro v g2 hx2 rfl
    have hn2 := hx2.next
    have hok2 := hx2.ok hok1
    have hk2 := hk1.ext hx2
    have hA2 := (hk2.gets g.next (by omega)).trans hA
    cases hTb : tabB T with
    | false =>
      simp +decide (disch := first | assumption | exact cellV_int _ _ | exact cellV_bool _ | omega | (simp only [GH.pn, GH.sn] <;> omega) | (with_reducible ((repeat (first | apply GH.ok_push | apply GH.ok_set)); assumption)) | ((try simp only [GH.push_hid, GH.set_hid]); first | assumption | (refine GH.vis ?_ ?_ <;> first | assumption | ((try simp only [GH.pn, GH.sn]) <;> omega)))) only [go_sem, ↓reduceIte, Nat.reduceEqDiff, Nat.reduceAdd, Int.reduceToNat, Int.reduceAdd, Int.reduceNeg, Int.reduceSub, Int.reduceMul, Int.reduceLT, Int.reduceLE, Int.reduceEq, ↓GH.gp_eq, ↓GH.gp_ne, ↓GH.gs_eq, ↓GH.gs_ne, GH.push_next, GH.set_next]
      refine CallD.calm (hX.alive _ (hT.kept (hkH.trans hk2))) ?_
      rintro v gz hxz rfl
      have hnz := hxz.next
      simp +decide (disch := first | assumption | exact cellV_int _ _ | exact cellV_bool _ | omega | (simp only [GH.pn, GH.sn] <;> omega) | (with_reducible ((repeat (first | apply GH.ok_push | apply GH.ok_set)); assumption)) | ((try simp only [GH.push_hid, GH.set_hid]); first | assumption | (refine GH.vis ?_ ?_ <;> first | assumption | ((try simp only [GH.pn, GH.sn]) <;> omega)))) only [go_sem, ↓reduceIte, Nat.reduceEqDiff, Nat.reduceAdd, Int.reduceToNat, Int.reduceAdd, Int.reduceNeg, Int.reduceSub, Int.reduceMul, Int.reduceLT, Int.reduceLE, Int.reduceEq, ↓GH.gp_eq, ↓GH.gp_ne, ↓GH.gs_eq, ↓GH.gs_ne, GH.push_next, GH.set_next]
      intro hx0
      exact ⟨by omega, rfl⟩
    | true =>
    simp +decide (disch := first | assumption | exact cellV_int _ _ | exact cellV_bool _ | omega | (simp only [GH.pn, GH.sn] <;> omega) | (with_reducible ((repeat (first | apply GH.ok_push | apply GH.ok_set)); assumption)) | ((try simp only [GH.push_hid, GH.set_hid]); first | assumption | (refine GH.vis ?_ ?_ <;> first | assumption | ((try simp only [GH.pn, GH.sn]) <;> omega)))) only [go_sem, ↓reduceIte, Nat.reduceEqDiff, Nat.reduceAdd, Int.reduceToNat, Int.reduceAdd, Int.reduceNeg, Int.reduceSub, Int.reduceMul, Int.reduceLT, Int.reduceLE, Int.reduceEq, ↓GH.gp_eq, ↓GH.gp_ne, ↓GH.gs_eq, ↓GH.gs_ne, GH.push_next, GH.set_next, hl, hA2]
    have m1 := refIsMix_rets hX T.length L d s
    have m2 := refIsMix_rets hX T.length M f r
    unfold paV at m1 m2
    refine CallD.calm (m1 g2 (hs.kept (hkH.trans hk2))) ?_
    rintro v g3 hx3 rfl
    have hn3 := hx3.next
    have hok3 := hx3.ok hok2
    have hk3 := hk2.ext hx3
    have hB3 := (hk3.gets (g.next + 1) (by omega)).trans hB
    cases hm1 : mixB T.length L d with
    | false =>
      simp +decide (disch := first | assumption | exact cellV_int _ _ | exact cellV_bool _ | omega | (simp only [GH.pn, GH.sn] <;> omega) | (with_reducible ((repeat (first | apply GH.ok_push | apply GH.ok_set)); assumption)) | ((try simp only [GH.push_hid, GH.set_hid]); first | assumption | (refine GH.vis ?_ ?_ <;> first | assumption | ((try simp only [GH.pn, GH.sn]) <;> omega)))) only [go_sem, ↓reduceIte, Nat.reduceEqDiff, Nat.reduceAdd, Int.reduceToNat, Int.reduceAdd, Int.reduceNeg, Int.reduceSub, Int.reduceMul, Int.reduceLT, Int.reduceLE, Int.reduceEq, ↓GH.gp_eq, ↓GH.gp_ne, ↓GH.gs_eq, ↓GH.gs_ne, GH.push_next, GH.set_next]
      refine CallD.calm (hX.alive _ (hT.kept (hkH.trans hk3))) ?_
      rintro v gz hxz rfl
      have hnz := hxz.next
      simp +decide (disch := first | assumption | exact cellV_int _ _ | exact cellV_bool _ | omega | (simp only [GH.pn, GH.sn] <;> omega) | (with_reducible ((repeat (first | apply GH.ok_push | apply GH.ok_set)); assumption)) | ((try simp only [GH.push_hid, GH.set_hid]); first | assumption | (refine GH.vis ?_ ?_ <;> first | assumption | ((try simp only [GH.pn, GH.sn]) <;> omega)))) only [go_sem, ↓reduceIte, Nat.reduceEqDiff, Nat.reduceAdd, Int.reduceToNat, Int.reduceAdd, Int.reduceNeg, Int.reduceSub, Int.reduceMul, Int.reduceLT, Int.reduceLE, Int.reduceEq, ↓GH.gp_eq, ↓GH.gp_ne, ↓GH.gs_eq, ↓GH.gs_ne, GH.push_next, GH.set_next]
      intro hx0
      exact ⟨by omega, rfl⟩
    | true =>
    simp +decide (disch := first | assumption | exact cellV_int _ _ | exact cellV_bool _ | omega | (simp only [GH.pn, GH.sn] <;> omega) | (with_reducible ((repeat (first | apply GH.ok_push | apply GH.ok_set)); assumption)) | ((try simp only [GH.push_hid, GH.set_hid]); first | assumption | (refine GH.vis ?_ ?_ <;> first | assumption | ((try simp only [GH.pn, GH.sn]) <;> omega)))) only [go_sem, ↓reduceIte, Nat.reduceEqDiff, Nat.reduceAdd, Int.reduceToNat, Int.reduceAdd, Int.reduceNeg, Int.reduceSub, Int.reduceMul, Int.reduceLT, Int.reduceLE, Int.reduceEq, ↓GH.gp_eq, ↓GH.gp_ne, ↓GH.gs_eq, ↓GH.gs_ne, GH.push_next, GH.set_next, hl, hB3]
    refine CallD.calm (m2 g3 (hr.kept (hkH.trans hk3))) ?_
    rintro v g4 hx4 rfl
    have hn4 := hx4.next
    have hok4 := hx4.ok hok3
    have hk4 := hk3.ext hx4
    have hA4 := (hk4.gets g.next (by omega)).trans hA
    cases hm2 : mixB T.length M f with
    | false =>
      simp +decide (disch := first | assumption | exact cellV_int _ _ | exact cellV_bool _ | omega | (simp only [GH.pn, GH.sn] <;> omega) | (with_reducible ((repeat (first | apply GH.ok_push | apply GH.ok_set)); assumption)) | ((try simp only [GH.push_hid, GH.set_hid]); first | assumption | (refine GH.vis ?_ ?_ <;> first | assumption | ((try simp only [GH.pn, GH.sn]) <;> omega)))) only [go_sem, ↓reduceIte, Nat.reduceEqDiff, Nat.reduceAdd, Int.reduceToNat, Int.reduceAdd, Int.reduceNeg, Int.reduceSub, Int.reduceMul, Int.reduceLT, Int.reduceLE, Int.reduceEq, ↓GH.gp_eq, ↓GH.gp_ne, ↓GH.gs_eq, ↓GH.gs_ne, GH.push_next, GH.set_next]
      refine CallD.calm (hX.alive _ (hT.kept (hkH.trans hk4))) ?_
      rintro v gz hxz rfl
      have hnz := hxz.next
      simp +decide (disch := first | assumption | exact cellV_int _ _ | exact cellV_bool _ | omega | (simp only [GH.pn, GH.sn] <;> omega) | (with_reducible ((repeat (first | apply GH.ok_push | apply GH.ok_set)); assumption)) | ((try simp only [GH.push_hid, GH.set_hid]); first | assumption | (refine GH.vis ?_ ?_ <;> first | assumption | ((try simp only [GH.pn, GH.sn]) <;> omega)))) only [go_sem, ↓reduceIte, Nat.reduceEqDiff, Nat.reduceAdd, Int.reduceToNat, Int.reduceAdd, Int.reduceNeg, Int.reduceSub, Int.reduceMul, Int.reduceLT, Int.reduceLE, Int.reduceEq, ↓GH.gp_eq, ↓GH.gp_ne, ↓GH.gs_eq, ↓GH.gs_ne, GH.push_next, GH.set_next]
      intro hx0
      exact ⟨by omega, rfl⟩
    | true =>
    obtain ⟨t1, t2, t3⟩ := tab_len hTb
    obtain ⟨a1, a2, a3, a4, a5, a6, a7, a8⟩ := mix_facts hm1
    obtain ⟨b1, b2, b3, b4, b5, b6, b7, b8⟩ := mix_facts hm2
    have hE1 : err1 T L d = 0 := by unfold err1; rw [if_pos ⟨hTb, hm1⟩]
    have hExx : err2 T L d L d = 0 := by unfold err2; rw [if_pos ⟨hTb, hm1, hm1⟩]
    have hEyx : err2 T M f L d = 0 := by unfold err2; rw [if_pos ⟨hTb, hm2, hm1⟩]
    have hExy : err2 T L d M f = 0 := by unfold err2; rw [if_pos ⟨hTb, hm1, hm2⟩]
    have hEyy : err2 T M f M f = 0 := by unfold err2; rw [if_pos ⟨hTb, hm2, hm2⟩]
    have w0 := Lasts_rets hX T hF L d t s
    have w1 := AtRest_rets hX T hF L d t s
    have wl := Limit_rets hX T hF L d M f t s r
    unfold lastsR at w0
    unfold atRestR at w1
    rw [if_pos hE1] at w0 w1
    obtain ⟨lv, hlv⟩ : ∃ b, lastT T L d = b := ⟨_, rfl⟩
    have hlr : lv = true → restB T L = true := fun h => by
      rw [h] at hlv
      unfold lastT at hlv
      rw [Bool.and_eq_true] at hlv
      exact hlv.1
    have hll : lv = true → ¬ (L = M ∧ d = f) → ¬ (sgS T L d M f < 0 ∨ (sgS T L d M f = 0 ∧ sgE T L d M f ≤ 0)) := fun h => by
      rw [h] at hlv
      exact last_lim hTb hm1 hm2 hlv
    rw [hlv] at w0
    have hlc := lim_cases hTb hm1 hm2
    have hlf : ∃ la lb le : Int, limR T L d M f = .tuple #[raV la lb, .int .i64 le] := by
      rcases hlc with ⟨_, h⟩ | ⟨_, _, h⟩ | ⟨_, _, x, y, h, _⟩
      · exact ⟨_, _, _, h⟩
      · exact ⟨_, _, _, h⟩
      · exact ⟨_, _, _, h⟩
    obtain ⟨la, lb, le, hlf⟩ := hlf
    rw [hlf] at wl hlc
    have wp := fun h => pressed_rets hX T hF hTb L d hm1 h t s
    have wsame := Same_rets hX L d M f (by omega) s r

    have gxx := gU_sm hTb hm1 hm1
    have gyx := gU_sm hTb hm2 hm1
    have gxy := gU_sm hTb hm1 hm2
    have gyy := gU_sm hTb hm2 hm2
    have hdd : 0 < d * d ∧ d * d ≤ 100000000 := ⟨Int.mul_pos (by omega) (by omega), Int.mul_le_mul a5 a5 (by omega) (by omega)⟩
    have hfd : 0 < f * d ∧ f * d ≤ 100000000 := ⟨Int.mul_pos (by omega) (by omega), Int.mul_le_mul b5 a5 (by omega) (by omega)⟩
    have hdf : 0 < d * f ∧ d * f ≤ 100000000 := ⟨Int.mul_pos (by omega) (by omega), Int.mul_le_mul a5 b5 (by omega) (by omega)⟩
    have hff : 0 < f * f ∧ f * f ≤ 100000000 := ⟨Int.mul_pos (by omega) (by omega), Int.mul_le_mul b5 b5 (by omega) (by omega)⟩
    have vxx := Gain_rets hX T hF L d L d t s s
    have vyx := Gain_rets hX T hF M f L d t r s
    have vxy := Gain_rets hX T hF L d M f t s r
    have vyy := Gain_rets hX T hF M f M f t r r
    unfold gainR at vxx vyx vxy vyy
    rw [if_pos hExx] at vxx
    rw [if_pos hEyx] at vyx
    rw [if_pos hExy] at vxy
    rw [if_pos hEyy] at vyy
    change ∀ g, _ → _ → _ → Rets _ _ _ _ g (fun v g' lo => g.next ≤ lo ∧ v = .tuple #[raV (lowN (gU T L L) (d * d)) (lowD (gU T L L) (d * d)), .int .i64 0]) at vxx
    change ∀ g, _ → _ → _ → Rets _ _ _ _ g (fun v g' lo => g.next ≤ lo ∧ v = .tuple #[raV (lowN (gU T M L) (f * d)) (lowD (gU T M L) (f * d)), .int .i64 0]) at vyx
    change ∀ g, _ → _ → _ → Rets _ _ _ _ g (fun v g' lo => g.next ≤ lo ∧ v = .tuple #[raV (lowN (gU T L M) (d * f)) (lowD (gU T L M) (d * f)), .int .i64 0]) at vxy
    change ∀ g, _ → _ → _ → Rets _ _ _ _ g (fun v g' lo => g.next ≤ lo ∧ v = .tuple #[raV (lowN (gU T M M) (f * f)) (lowD (gU T M M) (f * f)), .int .i64 0]) at vyy
    have eS := sgS_eq T L d M f
    have eE := sgE_eq T L d M f
    have k1 := cmp1 (show 0 < d by omega) (show 0 < f by omega) eS
    have k2 := cmp2 (show 0 < d by omega) (show 0 < f by omega) eS
    have k3 := cmp3 (show 0 < d by omega) (show 0 < f by omega) eE
    have k4 := cmp4 (show 0 < d by omega) (show 0 < f by omega) eE
    clear eS eE
    obtain ⟨S, hS⟩ : ∃ S, sgS T L d M f = S := ⟨_, rfl⟩
    obtain ⟨E, hE⟩ : ∃ S, sgE T L d M f = S := ⟨_, rfl⟩
    rw [hS] at hll hlc k1 k2
    rw [hE] at hll hlc k3 k4
    obtain ⟨zxx, hzxx⟩ : ∃ Z, gU T L L = Z := ⟨_, rfl⟩
    obtain ⟨zyx, hzyx⟩ : ∃ Z, gU T M L = Z := ⟨_, rfl⟩
    obtain ⟨zxy, hzxy⟩ : ∃ Z, gU T L M = Z := ⟨_, rfl⟩
    obtain ⟨zyy, hzyy⟩ : ∃ Z, gU T M M = Z := ⟨_, rfl⟩
    rw [hzxx] at vxx gxx k1 k2
    rw [hzyx] at vyx gyx k1 k2
    rw [hzxy] at vxy gxy k3 k4
    rw [hzyy] at vyy gyy k3 k4
    rw [← low_lt hfd.1 hdd.1] at k1
    rw [← low_lt hdd.1 hfd.1] at k2
    rw [← low_lt hdf.1 hff.1] at k3
    rw [← low_lt hff.1 hdf.1] at k4
    have mk : ∀ {z q : Int}, Sm 2000000000 z → 0 < q ∧ q ≤ 100000000 → SoundR (lowN z q) (lowD z q) := fun {z q} h k => by
      obtain ⟨_, _, _, _, l1, l2⟩ := low_facts z k.1
      have := low_sm k.1 h
      unfold SoundR; unfold Sm at this; omega
    have sxx := mk gxx hdd
    have syx := mk gyx hfd
    have sxy := mk gxy hdf
    have syy := mk gyy hff
    obtain ⟨aN, haN⟩ : ∃ Z, lowN zxx (d * d) = Z := ⟨_, rfl⟩
    obtain ⟨aD, haD⟩ : ∃ Z, lowD zxx (d * d) = Z := ⟨_, rfl⟩
    obtain ⟨bN, hbN⟩ : ∃ Z, lowN zyx (f * d) = Z := ⟨_, rfl⟩
    obtain ⟨bD, hbD⟩ : ∃ Z, lowD zyx (f * d) = Z := ⟨_, rfl⟩
    obtain ⟨cN, hcN⟩ : ∃ Z, lowN zxy (d * f) = Z := ⟨_, rfl⟩
    obtain ⟨cD, hcD⟩ : ∃ Z, lowD zxy (d * f) = Z := ⟨_, rfl⟩
    obtain ⟨dN, hdN⟩ : ∃ Z, lowN zyy (f * f) = Z := ⟨_, rfl⟩
    obtain ⟨dD, hdD⟩ : ∃ Z, lowD zyy (f * f) = Z := ⟨_, rfl⟩
    rw [haN, haD] at vxx sxx k1 k2
    rw [hbN, hbD] at vyx syx k1 k2
    rw [hcN, hcD] at vxy sxy k3 k4
    rw [hdN, hdD] at vyy syy k3 k4
    clear hlv hS hE haN haD hbN hbD hcN hcD hdN hdD hzxx hzyx hzxy hzyy gxx gyx gxy gyy
    unfold paV raV at vxx vyx vxy vyy
    unfold paV raV at wl
    unfold paV at w0 w1 wp wsame
    simp +decide (disch := first | assumption | exact cellV_int _ _ | exact cellV_bool _ | omega | (simp only [GH.pn, GH.sn] <;> omega) | (with_reducible ((repeat (first | apply GH.ok_push | apply GH.ok_set)); assumption)) | ((try simp only [GH.push_hid, GH.set_hid]); first | assumption | (refine GH.vis ?_ ?_ <;> first | assumption | ((try simp only [GH.pn, GH.sn]) <;> omega)))) only [go_sem, ↓reduceIte, Nat.reduceEqDiff, Nat.reduceAdd, Int.reduceToNat, Int.reduceAdd, Int.reduceNeg, Int.reduceSub, Int.reduceMul, Int.reduceLT, Int.reduceLE, Int.reduceEq, ↓GH.gp_eq, ↓GH.gp_ne, ↓GH.gs_eq, ↓GH.gs_ne, GH.push_next, GH.set_next, hA4]
    refine CallD.calm (w0 g4 (hT.kept (hkH.trans hk4)) (ht.kept (hkH.trans hk4)) (hs.kept (hkH.trans hk4))) ?_
    rintro v g5 hx5 rfl
    have hn5 := hx5.next
    have hok5 := hx5.ok hok4
    have hk5 := hk4.ext hx5
    have hA5 := (hk5.gets g.next (by omega)).trans hA
    have hB5 := (hk5.gets (g.next + 1) (by omega)).trans hB
    simp +decide (disch := first | assumption | exact cellV_int _ _ | exact cellV_bool _ | omega | (simp only [GH.pn, GH.sn] <;> omega) | (with_reducible ((repeat (first | apply GH.ok_push | apply GH.ok_set)); assumption)) | ((try simp only [GH.push_hid, GH.set_hid]); first | assumption | (refine GH.vis ?_ ?_ <;> first | assumption | ((try simp only [GH.pn, GH.sn]) <;> omega)))) only [go_sem, ↓reduceIte, Nat.reduceEqDiff, Nat.reduceAdd, Int.reduceToNat, Int.reduceAdd, Int.reduceNeg, Int.reduceSub, Int.reduceMul, Int.reduceLT, Int.reduceLE, Int.reduceEq, ↓GH.gp_eq, ↓GH.gp_ne, ↓GH.gs_eq, ↓GH.gs_ne, GH.push_next, GH.set_next, e0, e1, hA5, hB5]
    refine CallD.calm (wl g5 (ht.kept (hkH.trans hk5)) (hs.kept (hkH.trans hk5)) (hr.kept (hkH.trans hk5))) ?_
    rintro v g6 hx6 rfl
    have hn6 := hx6.next
    have hok6 := hx6.ok hok5
    have hk6 := hk5.ext hx6
    have hA6 := (hk6.gets g.next (by omega)).trans hA
    have hB6 := (hk6.gets (g.next + 1) (by omega)).trans hB
    simp +decide (disch := first | assumption | exact cellV_int _ _ | exact cellV_bool _ | omega | (simp only [GH.pn, GH.sn] <;> omega) | (with_reducible ((repeat (first | apply GH.ok_push | apply GH.ok_set)); assumption)) | ((try simp only [GH.push_hid, GH.set_hid]); first | assumption | (refine GH.vis ?_ ?_ <;> first | assumption | ((try simp only [GH.pn, GH.sn]) <;> omega)))) only [go_sem, ↓reduceIte, Nat.reduceEqDiff, Nat.reduceAdd, Int.reduceToNat, Int.reduceAdd, Int.reduceNeg, Int.reduceSub, Int.reduceMul, Int.reduceLT, Int.reduceLE, Int.reduceEq, ↓GH.gp_eq, ↓GH.gp_ne, ↓GH.gs_eq, ↓GH.gs_ne, GH.push_next, GH.set_next, e0, e1, hA6, hB6]
    refine CallD.name fun G7 hG7 => ?_
    have hk67 : Kept g6 G7 := by rw [hG7]; exact (by (repeat' first | exact Kept.refl _ | assumption | refine Kept.push ?_ ?_ _ | refine Kept.setV ?_ ?_ ?_ _) <;> (first | assumption | exact cellV_int _ _ | exact cellV_bool _ | omega | (simp only [GH.pn, GH.sn] <;> omega) | (with_reducible ((repeat (first | apply GH.ok_push | apply GH.ok_set)); assumption)) | ((try simp only [GH.push_hid, GH.set_hid]); first | assumption | (refine GH.vis ?_ ?_ <;> first | assumption | ((try simp only [GH.pn, GH.sn]) <;> omega)))))
    have hok7 : G7.ok := by rw [hG7]; exact GH.ok_set (GH.ok_push hok6)
    have hn7 : G7.next = g6.next + 1 := by rw [hG7]; rfl
    have hR7 : G7.get g6.next = cellsOb [.int .i64 la, .int .i64 lb] 32 := by rw [hG7]; exact (by simp (disch := first | assumption | exact cellV_int _ _ | exact cellV_bool _ | omega | (simp only [GH.pn, GH.sn] <;> omega) | (with_reducible ((repeat (first | apply GH.ok_push | apply GH.ok_set)); assumption)) | ((try simp only [GH.push_hid, GH.set_hid]); first | assumption | (refine GH.vis ?_ ?_ <;> first | assumption | ((try simp only [GH.pn, GH.sn]) <;> omega)))) only [↓GH.gp_eq, ↓GH.gp_ne, ↓GH.gs_eq, ↓GH.gs_ne, GH.push_next, GH.set_next]; first | done | exact rfl)
    have hk7 := hk6.trans hk67
    refine CallD.calm (w1 G7 (ht.kept (hkH.trans hk7)) (hs.kept (hkH.trans hk7))) ?_
    rintro v g8 hx8 rfl
    have hn8 := hx8.next
    have hok8 := hx8.ok hok7
    have hk8 := hk7.ext hx8
    have hA8 := (hk8.gets g.next (by omega)).trans hA
    have hB8 := (hk8.gets (g.next + 1) (by omega)).trans hB
    have hR8 := (hx8.gets g6.next (by omega)).trans hR7
    clear hG7 hG0
    cases hrb : restB T L with
    | true =>
      rw [hrb] at hlr
      cases lv with
      | true =>
        simp +decide (disch := first | assumption | exact cellV_int _ _ | exact cellV_bool _ | omega | (simp only [GH.pn, GH.sn] <;> omega) | (with_reducible ((repeat (first | apply GH.ok_push | apply GH.ok_set)); assumption)) | ((try simp only [GH.push_hid, GH.set_hid]); first | assumption | (refine GH.vis ?_ ?_ <;> first | assumption | ((try simp only [GH.pn, GH.sn]) <;> omega)))) only [go_sem, ↓reduceIte, Nat.reduceEqDiff, Nat.reduceAdd, Int.reduceToNat, Int.reduceAdd, Int.reduceNeg, Int.reduceSub, Int.reduceMul, Int.reduceLT, Int.reduceLE, Int.reduceEq, ↓GH.gp_eq, ↓GH.gp_ne, ↓GH.gs_eq, ↓GH.gs_ne, GH.push_next, GH.set_next, e0, e1, hA8, hB8]
        refine CallD.calm (wsame g8 (hs.kept (hkH.trans hk8)) (hr.kept (hkH.trans hk8))) ?_
        rintro v gS hxS rfl
        have hnS := hxS.next
        have hokS := hxS.ok hok8
        have hkS := hk8.ext hxS
        have hRS := (hxS.gets g6.next (by omega)).trans hR8
        have q0 : eqAF false 2 (.agg #[.int .i64 0, .int .i64 0]) (.agg #[.int .i64 0, .int .i64 0]) = some (.bool true) := rfl
        have qb : buildF [(0, 1), (1, 1)] none #[.int .i64 0, .int .i64 0] [] = some (.agg #[.int .i64 0, .int .i64 0]) := rfl
        rcases hlc with ⟨hsm, hv⟩ | ⟨hsm, hno, hv⟩ | ⟨hsm, hno, x, y, hv, h1a, h1b, h1c, h1d⟩
        · obtain ⟨rfl, rfl, rfl⟩ := lim_inj hv
          rw [decide_eq_true hsm]
          simp +decide (disch := first | assumption | exact cellV_int _ _ | exact cellV_bool _ | omega | (simp only [GH.pn, GH.sn] <;> omega) | (with_reducible ((repeat (first | apply GH.ok_push | apply GH.ok_set)); assumption)) | ((try simp only [GH.push_hid, GH.set_hid]); first | assumption | (refine GH.vis ?_ ?_ <;> first | assumption | ((try simp only [GH.pn, GH.sn]) <;> omega)))) only [go_sem, ↓reduceIte, Nat.reduceEqDiff, Nat.reduceAdd, Int.reduceToNat, Int.reduceAdd, Int.reduceNeg, Int.reduceSub, Int.reduceMul, Int.reduceLT, Int.reduceLE, Int.reduceEq, ↓GH.gp_eq, ↓GH.gp_ne, ↓GH.gs_eq, ↓GH.gs_ne, GH.push_next, GH.set_next, hRS, q0, qb]
          refine CallD.calm (hX.alive _ (hT.kept (hkH.trans hkS))) ?_
          rintro v gz hxz rfl
          have hnz := hxz.next
          simp +decide (disch := first | assumption | exact cellV_int _ _ | exact cellV_bool _ | omega | (simp only [GH.pn, GH.sn] <;> omega) | (with_reducible ((repeat (first | apply GH.ok_push | apply GH.ok_set)); assumption)) | ((try simp only [GH.push_hid, GH.set_hid]); first | assumption | (refine GH.vis ?_ ?_ <;> first | assumption | ((try simp only [GH.pn, GH.sn]) <;> omega)))) only [go_sem, ↓reduceIte, Nat.reduceEqDiff, Nat.reduceAdd, Int.reduceToNat, Int.reduceAdd, Int.reduceNeg, Int.reduceSub, Int.reduceMul, Int.reduceLT, Int.reduceLE, Int.reduceEq, ↓GH.gp_eq, ↓GH.gp_ne, ↓GH.gs_eq, ↓GH.gs_ne, GH.push_next, GH.set_next]
          intro hx0
          exact ⟨by omega, rfl⟩
        · exact absurd hno (hll rfl hsm)
        · obtain ⟨rfl, rfl, rfl⟩ := lim_inj hv
          rw [decide_eq_false hsm]
          have i1 : ¬ lb < 1 ∧ ¬ la < 1 ∧ ¬ lb < la ∧ ¬ 4611686018427387904 < lb := by omega
          have hAS := (hkS.gets g.next (by omega)).trans hA
          have hBS := (hkS.gets (g.next + 1) (by omega)).trans hB
          simp +decide (disch := first | assumption | exact cellV_int _ _ | exact cellV_bool _ | omega | (simp only [GH.pn, GH.sn] <;> omega) | (with_reducible ((repeat (first | apply GH.ok_push | apply GH.ok_set)); assumption)) | ((try simp only [GH.push_hid, GH.set_hid]); first | assumption | (refine GH.vis ?_ ?_ <;> first | assumption | ((try simp only [GH.pn, GH.sn]) <;> omega)))) only [go_sem, ↓reduceIte, Nat.reduceEqDiff, Nat.reduceAdd, Int.reduceToNat, Int.reduceAdd, Int.reduceNeg, Int.reduceSub, Int.reduceMul, Int.reduceLT, Int.reduceLE, Int.reduceEq, ↓GH.gp_eq, ↓GH.gp_ne, ↓GH.gs_eq, ↓GH.gs_ne, GH.push_next, GH.set_next, hRS, i1, hAS]
          refine CallD.calm (vxx gS (ht.kept (hkH.trans hkS)) (hs.kept (hkH.trans hkS)) (hs.kept (hkH.trans hkS))) ?_
          rintro v u0 hxu0 rfl
          have hnu0 := hxu0.next
          have hoku0 := hxu0.ok hokS
          have hku0 := hkS.ext hxu0
          have hAu0 := (hku0.gets g.next (by omega)).trans hA
          have hBu0 := (hku0.gets (g.next + 1) (by omega)).trans hB
          have z0_0 := (hxu0.gets (g6.next) (by omega)).trans hRS
          simp +decide (disch := first | assumption | exact cellV_int _ _ | exact cellV_bool _ | omega | (simp only [GH.pn, GH.sn] <;> omega) | (with_reducible ((repeat (first | apply GH.ok_push | apply GH.ok_set)); assumption)) | ((try simp only [GH.push_hid, GH.set_hid]); first | assumption | (refine GH.vis ?_ ?_ <;> first | assumption | ((try simp only [GH.pn, GH.sn]) <;> omega)))) only [go_sem, ↓reduceIte, Nat.reduceEqDiff, Nat.reduceAdd, Int.reduceToNat, Int.reduceAdd, Int.reduceNeg, Int.reduceSub, Int.reduceMul, Int.reduceLT, Int.reduceLE, Int.reduceEq, ↓GH.gp_eq, ↓GH.gp_ne, ↓GH.gs_eq, ↓GH.gs_ne, GH.push_next, GH.set_next, e0, e1, hAu0, hBu0, z0_0]
          refine CallD.name fun G0 hG0 => ?_
          have hkc0 : Kept u0 G0 := by rw [hG0]; exact (by (repeat' first | exact Kept.refl _ | assumption | refine Kept.push ?_ ?_ _ | refine Kept.setV ?_ ?_ ?_ _) <;> (first | assumption | exact cellV_int _ _ | exact cellV_bool _ | omega | (simp only [GH.pn, GH.sn] <;> omega) | (with_reducible ((repeat (first | apply GH.ok_push | apply GH.ok_set)); assumption)) | ((try simp only [GH.push_hid, GH.set_hid]); first | assumption | (refine GH.vis ?_ ?_ <;> first | assumption | ((try simp only [GH.pn, GH.sn]) <;> omega)))))
          have hokG0 : G0.ok := by rw [hG0]; exact GH.ok_set (GH.ok_push hoku0)
          have hnG0 : G0.next = u0.next + 1 := by rw [hG0]; rfl
          have y0_n : G0.get u0.next = cellsOb [.int .i64 aN, .int .i64 aD] 32 := by rw [hG0]; exact (by simp (disch := first | assumption | exact cellV_int _ _ | exact cellV_bool _ | omega | (simp only [GH.pn, GH.sn] <;> omega) | (with_reducible ((repeat (first | apply GH.ok_push | apply GH.ok_set)); assumption)) | ((try simp only [GH.push_hid, GH.set_hid]); first | assumption | (refine GH.vis ?_ ?_ <;> first | assumption | ((try simp only [GH.pn, GH.sn]) <;> omega)))) only [↓GH.gp_eq, ↓GH.gp_ne, ↓GH.gs_eq, ↓GH.gs_ne, GH.push_next, GH.set_next]; first | done | exact rfl)
          have y0_0 := (hkc0.gets (g6.next) (by omega)).trans z0_0
          have hkG0 := hku0.trans hkc0
          refine CallD.calm (vyx G0 (ht.kept (hkH.trans hkG0)) (hr.kept (hkH.trans hkG0)) (hs.kept (hkH.trans hkG0))) ?_
          rintro v u1 hxu1 rfl
          have hnu1 := hxu1.next
          have hoku1 := hxu1.ok hokG0
          have hku1 := hkG0.ext hxu1
          have hAu1 := (hku1.gets g.next (by omega)).trans hA
          have hBu1 := (hku1.gets (g.next + 1) (by omega)).trans hB
          have z1_0 := (hxu1.gets (g6.next) (by omega)).trans y0_0
          have z1_1 := (hxu1.gets (u0.next) (by omega)).trans y0_n
          simp +decide (disch := first | assumption | exact cellV_int _ _ | exact cellV_bool _ | omega | (simp only [GH.pn, GH.sn] <;> omega) | (with_reducible ((repeat (first | apply GH.ok_push | apply GH.ok_set)); assumption)) | ((try simp only [GH.push_hid, GH.set_hid]); first | assumption | (refine GH.vis ?_ ?_ <;> first | assumption | ((try simp only [GH.pn, GH.sn]) <;> omega)))) only [go_sem, ↓reduceIte, Nat.reduceEqDiff, Nat.reduceAdd, Int.reduceToNat, Int.reduceAdd, Int.reduceNeg, Int.reduceSub, Int.reduceMul, Int.reduceLT, Int.reduceLE, Int.reduceEq, ↓GH.gp_eq, ↓GH.gp_ne, ↓GH.gs_eq, ↓GH.gs_ne, GH.push_next, GH.set_next, e0, e1, hAu1, hBu1, z1_0, z1_1]
          refine CallD.name fun G1 hG1 => ?_
          have hkc1 : Kept u1 G1 := by rw [hG1]; exact (by (repeat' first | exact Kept.refl _ | assumption | refine Kept.push ?_ ?_ _ | refine Kept.setV ?_ ?_ ?_ _) <;> (first | assumption | exact cellV_int _ _ | exact cellV_bool _ | omega | (simp only [GH.pn, GH.sn] <;> omega) | (with_reducible ((repeat (first | apply GH.ok_push | apply GH.ok_set)); assumption)) | ((try simp only [GH.push_hid, GH.set_hid]); first | assumption | (refine GH.vis ?_ ?_ <;> first | assumption | ((try simp only [GH.pn, GH.sn]) <;> omega)))))
          have hokG1 : G1.ok := by rw [hG1]; exact GH.ok_set (GH.ok_push hoku1)
          have hnG1 : G1.next = u1.next + 1 := by rw [hG1]; rfl
          have y1_n : G1.get u1.next = cellsOb [.int .i64 bN, .int .i64 bD] 32 := by rw [hG1]; exact (by simp (disch := first | assumption | exact cellV_int _ _ | exact cellV_bool _ | omega | (simp only [GH.pn, GH.sn] <;> omega) | (with_reducible ((repeat (first | apply GH.ok_push | apply GH.ok_set)); assumption)) | ((try simp only [GH.push_hid, GH.set_hid]); first | assumption | (refine GH.vis ?_ ?_ <;> first | assumption | ((try simp only [GH.pn, GH.sn]) <;> omega)))) only [↓GH.gp_eq, ↓GH.gp_ne, ↓GH.gs_eq, ↓GH.gs_ne, GH.push_next, GH.set_next]; first | done | exact rfl)
          have y1_0 := (hkc1.gets (g6.next) (by omega)).trans z1_0
          have y1_1 := (hkc1.gets (u0.next) (by omega)).trans z1_1
          have hkG1 := hku1.trans hkc1
          refine CallD.calm (vxy G1 (ht.kept (hkH.trans hkG1)) (hs.kept (hkH.trans hkG1)) (hr.kept (hkH.trans hkG1))) ?_
          rintro v u2 hxu2 rfl
          have hnu2 := hxu2.next
          have hoku2 := hxu2.ok hokG1
          have hku2 := hkG1.ext hxu2
          have hAu2 := (hku2.gets g.next (by omega)).trans hA
          have hBu2 := (hku2.gets (g.next + 1) (by omega)).trans hB
          have z2_0 := (hxu2.gets (g6.next) (by omega)).trans y1_0
          have z2_1 := (hxu2.gets (u0.next) (by omega)).trans y1_1
          have z2_2 := (hxu2.gets (u1.next) (by omega)).trans y1_n
          simp +decide (disch := first | assumption | exact cellV_int _ _ | exact cellV_bool _ | omega | (simp only [GH.pn, GH.sn] <;> omega) | (with_reducible ((repeat (first | apply GH.ok_push | apply GH.ok_set)); assumption)) | ((try simp only [GH.push_hid, GH.set_hid]); first | assumption | (refine GH.vis ?_ ?_ <;> first | assumption | ((try simp only [GH.pn, GH.sn]) <;> omega)))) only [go_sem, ↓reduceIte, Nat.reduceEqDiff, Nat.reduceAdd, Int.reduceToNat, Int.reduceAdd, Int.reduceNeg, Int.reduceSub, Int.reduceMul, Int.reduceLT, Int.reduceLE, Int.reduceEq, ↓GH.gp_eq, ↓GH.gp_ne, ↓GH.gs_eq, ↓GH.gs_ne, GH.push_next, GH.set_next, e0, e1, hAu2, hBu2, z2_0, z2_1, z2_2]
          refine CallD.name fun G2 hG2 => ?_
          have hkc2 : Kept u2 G2 := by rw [hG2]; exact (by (repeat' first | exact Kept.refl _ | assumption | refine Kept.push ?_ ?_ _ | refine Kept.setV ?_ ?_ ?_ _) <;> (first | assumption | exact cellV_int _ _ | exact cellV_bool _ | omega | (simp only [GH.pn, GH.sn] <;> omega) | (with_reducible ((repeat (first | apply GH.ok_push | apply GH.ok_set)); assumption)) | ((try simp only [GH.push_hid, GH.set_hid]); first | assumption | (refine GH.vis ?_ ?_ <;> first | assumption | ((try simp only [GH.pn, GH.sn]) <;> omega)))))
          have hokG2 : G2.ok := by rw [hG2]; exact GH.ok_set (GH.ok_push hoku2)
          have hnG2 : G2.next = u2.next + 1 := by rw [hG2]; rfl
          have y2_n : G2.get u2.next = cellsOb [.int .i64 cN, .int .i64 cD] 32 := by rw [hG2]; exact (by simp (disch := first | assumption | exact cellV_int _ _ | exact cellV_bool _ | omega | (simp only [GH.pn, GH.sn] <;> omega) | (with_reducible ((repeat (first | apply GH.ok_push | apply GH.ok_set)); assumption)) | ((try simp only [GH.push_hid, GH.set_hid]); first | assumption | (refine GH.vis ?_ ?_ <;> first | assumption | ((try simp only [GH.pn, GH.sn]) <;> omega)))) only [↓GH.gp_eq, ↓GH.gp_ne, ↓GH.gs_eq, ↓GH.gs_ne, GH.push_next, GH.set_next]; first | done | exact rfl)
          have y2_0 := (hkc2.gets (g6.next) (by omega)).trans z2_0
          have y2_1 := (hkc2.gets (u0.next) (by omega)).trans z2_1
          have y2_2 := (hkc2.gets (u1.next) (by omega)).trans z2_2
          have hkG2 := hku2.trans hkc2
          refine CallD.calm (vyy G2 (ht.kept (hkH.trans hkG2)) (hr.kept (hkH.trans hkG2)) (hr.kept (hkH.trans hkG2))) ?_
          rintro v u3 hxu3 rfl
          have hnu3 := hxu3.next
          have hoku3 := hxu3.ok hokG2
          have hku3 := hkG2.ext hxu3
          have hAu3 := (hku3.gets g.next (by omega)).trans hA
          have hBu3 := (hku3.gets (g.next + 1) (by omega)).trans hB
          have z3_0 := (hxu3.gets (g6.next) (by omega)).trans y2_0
          have z3_1 := (hxu3.gets (u0.next) (by omega)).trans y2_1
          have z3_2 := (hxu3.gets (u1.next) (by omega)).trans y2_2
          have z3_3 := (hxu3.gets (u2.next) (by omega)).trans y2_n
          simp +decide (disch := first | assumption | exact cellV_int _ _ | exact cellV_bool _ | omega | (simp only [GH.pn, GH.sn] <;> omega) | (with_reducible ((repeat (first | apply GH.ok_push | apply GH.ok_set)); assumption)) | ((try simp only [GH.push_hid, GH.set_hid]); first | assumption | (refine GH.vis ?_ ?_ <;> first | assumption | ((try simp only [GH.pn, GH.sn]) <;> omega)))) only [go_sem, ↓reduceIte, Nat.reduceEqDiff, Nat.reduceAdd, Int.reduceToNat, Int.reduceAdd, Int.reduceNeg, Int.reduceSub, Int.reduceMul, Int.reduceLT, Int.reduceLE, Int.reduceEq, ↓GH.gp_eq, ↓GH.gp_ne, ↓GH.gs_eq, ↓GH.gs_ne, GH.push_next, GH.set_next, e0, e1, hAu3, hBu3, z3_0, z3_1, z3_2, z3_3]
          refine CallD.name fun G3 hG3 => ?_
          have hkc3 : Kept u3 G3 := by rw [hG3]; exact (by (repeat' first | exact Kept.refl _ | assumption | refine Kept.push ?_ ?_ _ | refine Kept.setV ?_ ?_ ?_ _) <;> (first | assumption | exact cellV_int _ _ | exact cellV_bool _ | omega | (simp only [GH.pn, GH.sn] <;> omega) | (with_reducible ((repeat (first | apply GH.ok_push | apply GH.ok_set)); assumption)) | ((try simp only [GH.push_hid, GH.set_hid]); first | assumption | (refine GH.vis ?_ ?_ <;> first | assumption | ((try simp only [GH.pn, GH.sn]) <;> omega)))))
          have hokG3 : G3.ok := by rw [hG3]; exact GH.ok_push (GH.ok_set (GH.ok_push hoku3))
          have hnG3 : G3.next = u3.next + 1 + 1 := by rw [hG3]; rfl
          have y3_n : G3.get u3.next = cellsOb [.int .i64 dN, .int .i64 dD] 32 := by rw [hG3]; exact (by simp (disch := first | assumption | exact cellV_int _ _ | exact cellV_bool _ | omega | (simp only [GH.pn, GH.sn] <;> omega) | (with_reducible ((repeat (first | apply GH.ok_push | apply GH.ok_set)); assumption)) | ((try simp only [GH.push_hid, GH.set_hid]); first | assumption | (refine GH.vis ?_ ?_ <;> first | assumption | ((try simp only [GH.pn, GH.sn]) <;> omega)))) only [↓GH.gp_eq, ↓GH.gp_ne, ↓GH.gs_eq, ↓GH.gs_ne, GH.push_next, GH.set_next]; first | done | exact rfl)
          have y3_0 := (hkc3.gets (g6.next) (by omega)).trans z3_0
          have y3_1 := (hkc3.gets (u0.next) (by omega)).trans z3_1
          have y3_2 := (hkc3.gets (u1.next) (by omega)).trans z3_2
          have y3_3 := (hkc3.gets (u2.next) (by omega)).trans z3_3
          have hkG3 := hku3.trans hkc3
          have hS4 : G3.get (u3.next + 1) = cellsOb [.int .i64 aN, .int .i64 aD, .int .i64 bN, .int .i64 bD, .int .i64 cN, .int .i64 cD, .int .i64 dN, .int .i64 dD] 32 := by rw [hG3]; exact (by simp (disch := first | assumption | exact cellV_int _ _ | exact cellV_bool _ | omega | (simp only [GH.pn, GH.sn] <;> omega) | (with_reducible ((repeat (first | apply GH.ok_push | apply GH.ok_set)); assumption)) | ((try simp only [GH.push_hid, GH.set_hid]); first | assumption | (refine GH.vis ?_ ?_ <;> first | assumption | ((try simp only [GH.pn, GH.sn]) <;> omega)))) only [↓GH.gp_eq, ↓GH.gp_ne, ↓GH.gs_eq, ↓GH.gs_ne, GH.push_next, GH.set_next]; first | done | exact rfl)
          clear hG0 hG1 hG2 hG3
          refine CallD.calm (sound4_rets hX aN aD bN bD cN cD dN dD sxx syx sxy syy (u3.next + 1) 32 G3 (by omega) hS4) ?_
          rintro v p0 hxp0 rfl
          have hnp0 := hxp0.next
          have hokp0 := hxp0.ok hokG3
          have hkp0 := hkG3.ext hxp0
          refine Wk.envS (fun e => ev e (.s 9) = ptrTo g6.next ∧ ev e (.s 13) = ptrTo u0.next ∧ ev e (.s 14) = ptrTo u1.next ∧ ev e (.s 16) = ptrTo u2.next ∧ ev e (.s 18) = ptrTo u3.next ∧ ev e (.s 179) = .bool false ∧ ev e (.s 185) = .bool true) (by simp +decide (disch := first | assumption | (apply GH.ok_push; assumption) | exact cellV_int _ _ | exact cellV_bool _ | omega) only [go_sem, ↓reduceIte, Nat.reduceEqDiff, Nat.reduceAdd, Int.reduceToNat, e0, e1]; first | done | exact rfl) ?_
          intro en4 he4
          have x0_0 := (hxp0.gets (g6.next) (by omega)).trans y3_0
          have x0_1 := (hxp0.gets (u0.next) (by omega)).trans y3_1
          have x0_2 := (hxp0.gets (u1.next) (by omega)).trans y3_2
          have x0_3 := (hxp0.gets (u2.next) (by omega)).trans y3_3
          have x0_4 := (hxp0.gets (u3.next) (by omega)).trans y3_n
          have hqq : ∀ p : Bool, eqBF false (.bool p) (.bool p) = some (.bool true) := fun p => by cases p <;> rfl
          simp +decide (disch := first | assumption | exact cellV_int _ _ | exact cellV_bool _ | omega | (simp only [GH.pn, GH.sn] <;> omega) | (with_reducible ((repeat (first | apply GH.ok_push | apply GH.ok_set)); assumption)) | ((try simp only [GH.push_hid, GH.set_hid]); first | assumption | (refine GH.vis ?_ ?_ <;> first | assumption | ((try simp only [GH.pn, GH.sn]) <;> omega)))) only [go_sem, ↓reduceIte, Nat.reduceEqDiff, Nat.reduceAdd, Int.reduceToNat, Int.reduceAdd, Int.reduceNeg, Int.reduceSub, Int.reduceMul, Int.reduceLT, Int.reduceLE, Int.reduceEq, ↓GH.gp_eq, ↓GH.gp_ne, ↓GH.gs_eq, ↓GH.gs_ne, GH.push_next, GH.set_next, he4, x0_0, x0_1, x0_2, x0_3, x0_4]
          refine CallD.calm (above_rets hX bN bD aN aD syx sxx p0) ?_
          rintro v p1 hxp1 rfl
          have hnp1 := hxp1.next
          have hokp1 := hxp1.ok hokp0
          have hkp1 := hkp0.ext hxp1
          have d1 : decide (aN * bD < bN * aD) = false := decide_eq_false (fun h => hno (.inl (k1.1 h)))
          rw [d1]
          refine Wk.envS (fun e => ev e (.s 9) = ptrTo g6.next ∧ ev e (.s 13) = ptrTo u0.next ∧ ev e (.s 14) = ptrTo u1.next ∧ ev e (.s 16) = ptrTo u2.next ∧ ev e (.s 18) = ptrTo u3.next ∧ ev e (.s 190) = .bool false) (by simp +decide (disch := first | assumption | (apply GH.ok_push; assumption) | exact cellV_int _ _ | exact cellV_bool _ | omega) only [go_sem, ↓reduceIte, Nat.reduceEqDiff, Nat.reduceAdd, Int.reduceToNat, he4]; first | done | exact rfl) ?_
          intro en5 he5
          have x1_0 := (hxp1.gets (g6.next) (by omega)).trans x0_0
          have x1_1 := (hxp1.gets (u0.next) (by omega)).trans x0_1
          have x1_2 := (hxp1.gets (u1.next) (by omega)).trans x0_2
          have x1_3 := (hxp1.gets (u2.next) (by omega)).trans x0_3
          have x1_4 := (hxp1.gets (u3.next) (by omega)).trans x0_4
          by_cases cS : 0 < S
          · have d2 : decide (bN * aD < aN * bD) = true := decide_eq_true (k2.2 cS)
            simp +decide (disch := first | assumption | exact cellV_int _ _ | exact cellV_bool _ | omega | (simp only [GH.pn, GH.sn] <;> omega) | (with_reducible ((repeat (first | apply GH.ok_push | apply GH.ok_set)); assumption)) | ((try simp only [GH.push_hid, GH.set_hid]); first | assumption | (refine GH.vis ?_ ?_ <;> first | assumption | ((try simp only [GH.pn, GH.sn]) <;> omega)))) only [go_sem, ↓reduceIte, Nat.reduceEqDiff, Nat.reduceAdd, Int.reduceToNat, Int.reduceAdd, Int.reduceNeg, Int.reduceSub, Int.reduceMul, Int.reduceLT, Int.reduceLE, Int.reduceEq, ↓GH.gp_eq, ↓GH.gp_ne, ↓GH.gs_eq, ↓GH.gs_ne, GH.push_next, GH.set_next, he5, x1_0, x1_1, x1_2, x1_3, x1_4]
            refine CallD.calm (above_rets hX aN aD bN bD sxx syx p1) ?_
            rintro v p2 hxp2 rfl
            have hnp2 := hxp2.next
            have hokp2 := hxp2.ok hokp1
            have hkp2 := hkp1.ext hxp2
            rw [d2]
            refine Wk.envS (fun e => ev e (.s 9) = ptrTo g6.next ∧ ev e (.s 13) = ptrTo u0.next ∧ ev e (.s 14) = ptrTo u1.next ∧ ev e (.s 16) = ptrTo u2.next ∧ ev e (.s 18) = ptrTo u3.next ∧ ev e (.s 192) = .bool true ∧ ev e (.s 195) = .bool true) (by simp +decide (disch := first | assumption | (apply GH.ok_push; assumption) | exact cellV_int _ _ | exact cellV_bool _ | omega) only [go_sem, ↓reduceIte, Nat.reduceEqDiff, Nat.reduceAdd, Int.reduceToNat, he5]; first | done | exact rfl) ?_
            intro en6 he6
            have x2_0 := (hxp2.gets (g6.next) (by omega)).trans x1_0
            have x2_1 := (hxp2.gets (u0.next) (by omega)).trans x1_1
            have x2_2 := (hxp2.gets (u1.next) (by omega)).trans x1_2
            have x2_3 := (hxp2.gets (u2.next) (by omega)).trans x1_3
            have x2_4 := (hxp2.gets (u3.next) (by omega)).trans x1_4

            by_cases cE : E < 0
            · have d3 : decide (cN * dD < dN * cD) = true := decide_eq_true (k4.2 cE)
              have cl : la < lb := h1d.2 cE
              simp +decide (disch := first | assumption | exact cellV_int _ _ | exact cellV_bool _ | omega | (simp only [GH.pn, GH.sn] <;> omega) | (with_reducible ((repeat (first | apply GH.ok_push | apply GH.ok_set)); assumption)) | ((try simp only [GH.push_hid, GH.set_hid]); first | assumption | (refine GH.vis ?_ ?_ <;> first | assumption | ((try simp only [GH.pn, GH.sn]) <;> omega)))) only [go_sem, ↓reduceIte, Nat.reduceEqDiff, Nat.reduceAdd, Int.reduceToNat, Int.reduceAdd, Int.reduceNeg, Int.reduceSub, Int.reduceMul, Int.reduceLT, Int.reduceLE, Int.reduceEq, ↓GH.gp_eq, ↓GH.gp_ne, ↓GH.gs_eq, ↓GH.gs_ne, GH.push_next, GH.set_next, he6, x2_0, x2_1, x2_2, x2_3, x2_4]
              refine CallD.calm (above_rets hX dN dD cN cD syy sxy p2) ?_
              rintro v p3 hxp3 rfl
              have hnp3 := hxp3.next
              have hokp3 := hxp3.ok hokp2
              have hkp3 := hkp2.ext hxp3
              rw [d3]
              refine Wk.envS (fun e => ev e (.s 9) = ptrTo g6.next ∧ ev e (.s 13) = ptrTo u0.next ∧ ev e (.s 14) = ptrTo u1.next ∧ ev e (.s 16) = ptrTo u2.next ∧ ev e (.s 18) = ptrTo u3.next ∧ ev e (.s 202) = .bool true ∧ ev e (.s 205) = .bool true) (by simp +decide (disch := first | assumption | (apply GH.ok_push; assumption) | exact cellV_int _ _ | exact cellV_bool _ | omega) only [go_sem, ↓reduceIte, Nat.reduceEqDiff, Nat.reduceAdd, Int.reduceToNat, he6]; first | done | exact rfl) ?_
              intro en7 he7
              have x3_0 := (hxp3.gets (g6.next) (by omega)).trans x2_0
              have x3_1 := (hxp3.gets (u0.next) (by omega)).trans x2_1
              have x3_2 := (hxp3.gets (u1.next) (by omega)).trans x2_2
              have x3_3 := (hxp3.gets (u2.next) (by omega)).trans x2_3
              have x3_4 := (hxp3.gets (u3.next) (by omega)).trans x2_4
              simp +decide (disch := first | assumption | exact cellV_int _ _ | exact cellV_bool _ | omega | (simp only [GH.pn, GH.sn] <;> omega) | (with_reducible ((repeat (first | apply GH.ok_push | apply GH.ok_set)); assumption)) | ((try simp only [GH.push_hid, GH.set_hid]); first | assumption | (refine GH.vis ?_ ?_ <;> first | assumption | ((try simp only [GH.pn, GH.sn]) <;> omega)))) only [go_sem, ↓reduceIte, Nat.reduceEqDiff, Nat.reduceAdd, Int.reduceToNat, Int.reduceAdd, Int.reduceNeg, Int.reduceSub, Int.reduceMul, Int.reduceLT, Int.reduceLE, Int.reduceEq, ↓GH.gp_eq, ↓GH.gp_ne, ↓GH.gs_eq, ↓GH.gs_ne, GH.push_next, GH.set_next, he7, x3_0, x3_1, x3_2, x3_3, x3_4, cl, hqq]
              refine CallD.calm (hX.alive _ (hT.kept (hkH.trans hkp3))) ?_
              rintro v gz hxz rfl
              have hnz := hxz.next
              simp +decide (disch := first | assumption | exact cellV_int _ _ | exact cellV_bool _ | omega | (simp only [GH.pn, GH.sn] <;> omega) | (with_reducible ((repeat (first | apply GH.ok_push | apply GH.ok_set)); assumption)) | ((try simp only [GH.push_hid, GH.set_hid]); first | assumption | (refine GH.vis ?_ ?_ <;> first | assumption | ((try simp only [GH.pn, GH.sn]) <;> omega)))) only [go_sem, ↓reduceIte, Nat.reduceEqDiff, Nat.reduceAdd, Int.reduceToNat, Int.reduceAdd, Int.reduceNeg, Int.reduceSub, Int.reduceMul, Int.reduceLT, Int.reduceLE, Int.reduceEq, ↓GH.gp_eq, ↓GH.gp_ne, ↓GH.gs_eq, ↓GH.gs_ne, GH.push_next, GH.set_next]
              intro hx0
              exact ⟨by omega, rfl⟩

            · have d3 : decide (cN * dD < dN * cD) = false := decide_eq_false (fun h => cE (k4.1 h))
              have cl : ¬ la < lb := fun h => cE (h1d.1 h)
              simp +decide (disch := first | assumption | exact cellV_int _ _ | exact cellV_bool _ | omega | (simp only [GH.pn, GH.sn] <;> omega) | (with_reducible ((repeat (first | apply GH.ok_push | apply GH.ok_set)); assumption)) | ((try simp only [GH.push_hid, GH.set_hid]); first | assumption | (refine GH.vis ?_ ?_ <;> first | assumption | ((try simp only [GH.pn, GH.sn]) <;> omega)))) only [go_sem, ↓reduceIte, Nat.reduceEqDiff, Nat.reduceAdd, Int.reduceToNat, Int.reduceAdd, Int.reduceNeg, Int.reduceSub, Int.reduceMul, Int.reduceLT, Int.reduceLE, Int.reduceEq, ↓GH.gp_eq, ↓GH.gp_ne, ↓GH.gs_eq, ↓GH.gs_ne, GH.push_next, GH.set_next, he6, x2_0, x2_1, x2_2, x2_3, x2_4]
              refine CallD.calm (above_rets hX dN dD cN cD syy sxy p2) ?_
              rintro v p3 hxp3 rfl
              have hnp3 := hxp3.next
              have hokp3 := hxp3.ok hokp2
              have hkp3 := hkp2.ext hxp3
              rw [d3]
              refine Wk.envS (fun e => ev e (.s 9) = ptrTo g6.next ∧ ev e (.s 13) = ptrTo u0.next ∧ ev e (.s 14) = ptrTo u1.next ∧ ev e (.s 16) = ptrTo u2.next ∧ ev e (.s 18) = ptrTo u3.next ∧ ev e (.s 202) = .bool true ∧ ev e (.s 205) = .bool false) (by simp +decide (disch := first | assumption | (apply GH.ok_push; assumption) | exact cellV_int _ _ | exact cellV_bool _ | omega) only [go_sem, ↓reduceIte, Nat.reduceEqDiff, Nat.reduceAdd, Int.reduceToNat, he6]; first | done | exact rfl) ?_
              intro en7 he7
              have x3_0 := (hxp3.gets (g6.next) (by omega)).trans x2_0
              have x3_1 := (hxp3.gets (u0.next) (by omega)).trans x2_1
              have x3_2 := (hxp3.gets (u1.next) (by omega)).trans x2_2
              have x3_3 := (hxp3.gets (u2.next) (by omega)).trans x2_3
              have x3_4 := (hxp3.gets (u3.next) (by omega)).trans x2_4
              simp +decide (disch := first | assumption | exact cellV_int _ _ | exact cellV_bool _ | omega | (simp only [GH.pn, GH.sn] <;> omega) | (with_reducible ((repeat (first | apply GH.ok_push | apply GH.ok_set)); assumption)) | ((try simp only [GH.push_hid, GH.set_hid]); first | assumption | (refine GH.vis ?_ ?_ <;> first | assumption | ((try simp only [GH.pn, GH.sn]) <;> omega)))) only [go_sem, ↓reduceIte, Nat.reduceEqDiff, Nat.reduceAdd, Int.reduceToNat, Int.reduceAdd, Int.reduceNeg, Int.reduceSub, Int.reduceMul, Int.reduceLT, Int.reduceLE, Int.reduceEq, ↓GH.gp_eq, ↓GH.gp_ne, ↓GH.gs_eq, ↓GH.gs_ne, GH.push_next, GH.set_next, he7, x3_0, x3_1, x3_2, x3_3, x3_4, cl, hqq]
              refine CallD.calm (hX.alive _ (hT.kept (hkH.trans hkp3))) ?_
              rintro v gz hxz rfl
              have hnz := hxz.next
              simp +decide (disch := first | assumption | exact cellV_int _ _ | exact cellV_bool _ | omega | (simp only [GH.pn, GH.sn] <;> omega) | (with_reducible ((repeat (first | apply GH.ok_push | apply GH.ok_set)); assumption)) | ((try simp only [GH.push_hid, GH.set_hid]); first | assumption | (refine GH.vis ?_ ?_ <;> first | assumption | ((try simp only [GH.pn, GH.sn]) <;> omega)))) only [go_sem, ↓reduceIte, Nat.reduceEqDiff, Nat.reduceAdd, Int.reduceToNat, Int.reduceAdd, Int.reduceNeg, Int.reduceSub, Int.reduceMul, Int.reduceLT, Int.reduceLE, Int.reduceEq, ↓GH.gp_eq, ↓GH.gp_ne, ↓GH.gs_eq, ↓GH.gs_ne, GH.push_next, GH.set_next]
              intro hx0
              exact ⟨by omega, rfl⟩

          · have d2 : decide (bN * aD < aN * bD) = false := decide_eq_false (fun h => cS (k2.1 h))
            have cE : ¬ E < 0 := fun h => hno (by omega)
            have cE2 : 0 < E := by omega
            have d3 : decide (dN * cD < cN * dD) = true := decide_eq_true (k3.2 cE2)
            have d4 : decide (cN * dD < dN * cD) = false := decide_eq_false (fun h => cE (k4.1 h))
            have cl : ¬ la < lb := fun h => cE (h1d.1 h)
            simp +decide (disch := first | assumption | exact cellV_int _ _ | exact cellV_bool _ | omega | (simp only [GH.pn, GH.sn] <;> omega) | (with_reducible ((repeat (first | apply GH.ok_push | apply GH.ok_set)); assumption)) | ((try simp only [GH.push_hid, GH.set_hid]); first | assumption | (refine GH.vis ?_ ?_ <;> first | assumption | ((try simp only [GH.pn, GH.sn]) <;> omega)))) only [go_sem, ↓reduceIte, Nat.reduceEqDiff, Nat.reduceAdd, Int.reduceToNat, Int.reduceAdd, Int.reduceNeg, Int.reduceSub, Int.reduceMul, Int.reduceLT, Int.reduceLE, Int.reduceEq, ↓GH.gp_eq, ↓GH.gp_ne, ↓GH.gs_eq, ↓GH.gs_ne, GH.push_next, GH.set_next, he5, x1_0, x1_1, x1_2, x1_3, x1_4]
            refine CallD.calm (above_rets hX aN aD bN bD sxx syx p1) ?_
            rintro v p2 hxp2 rfl
            have hnp2 := hxp2.next
            have hokp2 := hxp2.ok hokp1
            have hkp2 := hkp1.ext hxp2
            rw [d2]
            refine Wk.envS (fun e => ev e (.s 9) = ptrTo g6.next ∧ ev e (.s 13) = ptrTo u0.next ∧ ev e (.s 14) = ptrTo u1.next ∧ ev e (.s 16) = ptrTo u2.next ∧ ev e (.s 18) = ptrTo u3.next ∧ ev e (.s 192) = .bool true ∧ ev e (.s 195) = .bool false) (by simp +decide (disch := first | assumption | (apply GH.ok_push; assumption) | exact cellV_int _ _ | exact cellV_bool _ | omega) only [go_sem, ↓reduceIte, Nat.reduceEqDiff, Nat.reduceAdd, Int.reduceToNat, he5]; first | done | exact rfl) ?_
            intro en6 he6
            have x2_0 := (hxp2.gets (g6.next) (by omega)).trans x1_0
            have x2_1 := (hxp2.gets (u0.next) (by omega)).trans x1_1
            have x2_2 := (hxp2.gets (u1.next) (by omega)).trans x1_2
            have x2_3 := (hxp2.gets (u2.next) (by omega)).trans x1_3
            have x2_4 := (hxp2.gets (u3.next) (by omega)).trans x1_4
            simp +decide (disch := first | assumption | exact cellV_int _ _ | exact cellV_bool _ | omega | (simp only [GH.pn, GH.sn] <;> omega) | (with_reducible ((repeat (first | apply GH.ok_push | apply GH.ok_set)); assumption)) | ((try simp only [GH.push_hid, GH.set_hid]); first | assumption | (refine GH.vis ?_ ?_ <;> first | assumption | ((try simp only [GH.pn, GH.sn]) <;> omega)))) only [go_sem, ↓reduceIte, Nat.reduceEqDiff, Nat.reduceAdd, Int.reduceToNat, Int.reduceAdd, Int.reduceNeg, Int.reduceSub, Int.reduceMul, Int.reduceLT, Int.reduceLE, Int.reduceEq, ↓GH.gp_eq, ↓GH.gp_ne, ↓GH.gs_eq, ↓GH.gs_ne, GH.push_next, GH.set_next, he6, x2_0, x2_1, x2_2, x2_3, x2_4]
            refine CallD.calm (above_rets hX cN cD dN dD sxy syy p2) ?_
            rintro v p3 hxp3 rfl
            have hnp3 := hxp3.next
            have hokp3 := hxp3.ok hokp2
            have hkp3 := hkp2.ext hxp3
            rw [d3]
            refine Wk.envS (fun e => ev e (.s 9) = ptrTo g6.next ∧ ev e (.s 13) = ptrTo u0.next ∧ ev e (.s 14) = ptrTo u1.next ∧ ev e (.s 16) = ptrTo u2.next ∧ ev e (.s 18) = ptrTo u3.next ∧ ev e (.s 192) = .bool true ∧ ev e (.s 196) = .bool false ∧ ev e (.s 199) = .bool true) (by simp +decide (disch := first | assumption | (apply GH.ok_push; assumption) | exact cellV_int _ _ | exact cellV_bool _ | omega) only [go_sem, ↓reduceIte, Nat.reduceEqDiff, Nat.reduceAdd, Int.reduceToNat, he6]; first | done | exact rfl) ?_
            intro en7 he7
            have x3_0 := (hxp3.gets (g6.next) (by omega)).trans x2_0
            have x3_1 := (hxp3.gets (u0.next) (by omega)).trans x2_1
            have x3_2 := (hxp3.gets (u1.next) (by omega)).trans x2_2
            have x3_3 := (hxp3.gets (u2.next) (by omega)).trans x2_3
            have x3_4 := (hxp3.gets (u3.next) (by omega)).trans x2_4
            simp +decide (disch := first | assumption | exact cellV_int _ _ | exact cellV_bool _ | omega | (simp only [GH.pn, GH.sn] <;> omega) | (with_reducible ((repeat (first | apply GH.ok_push | apply GH.ok_set)); assumption)) | ((try simp only [GH.push_hid, GH.set_hid]); first | assumption | (refine GH.vis ?_ ?_ <;> first | assumption | ((try simp only [GH.pn, GH.sn]) <;> omega)))) only [go_sem, ↓reduceIte, Nat.reduceEqDiff, Nat.reduceAdd, Int.reduceToNat, Int.reduceAdd, Int.reduceNeg, Int.reduceSub, Int.reduceMul, Int.reduceLT, Int.reduceLE, Int.reduceEq, ↓GH.gp_eq, ↓GH.gp_ne, ↓GH.gs_eq, ↓GH.gs_ne, GH.push_next, GH.set_next, he7, x3_0, x3_1, x3_2, x3_3, x3_4]
            refine CallD.calm (above_rets hX dN dD cN cD syy sxy p3) ?_
            rintro v p4 hxp4 rfl
            have hnp4 := hxp4.next
            have hokp4 := hxp4.ok hokp3
            have hkp4 := hkp3.ext hxp4
            rw [d4]
            refine Wk.envS (fun e => ev e (.s 9) = ptrTo g6.next ∧ ev e (.s 13) = ptrTo u0.next ∧ ev e (.s 14) = ptrTo u1.next ∧ ev e (.s 16) = ptrTo u2.next ∧ ev e (.s 18) = ptrTo u3.next ∧ ev e (.s 202) = .bool true ∧ ev e (.s 205) = .bool false) (by simp +decide (disch := first | assumption | (apply GH.ok_push; assumption) | exact cellV_int _ _ | exact cellV_bool _ | omega) only [go_sem, ↓reduceIte, Nat.reduceEqDiff, Nat.reduceAdd, Int.reduceToNat, he7]; first | done | exact rfl) ?_
            intro en8 he8
            have x4_0 := (hxp4.gets (g6.next) (by omega)).trans x3_0
            have x4_1 := (hxp4.gets (u0.next) (by omega)).trans x3_1
            have x4_2 := (hxp4.gets (u1.next) (by omega)).trans x3_2
            have x4_3 := (hxp4.gets (u2.next) (by omega)).trans x3_3
            have x4_4 := (hxp4.gets (u3.next) (by omega)).trans x3_4
            simp +decide (disch := first | assumption | exact cellV_int _ _ | exact cellV_bool _ | omega | (simp only [GH.pn, GH.sn] <;> omega) | (with_reducible ((repeat (first | apply GH.ok_push | apply GH.ok_set)); assumption)) | ((try simp only [GH.push_hid, GH.set_hid]); first | assumption | (refine GH.vis ?_ ?_ <;> first | assumption | ((try simp only [GH.pn, GH.sn]) <;> omega)))) only [go_sem, ↓reduceIte, Nat.reduceEqDiff, Nat.reduceAdd, Int.reduceToNat, Int.reduceAdd, Int.reduceNeg, Int.reduceSub, Int.reduceMul, Int.reduceLT, Int.reduceLE, Int.reduceEq, ↓GH.gp_eq, ↓GH.gp_ne, ↓GH.gs_eq, ↓GH.gs_ne, GH.push_next, GH.set_next, he8, x4_0, x4_1, x4_2, x4_3, x4_4, cl, hqq]
            refine CallD.calm (hX.alive _ (hT.kept (hkH.trans hkp4))) ?_
            rintro v gz hxz rfl
            have hnz := hxz.next
            simp +decide (disch := first | assumption | exact cellV_int _ _ | exact cellV_bool _ | omega | (simp only [GH.pn, GH.sn] <;> omega) | (with_reducible ((repeat (first | apply GH.ok_push | apply GH.ok_set)); assumption)) | ((try simp only [GH.push_hid, GH.set_hid]); first | assumption | (refine GH.vis ?_ ?_ <;> first | assumption | ((try simp only [GH.pn, GH.sn]) <;> omega)))) only [go_sem, ↓reduceIte, Nat.reduceEqDiff, Nat.reduceAdd, Int.reduceToNat, Int.reduceAdd, Int.reduceNeg, Int.reduceSub, Int.reduceMul, Int.reduceLT, Int.reduceLE, Int.reduceEq, ↓GH.gp_eq, ↓GH.gp_ne, ↓GH.gs_eq, ↓GH.gs_ne, GH.push_next, GH.set_next]
            intro hx0
            exact ⟨by omega, rfl⟩

      | false =>
        simp +decide (disch := first | assumption | exact cellV_int _ _ | exact cellV_bool _ | omega | (simp only [GH.pn, GH.sn] <;> omega) | (with_reducible ((repeat (first | apply GH.ok_push | apply GH.ok_set)); assumption)) | ((try simp only [GH.push_hid, GH.set_hid]); first | assumption | (refine GH.vis ?_ ?_ <;> first | assumption | ((try simp only [GH.pn, GH.sn]) <;> omega)))) only [go_sem, ↓reduceIte, Nat.reduceEqDiff, Nat.reduceAdd, Int.reduceToNat, Int.reduceAdd, Int.reduceNeg, Int.reduceSub, Int.reduceMul, Int.reduceLT, Int.reduceLE, Int.reduceEq, ↓GH.gp_eq, ↓GH.gp_ne, ↓GH.gs_eq, ↓GH.gs_ne, GH.push_next, GH.set_next, e0, e1, hA8, hB8]
        refine CallD.calm (wsame g8 (hs.kept (hkH.trans hk8)) (hr.kept (hkH.trans hk8))) ?_
        rintro v gS hxS rfl
        have hnS := hxS.next
        have hokS := hxS.ok hok8
        have hkS := hk8.ext hxS
        have hRS := (hxS.gets g6.next (by omega)).trans hR8
        have q0 : eqAF false 2 (.agg #[.int .i64 0, .int .i64 0]) (.agg #[.int .i64 0, .int .i64 0]) = some (.bool true) := rfl
        have qb : buildF [(0, 1), (1, 1)] none #[.int .i64 0, .int .i64 0] [] = some (.agg #[.int .i64 0, .int .i64 0]) := rfl
        rcases hlc with ⟨hsm, hv⟩ | ⟨hsm, hno, hv⟩ | ⟨hsm, hno, x, y, hv, h1a, h1b, h1c, h1d⟩
        · obtain ⟨rfl, rfl, rfl⟩ := lim_inj hv
          rw [decide_eq_true hsm]
          simp +decide (disch := first | assumption | exact cellV_int _ _ | exact cellV_bool _ | omega | (simp only [GH.pn, GH.sn] <;> omega) | (with_reducible ((repeat (first | apply GH.ok_push | apply GH.ok_set)); assumption)) | ((try simp only [GH.push_hid, GH.set_hid]); first | assumption | (refine GH.vis ?_ ?_ <;> first | assumption | ((try simp only [GH.pn, GH.sn]) <;> omega)))) only [go_sem, ↓reduceIte, Nat.reduceEqDiff, Nat.reduceAdd, Int.reduceToNat, Int.reduceAdd, Int.reduceNeg, Int.reduceSub, Int.reduceMul, Int.reduceLT, Int.reduceLE, Int.reduceEq, ↓GH.gp_eq, ↓GH.gp_ne, ↓GH.gs_eq, ↓GH.gs_ne, GH.push_next, GH.set_next, hRS, q0, qb]
          refine CallD.calm (hX.alive _ (hT.kept (hkH.trans hkS))) ?_
          rintro v gz hxz rfl
          have hnz := hxz.next
          simp +decide (disch := first | assumption | exact cellV_int _ _ | exact cellV_bool _ | omega | (simp only [GH.pn, GH.sn] <;> omega) | (with_reducible ((repeat (first | apply GH.ok_push | apply GH.ok_set)); assumption)) | ((try simp only [GH.push_hid, GH.set_hid]); first | assumption | (refine GH.vis ?_ ?_ <;> first | assumption | ((try simp only [GH.pn, GH.sn]) <;> omega)))) only [go_sem, ↓reduceIte, Nat.reduceEqDiff, Nat.reduceAdd, Int.reduceToNat, Int.reduceAdd, Int.reduceNeg, Int.reduceSub, Int.reduceMul, Int.reduceLT, Int.reduceLE, Int.reduceEq, ↓GH.gp_eq, ↓GH.gp_ne, ↓GH.gs_eq, ↓GH.gs_ne, GH.push_next, GH.set_next]
          intro hx0
          exact ⟨by omega, rfl⟩
        · obtain ⟨rfl, rfl, rfl⟩ := lim_inj hv
          rw [decide_eq_false hsm]
          simp +decide (disch := first | assumption | exact cellV_int _ _ | exact cellV_bool _ | omega | (simp only [GH.pn, GH.sn] <;> omega) | (with_reducible ((repeat (first | apply GH.ok_push | apply GH.ok_set)); assumption)) | ((try simp only [GH.push_hid, GH.set_hid]); first | assumption | (refine GH.vis ?_ ?_ <;> first | assumption | ((try simp only [GH.pn, GH.sn]) <;> omega)))) only [go_sem, ↓reduceIte, Nat.reduceEqDiff, Nat.reduceAdd, Int.reduceToNat, Int.reduceAdd, Int.reduceNeg, Int.reduceSub, Int.reduceMul, Int.reduceLT, Int.reduceLE, Int.reduceEq, ↓GH.gp_eq, ↓GH.gp_ne, ↓GH.gs_eq, ↓GH.gs_ne, GH.push_next, GH.set_next, hRS, q0, qb]
          refine CallD.calm (hX.alive _ (hT.kept (hkH.trans hkS))) ?_
          rintro v gz hxz rfl
          have hnz := hxz.next
          simp +decide (disch := first | assumption | exact cellV_int _ _ | exact cellV_bool _ | omega | (simp only [GH.pn, GH.sn] <;> omega) | (with_reducible ((repeat (first | apply GH.ok_push | apply GH.ok_set)); assumption)) | ((try simp only [GH.push_hid, GH.set_hid]); first | assumption | (refine GH.vis ?_ ?_ <;> first | assumption | ((try simp only [GH.pn, GH.sn]) <;> omega)))) only [go_sem, ↓reduceIte, Nat.reduceEqDiff, Nat.reduceAdd, Int.reduceToNat, Int.reduceAdd, Int.reduceNeg, Int.reduceSub, Int.reduceMul, Int.reduceLT, Int.reduceLE, Int.reduceEq, ↓GH.gp_eq, ↓GH.gp_ne, ↓GH.gs_eq, ↓GH.gs_ne, GH.push_next, GH.set_next]
          intro hx0
          exact ⟨by omega, rfl⟩
        · obtain ⟨rfl, rfl, rfl⟩ := lim_inj hv
          rw [decide_eq_false hsm]
          have i1 : ¬ lb < 1 ∧ ¬ la < 1 ∧ ¬ lb < la ∧ ¬ 4611686018427387904 < lb := by omega
          have hAS := (hkS.gets g.next (by omega)).trans hA
          have hBS := (hkS.gets (g.next + 1) (by omega)).trans hB
          simp +decide (disch := first | assumption | exact cellV_int _ _ | exact cellV_bool _ | omega | (simp only [GH.pn, GH.sn] <;> omega) | (with_reducible ((repeat (first | apply GH.ok_push | apply GH.ok_set)); assumption)) | ((try simp only [GH.push_hid, GH.set_hid]); first | assumption | (refine GH.vis ?_ ?_ <;> first | assumption | ((try simp only [GH.pn, GH.sn]) <;> omega)))) only [go_sem, ↓reduceIte, Nat.reduceEqDiff, Nat.reduceAdd, Int.reduceToNat, Int.reduceAdd, Int.reduceNeg, Int.reduceSub, Int.reduceMul, Int.reduceLT, Int.reduceLE, Int.reduceEq, ↓GH.gp_eq, ↓GH.gp_ne, ↓GH.gs_eq, ↓GH.gs_ne, GH.push_next, GH.set_next, hRS, i1, hAS]
          refine CallD.calm (vxx gS (ht.kept (hkH.trans hkS)) (hs.kept (hkH.trans hkS)) (hs.kept (hkH.trans hkS))) ?_
          rintro v u0 hxu0 rfl
          have hnu0 := hxu0.next
          have hoku0 := hxu0.ok hokS
          have hku0 := hkS.ext hxu0
          have hAu0 := (hku0.gets g.next (by omega)).trans hA
          have hBu0 := (hku0.gets (g.next + 1) (by omega)).trans hB
          have z0_0 := (hxu0.gets (g6.next) (by omega)).trans hRS
          simp +decide (disch := first | assumption | exact cellV_int _ _ | exact cellV_bool _ | omega | (simp only [GH.pn, GH.sn] <;> omega) | (with_reducible ((repeat (first | apply GH.ok_push | apply GH.ok_set)); assumption)) | ((try simp only [GH.push_hid, GH.set_hid]); first | assumption | (refine GH.vis ?_ ?_ <;> first | assumption | ((try simp only [GH.pn, GH.sn]) <;> omega)))) only [go_sem, ↓reduceIte, Nat.reduceEqDiff, Nat.reduceAdd, Int.reduceToNat, Int.reduceAdd, Int.reduceNeg, Int.reduceSub, Int.reduceMul, Int.reduceLT, Int.reduceLE, Int.reduceEq, ↓GH.gp_eq, ↓GH.gp_ne, ↓GH.gs_eq, ↓GH.gs_ne, GH.push_next, GH.set_next, e0, e1, hAu0, hBu0, z0_0]
          refine CallD.name fun G0 hG0 => ?_
          have hkc0 : Kept u0 G0 := by rw [hG0]; exact (by (repeat' first | exact Kept.refl _ | assumption | refine Kept.push ?_ ?_ _ | refine Kept.setV ?_ ?_ ?_ _) <;> (first | assumption | exact cellV_int _ _ | exact cellV_bool _ | omega | (simp only [GH.pn, GH.sn] <;> omega) | (with_reducible ((repeat (first | apply GH.ok_push | apply GH.ok_set)); assumption)) | ((try simp only [GH.push_hid, GH.set_hid]); first | assumption | (refine GH.vis ?_ ?_ <;> first | assumption | ((try simp only [GH.pn, GH.sn]) <;> omega)))))
          have hokG0 : G0.ok := by rw [hG0]; exact GH.ok_set (GH.ok_push hoku0)
          have hnG0 : G0.next = u0.next + 1 := by rw [hG0]; rfl
          have y0_n : G0.get u0.next = cellsOb [.int .i64 aN, .int .i64 aD] 32 := by rw [hG0]; exact (by simp (disch := first | assumption | exact cellV_int _ _ | exact cellV_bool _ | omega | (simp only [GH.pn, GH.sn] <;> omega) | (with_reducible ((repeat (first | apply GH.ok_push | apply GH.ok_set)); assumption)) | ((try simp only [GH.push_hid, GH.set_hid]); first | assumption | (refine GH.vis ?_ ?_ <;> first | assumption | ((try simp only [GH.pn, GH.sn]) <;> omega)))) only [↓GH.gp_eq, ↓GH.gp_ne, ↓GH.gs_eq, ↓GH.gs_ne, GH.push_next, GH.set_next]; first | done | exact rfl)
          have y0_0 := (hkc0.gets (g6.next) (by omega)).trans z0_0
          have hkG0 := hku0.trans hkc0
          refine CallD.calm (vyx G0 (ht.kept (hkH.trans hkG0)) (hr.kept (hkH.trans hkG0)) (hs.kept (hkH.trans hkG0))) ?_
          rintro v u1 hxu1 rfl
          have hnu1 := hxu1.next
          have hoku1 := hxu1.ok hokG0
          have hku1 := hkG0.ext hxu1
          have hAu1 := (hku1.gets g.next (by omega)).trans hA
          have hBu1 := (hku1.gets (g.next + 1) (by omega)).trans hB
          have z1_0 := (hxu1.gets (g6.next) (by omega)).trans y0_0
          have z1_1 := (hxu1.gets (u0.next) (by omega)).trans y0_n
          simp +decide (disch := first | assumption | exact cellV_int _ _ | exact cellV_bool _ | omega | (simp only [GH.pn, GH.sn] <;> omega) | (with_reducible ((repeat (first | apply GH.ok_push | apply GH.ok_set)); assumption)) | ((try simp only [GH.push_hid, GH.set_hid]); first | assumption | (refine GH.vis ?_ ?_ <;> first | assumption | ((try simp only [GH.pn, GH.sn]) <;> omega)))) only [go_sem, ↓reduceIte, Nat.reduceEqDiff, Nat.reduceAdd, Int.reduceToNat, Int.reduceAdd, Int.reduceNeg, Int.reduceSub, Int.reduceMul, Int.reduceLT, Int.reduceLE, Int.reduceEq, ↓GH.gp_eq, ↓GH.gp_ne, ↓GH.gs_eq, ↓GH.gs_ne, GH.push_next, GH.set_next, e0, e1, hAu1, hBu1, z1_0, z1_1]
          refine CallD.name fun G1 hG1 => ?_
          have hkc1 : Kept u1 G1 := by rw [hG1]; exact (by (repeat' first | exact Kept.refl _ | assumption | refine Kept.push ?_ ?_ _ | refine Kept.setV ?_ ?_ ?_ _) <;> (first | assumption | exact cellV_int _ _ | exact cellV_bool _ | omega | (simp only [GH.pn, GH.sn] <;> omega) | (with_reducible ((repeat (first | apply GH.ok_push | apply GH.ok_set)); assumption)) | ((try simp only [GH.push_hid, GH.set_hid]); first | assumption | (refine GH.vis ?_ ?_ <;> first | assumption | ((try simp only [GH.pn, GH.sn]) <;> omega)))))
          have hokG1 : G1.ok := by rw [hG1]; exact GH.ok_set (GH.ok_push hoku1)
          have hnG1 : G1.next = u1.next + 1 := by rw [hG1]; rfl
          have y1_n : G1.get u1.next = cellsOb [.int .i64 bN, .int .i64 bD] 32 := by rw [hG1]; exact (by simp (disch := first | assumption | exact cellV_int _ _ | exact cellV_bool _ | omega | (simp only [GH.pn, GH.sn] <;> omega) | (with_reducible ((repeat (first | apply GH.ok_push | apply GH.ok_set)); assumption)) | ((try simp only [GH.push_hid, GH.set_hid]); first | assumption | (refine GH.vis ?_ ?_ <;> first | assumption | ((try simp only [GH.pn, GH.sn]) <;> omega)))) only [↓GH.gp_eq, ↓GH.gp_ne, ↓GH.gs_eq, ↓GH.gs_ne, GH.push_next, GH.set_next]; first | done | exact rfl)
          have y1_0 := (hkc1.gets (g6.next) (by omega)).trans z1_0
          have y1_1 := (hkc1.gets (u0.next) (by omega)).trans z1_1
          have hkG1 := hku1.trans hkc1
          refine CallD.calm (vxy G1 (ht.kept (hkH.trans hkG1)) (hs.kept (hkH.trans hkG1)) (hr.kept (hkH.trans hkG1))) ?_
          rintro v u2 hxu2 rfl
          have hnu2 := hxu2.next
          have hoku2 := hxu2.ok hokG1
          have hku2 := hkG1.ext hxu2
          have hAu2 := (hku2.gets g.next (by omega)).trans hA
          have hBu2 := (hku2.gets (g.next + 1) (by omega)).trans hB
          have z2_0 := (hxu2.gets (g6.next) (by omega)).trans y1_0
          have z2_1 := (hxu2.gets (u0.next) (by omega)).trans y1_1
          have z2_2 := (hxu2.gets (u1.next) (by omega)).trans y1_n
          simp +decide (disch := first | assumption | exact cellV_int _ _ | exact cellV_bool _ | omega | (simp only [GH.pn, GH.sn] <;> omega) | (with_reducible ((repeat (first | apply GH.ok_push | apply GH.ok_set)); assumption)) | ((try simp only [GH.push_hid, GH.set_hid]); first | assumption | (refine GH.vis ?_ ?_ <;> first | assumption | ((try simp only [GH.pn, GH.sn]) <;> omega)))) only [go_sem, ↓reduceIte, Nat.reduceEqDiff, Nat.reduceAdd, Int.reduceToNat, Int.reduceAdd, Int.reduceNeg, Int.reduceSub, Int.reduceMul, Int.reduceLT, Int.reduceLE, Int.reduceEq, ↓GH.gp_eq, ↓GH.gp_ne, ↓GH.gs_eq, ↓GH.gs_ne, GH.push_next, GH.set_next, e0, e1, hAu2, hBu2, z2_0, z2_1, z2_2]
          refine CallD.name fun G2 hG2 => ?_
          have hkc2 : Kept u2 G2 := by rw [hG2]; exact (by (repeat' first | exact Kept.refl _ | assumption | refine Kept.push ?_ ?_ _ | refine Kept.setV ?_ ?_ ?_ _) <;> (first | assumption | exact cellV_int _ _ | exact cellV_bool _ | omega | (simp only [GH.pn, GH.sn] <;> omega) | (with_reducible ((repeat (first | apply GH.ok_push | apply GH.ok_set)); assumption)) | ((try simp only [GH.push_hid, GH.set_hid]); first | assumption | (refine GH.vis ?_ ?_ <;> first | assumption | ((try simp only [GH.pn, GH.sn]) <;> omega)))))
          have hokG2 : G2.ok := by rw [hG2]; exact GH.ok_set (GH.ok_push hoku2)
          have hnG2 : G2.next = u2.next + 1 := by rw [hG2]; rfl
          have y2_n : G2.get u2.next = cellsOb [.int .i64 cN, .int .i64 cD] 32 := by rw [hG2]; exact (by simp (disch := first | assumption | exact cellV_int _ _ | exact cellV_bool _ | omega | (simp only [GH.pn, GH.sn] <;> omega) | (with_reducible ((repeat (first | apply GH.ok_push | apply GH.ok_set)); assumption)) | ((try simp only [GH.push_hid, GH.set_hid]); first | assumption | (refine GH.vis ?_ ?_ <;> first | assumption | ((try simp only [GH.pn, GH.sn]) <;> omega)))) only [↓GH.gp_eq, ↓GH.gp_ne, ↓GH.gs_eq, ↓GH.gs_ne, GH.push_next, GH.set_next]; first | done | exact rfl)
          have y2_0 := (hkc2.gets (g6.next) (by omega)).trans z2_0
          have y2_1 := (hkc2.gets (u0.next) (by omega)).trans z2_1
          have y2_2 := (hkc2.gets (u1.next) (by omega)).trans z2_2
          have hkG2 := hku2.trans hkc2
          refine CallD.calm (vyy G2 (ht.kept (hkH.trans hkG2)) (hr.kept (hkH.trans hkG2)) (hr.kept (hkH.trans hkG2))) ?_
          rintro v u3 hxu3 rfl
          have hnu3 := hxu3.next
          have hoku3 := hxu3.ok hokG2
          have hku3 := hkG2.ext hxu3
          have hAu3 := (hku3.gets g.next (by omega)).trans hA
          have hBu3 := (hku3.gets (g.next + 1) (by omega)).trans hB
          have z3_0 := (hxu3.gets (g6.next) (by omega)).trans y2_0
          have z3_1 := (hxu3.gets (u0.next) (by omega)).trans y2_1
          have z3_2 := (hxu3.gets (u1.next) (by omega)).trans y2_2
          have z3_3 := (hxu3.gets (u2.next) (by omega)).trans y2_n
          simp +decide (disch := first | assumption | exact cellV_int _ _ | exact cellV_bool _ | omega | (simp only [GH.pn, GH.sn] <;> omega) | (with_reducible ((repeat (first | apply GH.ok_push | apply GH.ok_set)); assumption)) | ((try simp only [GH.push_hid, GH.set_hid]); first | assumption | (refine GH.vis ?_ ?_ <;> first | assumption | ((try simp only [GH.pn, GH.sn]) <;> omega)))) only [go_sem, ↓reduceIte, Nat.reduceEqDiff, Nat.reduceAdd, Int.reduceToNat, Int.reduceAdd, Int.reduceNeg, Int.reduceSub, Int.reduceMul, Int.reduceLT, Int.reduceLE, Int.reduceEq, ↓GH.gp_eq, ↓GH.gp_ne, ↓GH.gs_eq, ↓GH.gs_ne, GH.push_next, GH.set_next, e0, e1, hAu3, hBu3, z3_0, z3_1, z3_2, z3_3]
          refine CallD.name fun G3 hG3 => ?_
          have hkc3 : Kept u3 G3 := by rw [hG3]; exact (by (repeat' first | exact Kept.refl _ | assumption | refine Kept.push ?_ ?_ _ | refine Kept.setV ?_ ?_ ?_ _) <;> (first | assumption | exact cellV_int _ _ | exact cellV_bool _ | omega | (simp only [GH.pn, GH.sn] <;> omega) | (with_reducible ((repeat (first | apply GH.ok_push | apply GH.ok_set)); assumption)) | ((try simp only [GH.push_hid, GH.set_hid]); first | assumption | (refine GH.vis ?_ ?_ <;> first | assumption | ((try simp only [GH.pn, GH.sn]) <;> omega)))))
          have hokG3 : G3.ok := by rw [hG3]; exact GH.ok_push (GH.ok_set (GH.ok_push hoku3))
          have hnG3 : G3.next = u3.next + 1 + 1 := by rw [hG3]; rfl
          have y3_n : G3.get u3.next = cellsOb [.int .i64 dN, .int .i64 dD] 32 := by rw [hG3]; exact (by simp (disch := first | assumption | exact cellV_int _ _ | exact cellV_bool _ | omega | (simp only [GH.pn, GH.sn] <;> omega) | (with_reducible ((repeat (first | apply GH.ok_push | apply GH.ok_set)); assumption)) | ((try simp only [GH.push_hid, GH.set_hid]); first | assumption | (refine GH.vis ?_ ?_ <;> first | assumption | ((try simp only [GH.pn, GH.sn]) <;> omega)))) only [↓GH.gp_eq, ↓GH.gp_ne, ↓GH.gs_eq, ↓GH.gs_ne, GH.push_next, GH.set_next]; first | done | exact rfl)
          have y3_0 := (hkc3.gets (g6.next) (by omega)).trans z3_0
          have y3_1 := (hkc3.gets (u0.next) (by omega)).trans z3_1
          have y3_2 := (hkc3.gets (u1.next) (by omega)).trans z3_2
          have y3_3 := (hkc3.gets (u2.next) (by omega)).trans z3_3
          have hkG3 := hku3.trans hkc3
          have hS4 : G3.get (u3.next + 1) = cellsOb [.int .i64 aN, .int .i64 aD, .int .i64 bN, .int .i64 bD, .int .i64 cN, .int .i64 cD, .int .i64 dN, .int .i64 dD] 32 := by rw [hG3]; exact (by simp (disch := first | assumption | exact cellV_int _ _ | exact cellV_bool _ | omega | (simp only [GH.pn, GH.sn] <;> omega) | (with_reducible ((repeat (first | apply GH.ok_push | apply GH.ok_set)); assumption)) | ((try simp only [GH.push_hid, GH.set_hid]); first | assumption | (refine GH.vis ?_ ?_ <;> first | assumption | ((try simp only [GH.pn, GH.sn]) <;> omega)))) only [↓GH.gp_eq, ↓GH.gp_ne, ↓GH.gs_eq, ↓GH.gs_ne, GH.push_next, GH.set_next]; first | done | exact rfl)
          clear hG0 hG1 hG2 hG3
          refine CallD.calm (sound4_rets hX aN aD bN bD cN cD dN dD sxx syx sxy syy (u3.next + 1) 32 G3 (by omega) hS4) ?_
          rintro v p0 hxp0 rfl
          have hnp0 := hxp0.next
          have hokp0 := hxp0.ok hokG3
          have hkp0 := hkG3.ext hxp0
          refine Wk.envS (fun e => ev e (.s 9) = ptrTo g6.next ∧ ev e (.s 13) = ptrTo u0.next ∧ ev e (.s 14) = ptrTo u1.next ∧ ev e (.s 16) = ptrTo u2.next ∧ ev e (.s 18) = ptrTo u3.next ∧ ev e (.s 179) = .bool false ∧ ev e (.s 185) = .bool true) (by simp +decide (disch := first | assumption | (apply GH.ok_push; assumption) | exact cellV_int _ _ | exact cellV_bool _ | omega) only [go_sem, ↓reduceIte, Nat.reduceEqDiff, Nat.reduceAdd, Int.reduceToNat, e0, e1]; first | done | exact rfl) ?_
          intro en4 he4
          have x0_0 := (hxp0.gets (g6.next) (by omega)).trans y3_0
          have x0_1 := (hxp0.gets (u0.next) (by omega)).trans y3_1
          have x0_2 := (hxp0.gets (u1.next) (by omega)).trans y3_2
          have x0_3 := (hxp0.gets (u2.next) (by omega)).trans y3_3
          have x0_4 := (hxp0.gets (u3.next) (by omega)).trans y3_n
          have hqq : ∀ p : Bool, eqBF false (.bool p) (.bool p) = some (.bool true) := fun p => by cases p <;> rfl
          simp +decide (disch := first | assumption | exact cellV_int _ _ | exact cellV_bool _ | omega | (simp only [GH.pn, GH.sn] <;> omega) | (with_reducible ((repeat (first | apply GH.ok_push | apply GH.ok_set)); assumption)) | ((try simp only [GH.push_hid, GH.set_hid]); first | assumption | (refine GH.vis ?_ ?_ <;> first | assumption | ((try simp only [GH.pn, GH.sn]) <;> omega)))) only [go_sem, ↓reduceIte, Nat.reduceEqDiff, Nat.reduceAdd, Int.reduceToNat, Int.reduceAdd, Int.reduceNeg, Int.reduceSub, Int.reduceMul, Int.reduceLT, Int.reduceLE, Int.reduceEq, ↓GH.gp_eq, ↓GH.gp_ne, ↓GH.gs_eq, ↓GH.gs_ne, GH.push_next, GH.set_next, he4, x0_0, x0_1, x0_2, x0_3, x0_4]
          refine CallD.calm (above_rets hX bN bD aN aD syx sxx p0) ?_
          rintro v p1 hxp1 rfl
          have hnp1 := hxp1.next
          have hokp1 := hxp1.ok hokp0
          have hkp1 := hkp0.ext hxp1
          have d1 : decide (aN * bD < bN * aD) = false := decide_eq_false (fun h => hno (.inl (k1.1 h)))
          rw [d1]
          refine Wk.envS (fun e => ev e (.s 9) = ptrTo g6.next ∧ ev e (.s 13) = ptrTo u0.next ∧ ev e (.s 14) = ptrTo u1.next ∧ ev e (.s 16) = ptrTo u2.next ∧ ev e (.s 18) = ptrTo u3.next ∧ ev e (.s 190) = .bool false) (by simp +decide (disch := first | assumption | (apply GH.ok_push; assumption) | exact cellV_int _ _ | exact cellV_bool _ | omega) only [go_sem, ↓reduceIte, Nat.reduceEqDiff, Nat.reduceAdd, Int.reduceToNat, he4]; first | done | exact rfl) ?_
          intro en5 he5
          have x1_0 := (hxp1.gets (g6.next) (by omega)).trans x0_0
          have x1_1 := (hxp1.gets (u0.next) (by omega)).trans x0_1
          have x1_2 := (hxp1.gets (u1.next) (by omega)).trans x0_2
          have x1_3 := (hxp1.gets (u2.next) (by omega)).trans x0_3
          have x1_4 := (hxp1.gets (u3.next) (by omega)).trans x0_4
          by_cases cS : 0 < S
          · have d2 : decide (bN * aD < aN * bD) = true := decide_eq_true (k2.2 cS)
            simp +decide (disch := first | assumption | exact cellV_int _ _ | exact cellV_bool _ | omega | (simp only [GH.pn, GH.sn] <;> omega) | (with_reducible ((repeat (first | apply GH.ok_push | apply GH.ok_set)); assumption)) | ((try simp only [GH.push_hid, GH.set_hid]); first | assumption | (refine GH.vis ?_ ?_ <;> first | assumption | ((try simp only [GH.pn, GH.sn]) <;> omega)))) only [go_sem, ↓reduceIte, Nat.reduceEqDiff, Nat.reduceAdd, Int.reduceToNat, Int.reduceAdd, Int.reduceNeg, Int.reduceSub, Int.reduceMul, Int.reduceLT, Int.reduceLE, Int.reduceEq, ↓GH.gp_eq, ↓GH.gp_ne, ↓GH.gs_eq, ↓GH.gs_ne, GH.push_next, GH.set_next, he5, x1_0, x1_1, x1_2, x1_3, x1_4]
            refine CallD.calm (above_rets hX aN aD bN bD sxx syx p1) ?_
            rintro v p2 hxp2 rfl
            have hnp2 := hxp2.next
            have hokp2 := hxp2.ok hokp1
            have hkp2 := hkp1.ext hxp2
            rw [d2]
            refine Wk.envS (fun e => ev e (.s 9) = ptrTo g6.next ∧ ev e (.s 13) = ptrTo u0.next ∧ ev e (.s 14) = ptrTo u1.next ∧ ev e (.s 16) = ptrTo u2.next ∧ ev e (.s 18) = ptrTo u3.next ∧ ev e (.s 192) = .bool true ∧ ev e (.s 195) = .bool true) (by simp +decide (disch := first | assumption | (apply GH.ok_push; assumption) | exact cellV_int _ _ | exact cellV_bool _ | omega) only [go_sem, ↓reduceIte, Nat.reduceEqDiff, Nat.reduceAdd, Int.reduceToNat, he5]; first | done | exact rfl) ?_
            intro en6 he6
            have x2_0 := (hxp2.gets (g6.next) (by omega)).trans x1_0
            have x2_1 := (hxp2.gets (u0.next) (by omega)).trans x1_1
            have x2_2 := (hxp2.gets (u1.next) (by omega)).trans x1_2
            have x2_3 := (hxp2.gets (u2.next) (by omega)).trans x1_3
            have x2_4 := (hxp2.gets (u3.next) (by omega)).trans x1_4

            by_cases cE : E < 0
            · have d3 : decide (cN * dD < dN * cD) = true := decide_eq_true (k4.2 cE)
              have cl : la < lb := h1d.2 cE
              simp +decide (disch := first | assumption | exact cellV_int _ _ | exact cellV_bool _ | omega | (simp only [GH.pn, GH.sn] <;> omega) | (with_reducible ((repeat (first | apply GH.ok_push | apply GH.ok_set)); assumption)) | ((try simp only [GH.push_hid, GH.set_hid]); first | assumption | (refine GH.vis ?_ ?_ <;> first | assumption | ((try simp only [GH.pn, GH.sn]) <;> omega)))) only [go_sem, ↓reduceIte, Nat.reduceEqDiff, Nat.reduceAdd, Int.reduceToNat, Int.reduceAdd, Int.reduceNeg, Int.reduceSub, Int.reduceMul, Int.reduceLT, Int.reduceLE, Int.reduceEq, ↓GH.gp_eq, ↓GH.gp_ne, ↓GH.gs_eq, ↓GH.gs_ne, GH.push_next, GH.set_next, he6, x2_0, x2_1, x2_2, x2_3, x2_4]
              refine CallD.calm (above_rets hX dN dD cN cD syy sxy p2) ?_
              rintro v p3 hxp3 rfl
              have hnp3 := hxp3.next
              have hokp3 := hxp3.ok hokp2
              have hkp3 := hkp2.ext hxp3
              rw [d3]
              refine Wk.envS (fun e => ev e (.s 9) = ptrTo g6.next ∧ ev e (.s 13) = ptrTo u0.next ∧ ev e (.s 14) = ptrTo u1.next ∧ ev e (.s 16) = ptrTo u2.next ∧ ev e (.s 18) = ptrTo u3.next ∧ ev e (.s 202) = .bool true ∧ ev e (.s 205) = .bool true) (by simp +decide (disch := first | assumption | (apply GH.ok_push; assumption) | exact cellV_int _ _ | exact cellV_bool _ | omega) only [go_sem, ↓reduceIte, Nat.reduceEqDiff, Nat.reduceAdd, Int.reduceToNat, he6]; first | done | exact rfl) ?_
              intro en7 he7
              have x3_0 := (hxp3.gets (g6.next) (by omega)).trans x2_0
              have x3_1 := (hxp3.gets (u0.next) (by omega)).trans x2_1
              have x3_2 := (hxp3.gets (u1.next) (by omega)).trans x2_2
              have x3_3 := (hxp3.gets (u2.next) (by omega)).trans x2_3
              have x3_4 := (hxp3.gets (u3.next) (by omega)).trans x2_4
              simp +decide (disch := first | assumption | exact cellV_int _ _ | exact cellV_bool _ | omega | (simp only [GH.pn, GH.sn] <;> omega) | (with_reducible ((repeat (first | apply GH.ok_push | apply GH.ok_set)); assumption)) | ((try simp only [GH.push_hid, GH.set_hid]); first | assumption | (refine GH.vis ?_ ?_ <;> first | assumption | ((try simp only [GH.pn, GH.sn]) <;> omega)))) only [go_sem, ↓reduceIte, Nat.reduceEqDiff, Nat.reduceAdd, Int.reduceToNat, Int.reduceAdd, Int.reduceNeg, Int.reduceSub, Int.reduceMul, Int.reduceLT, Int.reduceLE, Int.reduceEq, ↓GH.gp_eq, ↓GH.gp_ne, ↓GH.gs_eq, ↓GH.gs_ne, GH.push_next, GH.set_next, he7, x3_0, x3_1, x3_2, x3_3, x3_4, cl, hqq]
              refine CallD.calm (hX.alive _ (hT.kept (hkH.trans hkp3))) ?_
              rintro v gz hxz rfl
              have hnz := hxz.next
              simp +decide (disch := first | assumption | exact cellV_int _ _ | exact cellV_bool _ | omega | (simp only [GH.pn, GH.sn] <;> omega) | (with_reducible ((repeat (first | apply GH.ok_push | apply GH.ok_set)); assumption)) | ((try simp only [GH.push_hid, GH.set_hid]); first | assumption | (refine GH.vis ?_ ?_ <;> first | assumption | ((try simp only [GH.pn, GH.sn]) <;> omega)))) only [go_sem, ↓reduceIte, Nat.reduceEqDiff, Nat.reduceAdd, Int.reduceToNat, Int.reduceAdd, Int.reduceNeg, Int.reduceSub, Int.reduceMul, Int.reduceLT, Int.reduceLE, Int.reduceEq, ↓GH.gp_eq, ↓GH.gp_ne, ↓GH.gs_eq, ↓GH.gs_ne, GH.push_next, GH.set_next]
              intro hx0
              exact ⟨by omega, rfl⟩

            · have d3 : decide (cN * dD < dN * cD) = false := decide_eq_false (fun h => cE (k4.1 h))
              have cl : ¬ la < lb := fun h => cE (h1d.1 h)
              simp +decide (disch := first | assumption | exact cellV_int _ _ | exact cellV_bool _ | omega | (simp only [GH.pn, GH.sn] <;> omega) | (with_reducible ((repeat (first | apply GH.ok_push | apply GH.ok_set)); assumption)) | ((try simp only [GH.push_hid, GH.set_hid]); first | assumption | (refine GH.vis ?_ ?_ <;> first | assumption | ((try simp only [GH.pn, GH.sn]) <;> omega)))) only [go_sem, ↓reduceIte, Nat.reduceEqDiff, Nat.reduceAdd, Int.reduceToNat, Int.reduceAdd, Int.reduceNeg, Int.reduceSub, Int.reduceMul, Int.reduceLT, Int.reduceLE, Int.reduceEq, ↓GH.gp_eq, ↓GH.gp_ne, ↓GH.gs_eq, ↓GH.gs_ne, GH.push_next, GH.set_next, he6, x2_0, x2_1, x2_2, x2_3, x2_4]
              refine CallD.calm (above_rets hX dN dD cN cD syy sxy p2) ?_
              rintro v p3 hxp3 rfl
              have hnp3 := hxp3.next
              have hokp3 := hxp3.ok hokp2
              have hkp3 := hkp2.ext hxp3
              rw [d3]
              refine Wk.envS (fun e => ev e (.s 9) = ptrTo g6.next ∧ ev e (.s 13) = ptrTo u0.next ∧ ev e (.s 14) = ptrTo u1.next ∧ ev e (.s 16) = ptrTo u2.next ∧ ev e (.s 18) = ptrTo u3.next ∧ ev e (.s 202) = .bool true ∧ ev e (.s 205) = .bool false) (by simp +decide (disch := first | assumption | (apply GH.ok_push; assumption) | exact cellV_int _ _ | exact cellV_bool _ | omega) only [go_sem, ↓reduceIte, Nat.reduceEqDiff, Nat.reduceAdd, Int.reduceToNat, he6]; first | done | exact rfl) ?_
              intro en7 he7
              have x3_0 := (hxp3.gets (g6.next) (by omega)).trans x2_0
              have x3_1 := (hxp3.gets (u0.next) (by omega)).trans x2_1
              have x3_2 := (hxp3.gets (u1.next) (by omega)).trans x2_2
              have x3_3 := (hxp3.gets (u2.next) (by omega)).trans x2_3
              have x3_4 := (hxp3.gets (u3.next) (by omega)).trans x2_4
              simp +decide (disch := first | assumption | exact cellV_int _ _ | exact cellV_bool _ | omega | (simp only [GH.pn, GH.sn] <;> omega) | (with_reducible ((repeat (first | apply GH.ok_push | apply GH.ok_set)); assumption)) | ((try simp only [GH.push_hid, GH.set_hid]); first | assumption | (refine GH.vis ?_ ?_ <;> first | assumption | ((try simp only [GH.pn, GH.sn]) <;> omega)))) only [go_sem, ↓reduceIte, Nat.reduceEqDiff, Nat.reduceAdd, Int.reduceToNat, Int.reduceAdd, Int.reduceNeg, Int.reduceSub, Int.reduceMul, Int.reduceLT, Int.reduceLE, Int.reduceEq, ↓GH.gp_eq, ↓GH.gp_ne, ↓GH.gs_eq, ↓GH.gs_ne, GH.push_next, GH.set_next, he7, x3_0, x3_1, x3_2, x3_3, x3_4, cl, hqq]
              refine CallD.calm (hX.alive _ (hT.kept (hkH.trans hkp3))) ?_
              rintro v gz hxz rfl
              have hnz := hxz.next
              simp +decide (disch := first | assumption | exact cellV_int _ _ | exact cellV_bool _ | omega | (simp only [GH.pn, GH.sn] <;> omega) | (with_reducible ((repeat (first | apply GH.ok_push | apply GH.ok_set)); assumption)) | ((try simp only [GH.push_hid, GH.set_hid]); first | assumption | (refine GH.vis ?_ ?_ <;> first | assumption | ((try simp only [GH.pn, GH.sn]) <;> omega)))) only [go_sem, ↓reduceIte, Nat.reduceEqDiff, Nat.reduceAdd, Int.reduceToNat, Int.reduceAdd, Int.reduceNeg, Int.reduceSub, Int.reduceMul, Int.reduceLT, Int.reduceLE, Int.reduceEq, ↓GH.gp_eq, ↓GH.gp_ne, ↓GH.gs_eq, ↓GH.gs_ne, GH.push_next, GH.set_next]
              intro hx0
              exact ⟨by omega, rfl⟩

          · have d2 : decide (bN * aD < aN * bD) = false := decide_eq_false (fun h => cS (k2.1 h))
            have cE : ¬ E < 0 := fun h => hno (by omega)
            have cE2 : 0 < E := by omega
            have d3 : decide (dN * cD < cN * dD) = true := decide_eq_true (k3.2 cE2)
            have d4 : decide (cN * dD < dN * cD) = false := decide_eq_false (fun h => cE (k4.1 h))
            have cl : ¬ la < lb := fun h => cE (h1d.1 h)
            simp +decide (disch := first | assumption | exact cellV_int _ _ | exact cellV_bool _ | omega | (simp only [GH.pn, GH.sn] <;> omega) | (with_reducible ((repeat (first | apply GH.ok_push | apply GH.ok_set)); assumption)) | ((try simp only [GH.push_hid, GH.set_hid]); first | assumption | (refine GH.vis ?_ ?_ <;> first | assumption | ((try simp only [GH.pn, GH.sn]) <;> omega)))) only [go_sem, ↓reduceIte, Nat.reduceEqDiff, Nat.reduceAdd, Int.reduceToNat, Int.reduceAdd, Int.reduceNeg, Int.reduceSub, Int.reduceMul, Int.reduceLT, Int.reduceLE, Int.reduceEq, ↓GH.gp_eq, ↓GH.gp_ne, ↓GH.gs_eq, ↓GH.gs_ne, GH.push_next, GH.set_next, he5, x1_0, x1_1, x1_2, x1_3, x1_4]
            refine CallD.calm (above_rets hX aN aD bN bD sxx syx p1) ?_
            rintro v p2 hxp2 rfl
            have hnp2 := hxp2.next
            have hokp2 := hxp2.ok hokp1
            have hkp2 := hkp1.ext hxp2
            rw [d2]
            refine Wk.envS (fun e => ev e (.s 9) = ptrTo g6.next ∧ ev e (.s 13) = ptrTo u0.next ∧ ev e (.s 14) = ptrTo u1.next ∧ ev e (.s 16) = ptrTo u2.next ∧ ev e (.s 18) = ptrTo u3.next ∧ ev e (.s 192) = .bool true ∧ ev e (.s 195) = .bool false) (by simp +decide (disch := first | assumption | (apply GH.ok_push; assumption) | exact cellV_int _ _ | exact cellV_bool _ | omega) only [go_sem, ↓reduceIte, Nat.reduceEqDiff, Nat.reduceAdd, Int.reduceToNat, he5]; first | done | exact rfl) ?_
            intro en6 he6
            have x2_0 := (hxp2.gets (g6.next) (by omega)).trans x1_0
            have x2_1 := (hxp2.gets (u0.next) (by omega)).trans x1_1
            have x2_2 := (hxp2.gets (u1.next) (by omega)).trans x1_2
            have x2_3 := (hxp2.gets (u2.next) (by omega)).trans x1_3
            have x2_4 := (hxp2.gets (u3.next) (by omega)).trans x1_4
            simp +decide (disch := first | assumption | exact cellV_int _ _ | exact cellV_bool _ | omega | (simp only [GH.pn, GH.sn] <;> omega) | (with_reducible ((repeat (first | apply GH.ok_push | apply GH.ok_set)); assumption)) | ((try simp only [GH.push_hid, GH.set_hid]); first | assumption | (refine GH.vis ?_ ?_ <;> first | assumption | ((try simp only [GH.pn, GH.sn]) <;> omega)))) only [go_sem, ↓reduceIte, Nat.reduceEqDiff, Nat.reduceAdd, Int.reduceToNat, Int.reduceAdd, Int.reduceNeg, Int.reduceSub, Int.reduceMul, Int.reduceLT, Int.reduceLE, Int.reduceEq, ↓GH.gp_eq, ↓GH.gp_ne, ↓GH.gs_eq, ↓GH.gs_ne, GH.push_next, GH.set_next, he6, x2_0, x2_1, x2_2, x2_3, x2_4]
            refine CallD.calm (above_rets hX cN cD dN dD sxy syy p2) ?_
            rintro v p3 hxp3 rfl
            have hnp3 := hxp3.next
            have hokp3 := hxp3.ok hokp2
            have hkp3 := hkp2.ext hxp3
            rw [d3]
            refine Wk.envS (fun e => ev e (.s 9) = ptrTo g6.next ∧ ev e (.s 13) = ptrTo u0.next ∧ ev e (.s 14) = ptrTo u1.next ∧ ev e (.s 16) = ptrTo u2.next ∧ ev e (.s 18) = ptrTo u3.next ∧ ev e (.s 192) = .bool true ∧ ev e (.s 196) = .bool false ∧ ev e (.s 199) = .bool true) (by simp +decide (disch := first | assumption | (apply GH.ok_push; assumption) | exact cellV_int _ _ | exact cellV_bool _ | omega) only [go_sem, ↓reduceIte, Nat.reduceEqDiff, Nat.reduceAdd, Int.reduceToNat, he6]; first | done | exact rfl) ?_
            intro en7 he7
            have x3_0 := (hxp3.gets (g6.next) (by omega)).trans x2_0
            have x3_1 := (hxp3.gets (u0.next) (by omega)).trans x2_1
            have x3_2 := (hxp3.gets (u1.next) (by omega)).trans x2_2
            have x3_3 := (hxp3.gets (u2.next) (by omega)).trans x2_3
            have x3_4 := (hxp3.gets (u3.next) (by omega)).trans x2_4
            simp +decide (disch := first | assumption | exact cellV_int _ _ | exact cellV_bool _ | omega | (simp only [GH.pn, GH.sn] <;> omega) | (with_reducible ((repeat (first | apply GH.ok_push | apply GH.ok_set)); assumption)) | ((try simp only [GH.push_hid, GH.set_hid]); first | assumption | (refine GH.vis ?_ ?_ <;> first | assumption | ((try simp only [GH.pn, GH.sn]) <;> omega)))) only [go_sem, ↓reduceIte, Nat.reduceEqDiff, Nat.reduceAdd, Int.reduceToNat, Int.reduceAdd, Int.reduceNeg, Int.reduceSub, Int.reduceMul, Int.reduceLT, Int.reduceLE, Int.reduceEq, ↓GH.gp_eq, ↓GH.gp_ne, ↓GH.gs_eq, ↓GH.gs_ne, GH.push_next, GH.set_next, he7, x3_0, x3_1, x3_2, x3_3, x3_4]
            refine CallD.calm (above_rets hX dN dD cN cD syy sxy p3) ?_
            rintro v p4 hxp4 rfl
            have hnp4 := hxp4.next
            have hokp4 := hxp4.ok hokp3
            have hkp4 := hkp3.ext hxp4
            rw [d4]
            refine Wk.envS (fun e => ev e (.s 9) = ptrTo g6.next ∧ ev e (.s 13) = ptrTo u0.next ∧ ev e (.s 14) = ptrTo u1.next ∧ ev e (.s 16) = ptrTo u2.next ∧ ev e (.s 18) = ptrTo u3.next ∧ ev e (.s 202) = .bool true ∧ ev e (.s 205) = .bool false) (by simp +decide (disch := first | assumption | (apply GH.ok_push; assumption) | exact cellV_int _ _ | exact cellV_bool _ | omega) only [go_sem, ↓reduceIte, Nat.reduceEqDiff, Nat.reduceAdd, Int.reduceToNat, he7]; first | done | exact rfl) ?_
            intro en8 he8
            have x4_0 := (hxp4.gets (g6.next) (by omega)).trans x3_0
            have x4_1 := (hxp4.gets (u0.next) (by omega)).trans x3_1
            have x4_2 := (hxp4.gets (u1.next) (by omega)).trans x3_2
            have x4_3 := (hxp4.gets (u2.next) (by omega)).trans x3_3
            have x4_4 := (hxp4.gets (u3.next) (by omega)).trans x3_4
            simp +decide (disch := first | assumption | exact cellV_int _ _ | exact cellV_bool _ | omega | (simp only [GH.pn, GH.sn] <;> omega) | (with_reducible ((repeat (first | apply GH.ok_push | apply GH.ok_set)); assumption)) | ((try simp only [GH.push_hid, GH.set_hid]); first | assumption | (refine GH.vis ?_ ?_ <;> first | assumption | ((try simp only [GH.pn, GH.sn]) <;> omega)))) only [go_sem, ↓reduceIte, Nat.reduceEqDiff, Nat.reduceAdd, Int.reduceToNat, Int.reduceAdd, Int.reduceNeg, Int.reduceSub, Int.reduceMul, Int.reduceLT, Int.reduceLE, Int.reduceEq, ↓GH.gp_eq, ↓GH.gp_ne, ↓GH.gs_eq, ↓GH.gs_ne, GH.push_next, GH.set_next, he8, x4_0, x4_1, x4_2, x4_3, x4_4, cl, hqq]
            refine CallD.calm (hX.alive _ (hT.kept (hkH.trans hkp4))) ?_
            rintro v gz hxz rfl
            have hnz := hxz.next
            simp +decide (disch := first | assumption | exact cellV_int _ _ | exact cellV_bool _ | omega | (simp only [GH.pn, GH.sn] <;> omega) | (with_reducible ((repeat (first | apply GH.ok_push | apply GH.ok_set)); assumption)) | ((try simp only [GH.push_hid, GH.set_hid]); first | assumption | (refine GH.vis ?_ ?_ <;> first | assumption | ((try simp only [GH.pn, GH.sn]) <;> omega)))) only [go_sem, ↓reduceIte, Nat.reduceEqDiff, Nat.reduceAdd, Int.reduceToNat, Int.reduceAdd, Int.reduceNeg, Int.reduceSub, Int.reduceMul, Int.reduceLT, Int.reduceLE, Int.reduceEq, ↓GH.gp_eq, ↓GH.gp_ne, ↓GH.gs_eq, ↓GH.gs_ne, GH.push_next, GH.set_next]
            intro hx0
            exact ⟨by omega, rfl⟩

    | false =>
      have hlv2 : lv = false := by
        cases lv with
        | false => rfl
        | true => have := hlr rfl; rw [hrb] at this; cases this
      subst hlv2
      simp +decide (disch := first | assumption | exact cellV_int _ _ | exact cellV_bool _ | omega | (simp only [GH.pn, GH.sn] <;> omega) | (with_reducible ((repeat (first | apply GH.ok_push | apply GH.ok_set)); assumption)) | ((try simp only [GH.push_hid, GH.set_hid]); first | assumption | (refine GH.vis ?_ ?_ <;> first | assumption | ((try simp only [GH.pn, GH.sn]) <;> omega)))) only [go_sem, ↓reduceIte, Nat.reduceEqDiff, Nat.reduceAdd, Int.reduceToNat, Int.reduceAdd, Int.reduceNeg, Int.reduceSub, Int.reduceMul, Int.reduceLT, Int.reduceLE, Int.reduceEq, ↓GH.gp_eq, ↓GH.gp_ne, ↓GH.gs_eq, ↓GH.gs_ne, GH.push_next, GH.set_next, e0, e1, hA8]
      refine CallD.calm (wp hrb g8 (ht.kept (hkH.trans hk8)) (hs.kept (hkH.trans hk8))) ?_
      rintro v g9 hx9 rfl
      have hn9 := hx9.next
      have hok9 := hx9.ok hok8
      have hk9 := hk8.ext hx9
      have hA9 := (hk9.gets g.next (by omega)).trans hA
      have hB9 := (hk9.gets (g.next + 1) (by omega)).trans hB
      have hR9 := (hx9.gets g6.next (by omega)).trans hR8
      simp +decide (disch := first | assumption | exact cellV_int _ _ | exact cellV_bool _ | omega | (simp only [GH.pn, GH.sn] <;> omega) | (with_reducible ((repeat (first | apply GH.ok_push | apply GH.ok_set)); assumption)) | ((try simp only [GH.push_hid, GH.set_hid]); first | assumption | (refine GH.vis ?_ ?_ <;> first | assumption | ((try simp only [GH.pn, GH.sn]) <;> omega)))) only [go_sem, ↓reduceIte, Nat.reduceEqDiff, Nat.reduceAdd, Int.reduceToNat, Int.reduceAdd, Int.reduceNeg, Int.reduceSub, Int.reduceMul, Int.reduceLT, Int.reduceLE, Int.reduceEq, ↓GH.gp_eq, ↓GH.gp_ne, ↓GH.gs_eq, ↓GH.gs_ne, GH.push_next, GH.set_next, hA9, hB9]
      refine CallD.calm (wsame g9 (hs.kept (hkH.trans hk9)) (hr.kept (hkH.trans hk9))) ?_
      rintro v gS hxS rfl
      have hnS := hxS.next
      have hokS := hxS.ok hok9
      have hkS := hk9.ext hxS
      have hRS := (hxS.gets g6.next (by omega)).trans hR9
      have q0 : eqAF false 2 (.agg #[.int .i64 0, .int .i64 0]) (.agg #[.int .i64 0, .int .i64 0]) = some (.bool true) := rfl
      have qb : buildF [(0, 1), (1, 1)] none #[.int .i64 0, .int .i64 0] [] = some (.agg #[.int .i64 0, .int .i64 0]) := rfl
      rcases hlc with ⟨hsm, hv⟩ | ⟨hsm, hno, hv⟩ | ⟨hsm, hno, x, y, hv, h1a, h1b, h1c, h1d⟩
      · obtain ⟨rfl, rfl, rfl⟩ := lim_inj hv
        rw [decide_eq_true hsm]
        simp +decide (disch := first | assumption | exact cellV_int _ _ | exact cellV_bool _ | omega | (simp only [GH.pn, GH.sn] <;> omega) | (with_reducible ((repeat (first | apply GH.ok_push | apply GH.ok_set)); assumption)) | ((try simp only [GH.push_hid, GH.set_hid]); first | assumption | (refine GH.vis ?_ ?_ <;> first | assumption | ((try simp only [GH.pn, GH.sn]) <;> omega)))) only [go_sem, ↓reduceIte, Nat.reduceEqDiff, Nat.reduceAdd, Int.reduceToNat, Int.reduceAdd, Int.reduceNeg, Int.reduceSub, Int.reduceMul, Int.reduceLT, Int.reduceLE, Int.reduceEq, ↓GH.gp_eq, ↓GH.gp_ne, ↓GH.gs_eq, ↓GH.gs_ne, GH.push_next, GH.set_next, hRS, q0, qb]
        refine CallD.calm (hX.alive _ (hT.kept (hkH.trans hkS))) ?_
        rintro v gz hxz rfl
        have hnz := hxz.next
        simp +decide (disch := first | assumption | exact cellV_int _ _ | exact cellV_bool _ | omega | (simp only [GH.pn, GH.sn] <;> omega) | (with_reducible ((repeat (first | apply GH.ok_push | apply GH.ok_set)); assumption)) | ((try simp only [GH.push_hid, GH.set_hid]); first | assumption | (refine GH.vis ?_ ?_ <;> first | assumption | ((try simp only [GH.pn, GH.sn]) <;> omega)))) only [go_sem, ↓reduceIte, Nat.reduceEqDiff, Nat.reduceAdd, Int.reduceToNat, Int.reduceAdd, Int.reduceNeg, Int.reduceSub, Int.reduceMul, Int.reduceLT, Int.reduceLE, Int.reduceEq, ↓GH.gp_eq, ↓GH.gp_ne, ↓GH.gs_eq, ↓GH.gs_ne, GH.push_next, GH.set_next]
        intro hx0
        exact ⟨by omega, rfl⟩
      · obtain ⟨rfl, rfl, rfl⟩ := lim_inj hv
        rw [decide_eq_false hsm]
        simp +decide (disch := first | assumption | exact cellV_int _ _ | exact cellV_bool _ | omega | (simp only [GH.pn, GH.sn] <;> omega) | (with_reducible ((repeat (first | apply GH.ok_push | apply GH.ok_set)); assumption)) | ((try simp only [GH.push_hid, GH.set_hid]); first | assumption | (refine GH.vis ?_ ?_ <;> first | assumption | ((try simp only [GH.pn, GH.sn]) <;> omega)))) only [go_sem, ↓reduceIte, Nat.reduceEqDiff, Nat.reduceAdd, Int.reduceToNat, Int.reduceAdd, Int.reduceNeg, Int.reduceSub, Int.reduceMul, Int.reduceLT, Int.reduceLE, Int.reduceEq, ↓GH.gp_eq, ↓GH.gp_ne, ↓GH.gs_eq, ↓GH.gs_ne, GH.push_next, GH.set_next, hRS, q0, qb]
        refine CallD.calm (hX.alive _ (hT.kept (hkH.trans hkS))) ?_
        rintro v gz hxz rfl
        have hnz := hxz.next
        simp +decide (disch := first | assumption | exact cellV_int _ _ | exact cellV_bool _ | omega | (simp only [GH.pn, GH.sn] <;> omega) | (with_reducible ((repeat (first | apply GH.ok_push | apply GH.ok_set)); assumption)) | ((try simp only [GH.push_hid, GH.set_hid]); first | assumption | (refine GH.vis ?_ ?_ <;> first | assumption | ((try simp only [GH.pn, GH.sn]) <;> omega)))) only [go_sem, ↓reduceIte, Nat.reduceEqDiff, Nat.reduceAdd, Int.reduceToNat, Int.reduceAdd, Int.reduceNeg, Int.reduceSub, Int.reduceMul, Int.reduceLT, Int.reduceLE, Int.reduceEq, ↓GH.gp_eq, ↓GH.gp_ne, ↓GH.gs_eq, ↓GH.gs_ne, GH.push_next, GH.set_next]
        intro hx0
        exact ⟨by omega, rfl⟩
      · obtain ⟨rfl, rfl, rfl⟩ := lim_inj hv
        rw [decide_eq_false hsm]
        have i1 : ¬ lb < 1 ∧ ¬ la < 1 ∧ ¬ lb < la ∧ ¬ 4611686018427387904 < lb := by omega
        have hAS := (hkS.gets g.next (by omega)).trans hA
        have hBS := (hkS.gets (g.next + 1) (by omega)).trans hB
        simp +decide (disch := first | assumption | exact cellV_int _ _ | exact cellV_bool _ | omega | (simp only [GH.pn, GH.sn] <;> omega) | (with_reducible ((repeat (first | apply GH.ok_push | apply GH.ok_set)); assumption)) | ((try simp only [GH.push_hid, GH.set_hid]); first | assumption | (refine GH.vis ?_ ?_ <;> first | assumption | ((try simp only [GH.pn, GH.sn]) <;> omega)))) only [go_sem, ↓reduceIte, Nat.reduceEqDiff, Nat.reduceAdd, Int.reduceToNat, Int.reduceAdd, Int.reduceNeg, Int.reduceSub, Int.reduceMul, Int.reduceLT, Int.reduceLE, Int.reduceEq, ↓GH.gp_eq, ↓GH.gp_ne, ↓GH.gs_eq, ↓GH.gs_ne, GH.push_next, GH.set_next, hRS, i1, hAS]
        refine CallD.calm (vxx gS (ht.kept (hkH.trans hkS)) (hs.kept (hkH.trans hkS)) (hs.kept (hkH.trans hkS))) ?_
        rintro v u0 hxu0 rfl
        have hnu0 := hxu0.next
        have hoku0 := hxu0.ok hokS
        have hku0 := hkS.ext hxu0
        have hAu0 := (hku0.gets g.next (by omega)).trans hA
        have hBu0 := (hku0.gets (g.next + 1) (by omega)).trans hB
        have z0_0 := (hxu0.gets (g6.next) (by omega)).trans hRS
        simp +decide (disch := first | assumption | exact cellV_int _ _ | exact cellV_bool _ | omega | (simp only [GH.pn, GH.sn] <;> omega) | (with_reducible ((repeat (first | apply GH.ok_push | apply GH.ok_set)); assumption)) | ((try simp only [GH.push_hid, GH.set_hid]); first | assumption | (refine GH.vis ?_ ?_ <;> first | assumption | ((try simp only [GH.pn, GH.sn]) <;> omega)))) only [go_sem, ↓reduceIte, Nat.reduceEqDiff, Nat.reduceAdd, Int.reduceToNat, Int.reduceAdd, Int.reduceNeg, Int.reduceSub, Int.reduceMul, Int.reduceLT, Int.reduceLE, Int.reduceEq, ↓GH.gp_eq, ↓GH.gp_ne, ↓GH.gs_eq, ↓GH.gs_ne, GH.push_next, GH.set_next, e0, e1, hAu0, hBu0, z0_0]
        refine CallD.name fun G0 hG0 => ?_
        have hkc0 : Kept u0 G0 := by rw [hG0]; exact (by (repeat' first | exact Kept.refl _ | assumption | refine Kept.push ?_ ?_ _ | refine Kept.setV ?_ ?_ ?_ _) <;> (first | assumption | exact cellV_int _ _ | exact cellV_bool _ | omega | (simp only [GH.pn, GH.sn] <;> omega) | (with_reducible ((repeat (first | apply GH.ok_push | apply GH.ok_set)); assumption)) | ((try simp only [GH.push_hid, GH.set_hid]); first | assumption | (refine GH.vis ?_ ?_ <;> first | assumption | ((try simp only [GH.pn, GH.sn]) <;> omega)))))
        have hokG0 : G0.ok := by rw [hG0]; exact GH.ok_set (GH.ok_push hoku0)
        have hnG0 : G0.next = u0.next + 1 := by rw [hG0]; rfl
        have y0_n : G0.get u0.next = cellsOb [.int .i64 aN, .int .i64 aD] 32 := by rw [hG0]; exact (by simp (disch := first | assumption | exact cellV_int _ _ | exact cellV_bool _ | omega | (simp only [GH.pn, GH.sn] <;> omega) | (with_reducible ((repeat (first | apply GH.ok_push | apply GH.ok_set)); assumption)) | ((try simp only [GH.push_hid, GH.set_hid]); first | assumption | (refine GH.vis ?_ ?_ <;> first | assumption | ((try simp only [GH.pn, GH.sn]) <;> omega)))) only [↓GH.gp_eq, ↓GH.gp_ne, ↓GH.gs_eq, ↓GH.gs_ne, GH.push_next, GH.set_next]; first | done | exact rfl)
        have y0_0 := (hkc0.gets (g6.next) (by omega)).trans z0_0
        have hkG0 := hku0.trans hkc0
        refine CallD.calm (vyx G0 (ht.kept (hkH.trans hkG0)) (hr.kept (hkH.trans hkG0)) (hs.kept (hkH.trans hkG0))) ?_
        rintro v u1 hxu1 rfl
        have hnu1 := hxu1.next
        have hoku1 := hxu1.ok hokG0
        have hku1 := hkG0.ext hxu1
        have hAu1 := (hku1.gets g.next (by omega)).trans hA
        have hBu1 := (hku1.gets (g.next + 1) (by omega)).trans hB
        have z1_0 := (hxu1.gets (g6.next) (by omega)).trans y0_0
        have z1_1 := (hxu1.gets (u0.next) (by omega)).trans y0_n
        simp +decide (disch := first | assumption | exact cellV_int _ _ | exact cellV_bool _ | omega | (simp only [GH.pn, GH.sn] <;> omega) | (with_reducible ((repeat (first | apply GH.ok_push | apply GH.ok_set)); assumption)) | ((try simp only [GH.push_hid, GH.set_hid]); first | assumption | (refine GH.vis ?_ ?_ <;> first | assumption | ((try simp only [GH.pn, GH.sn]) <;> omega)))) only [go_sem, ↓reduceIte, Nat.reduceEqDiff, Nat.reduceAdd, Int.reduceToNat, Int.reduceAdd, Int.reduceNeg, Int.reduceSub, Int.reduceMul, Int.reduceLT, Int.reduceLE, Int.reduceEq, ↓GH.gp_eq, ↓GH.gp_ne, ↓GH.gs_eq, ↓GH.gs_ne, GH.push_next, GH.set_next, e0, e1, hAu1, hBu1, z1_0, z1_1]
        refine CallD.name fun G1 hG1 => ?_
        have hkc1 : Kept u1 G1 := by rw [hG1]; exact (by (repeat' first | exact Kept.refl _ | assumption | refine Kept.push ?_ ?_ _ | refine Kept.setV ?_ ?_ ?_ _) <;> (first | assumption | exact cellV_int _ _ | exact cellV_bool _ | omega | (simp only [GH.pn, GH.sn] <;> omega) | (with_reducible ((repeat (first | apply GH.ok_push | apply GH.ok_set)); assumption)) | ((try simp only [GH.push_hid, GH.set_hid]); first | assumption | (refine GH.vis ?_ ?_ <;> first | assumption | ((try simp only [GH.pn, GH.sn]) <;> omega)))))
        have hokG1 : G1.ok := by rw [hG1]; exact GH.ok_set (GH.ok_push hoku1)
        have hnG1 : G1.next = u1.next + 1 := by rw [hG1]; rfl
        have y1_n : G1.get u1.next = cellsOb [.int .i64 bN, .int .i64 bD] 32 := by rw [hG1]; exact (by simp (disch := first | assumption | exact cellV_int _ _ | exact cellV_bool _ | omega | (simp only [GH.pn, GH.sn] <;> omega) | (with_reducible ((repeat (first | apply GH.ok_push | apply GH.ok_set)); assumption)) | ((try simp only [GH.push_hid, GH.set_hid]); first | assumption | (refine GH.vis ?_ ?_ <;> first | assumption | ((try simp only [GH.pn, GH.sn]) <;> omega)))) only [↓GH.gp_eq, ↓GH.gp_ne, ↓GH.gs_eq, ↓GH.gs_ne, GH.push_next, GH.set_next]; first | done | exact rfl)
        have y1_0 := (hkc1.gets (g6.next) (by omega)).trans z1_0
        have y1_1 := (hkc1.gets (u0.next) (by omega)).trans z1_1
        have hkG1 := hku1.trans hkc1
        refine CallD.calm (vxy G1 (ht.kept (hkH.trans hkG1)) (hs.kept (hkH.trans hkG1)) (hr.kept (hkH.trans hkG1))) ?_
        rintro v u2 hxu2 rfl
        have hnu2 := hxu2.next
        have hoku2 := hxu2.ok hokG1
        have hku2 := hkG1.ext hxu2
        have hAu2 := (hku2.gets g.next (by omega)).trans hA
        have hBu2 := (hku2.gets (g.next + 1) (by omega)).trans hB
        have z2_0 := (hxu2.gets (g6.next) (by omega)).trans y1_0
        have z2_1 := (hxu2.gets (u0.next) (by omega)).trans y1_1
        have z2_2 := (hxu2.gets (u1.next) (by omega)).trans y1_n
        simp +decide (disch := first | assumption | exact cellV_int _ _ | exact cellV_bool _ | omega | (simp only [GH.pn, GH.sn] <;> omega) | (with_reducible ((repeat (first | apply GH.ok_push | apply GH.ok_set)); assumption)) | ((try simp only [GH.push_hid, GH.set_hid]); first | assumption | (refine GH.vis ?_ ?_ <;> first | assumption | ((try simp only [GH.pn, GH.sn]) <;> omega)))) only [go_sem, ↓reduceIte, Nat.reduceEqDiff, Nat.reduceAdd, Int.reduceToNat, Int.reduceAdd, Int.reduceNeg, Int.reduceSub, Int.reduceMul, Int.reduceLT, Int.reduceLE, Int.reduceEq, ↓GH.gp_eq, ↓GH.gp_ne, ↓GH.gs_eq, ↓GH.gs_ne, GH.push_next, GH.set_next, e0, e1, hAu2, hBu2, z2_0, z2_1, z2_2]
        refine CallD.name fun G2 hG2 => ?_
        have hkc2 : Kept u2 G2 := by rw [hG2]; exact (by (repeat' first | exact Kept.refl _ | assumption | refine Kept.push ?_ ?_ _ | refine Kept.setV ?_ ?_ ?_ _) <;> (first | assumption | exact cellV_int _ _ | exact cellV_bool _ | omega | (simp only [GH.pn, GH.sn] <;> omega) | (with_reducible ((repeat (first | apply GH.ok_push | apply GH.ok_set)); assumption)) | ((try simp only [GH.push_hid, GH.set_hid]); first | assumption | (refine GH.vis ?_ ?_ <;> first | assumption | ((try simp only [GH.pn, GH.sn]) <;> omega)))))
        have hokG2 : G2.ok := by rw [hG2]; exact GH.ok_set (GH.ok_push hoku2)
        have hnG2 : G2.next = u2.next + 1 := by rw [hG2]; rfl
        have y2_n : G2.get u2.next = cellsOb [.int .i64 cN, .int .i64 cD] 32 := by rw [hG2]; exact (by simp (disch := first | assumption | exact cellV_int _ _ | exact cellV_bool _ | omega | (simp only [GH.pn, GH.sn] <;> omega) | (with_reducible ((repeat (first | apply GH.ok_push | apply GH.ok_set)); assumption)) | ((try simp only [GH.push_hid, GH.set_hid]); first | assumption | (refine GH.vis ?_ ?_ <;> first | assumption | ((try simp only [GH.pn, GH.sn]) <;> omega)))) only [↓GH.gp_eq, ↓GH.gp_ne, ↓GH.gs_eq, ↓GH.gs_ne, GH.push_next, GH.set_next]; first | done | exact rfl)
        have y2_0 := (hkc2.gets (g6.next) (by omega)).trans z2_0
        have y2_1 := (hkc2.gets (u0.next) (by omega)).trans z2_1
        have y2_2 := (hkc2.gets (u1.next) (by omega)).trans z2_2
        have hkG2 := hku2.trans hkc2
        refine CallD.calm (vyy G2 (ht.kept (hkH.trans hkG2)) (hr.kept (hkH.trans hkG2)) (hr.kept (hkH.trans hkG2))) ?_
        rintro v u3 hxu3 rfl
        have hnu3 := hxu3.next
        have hoku3 := hxu3.ok hokG2
        have hku3 := hkG2.ext hxu3
        have hAu3 := (hku3.gets g.next (by omega)).trans hA
        have hBu3 := (hku3.gets (g.next + 1) (by omega)).trans hB
        have z3_0 := (hxu3.gets (g6.next) (by omega)).trans y2_0
        have z3_1 := (hxu3.gets (u0.next) (by omega)).trans y2_1
        have z3_2 := (hxu3.gets (u1.next) (by omega)).trans y2_2
        have z3_3 := (hxu3.gets (u2.next) (by omega)).trans y2_n
        simp +decide (disch := first | assumption | exact cellV_int _ _ | exact cellV_bool _ | omega | (simp only [GH.pn, GH.sn] <;> omega) | (with_reducible ((repeat (first | apply GH.ok_push | apply GH.ok_set)); assumption)) | ((try simp only [GH.push_hid, GH.set_hid]); first | assumption | (refine GH.vis ?_ ?_ <;> first | assumption | ((try simp only [GH.pn, GH.sn]) <;> omega)))) only [go_sem, ↓reduceIte, Nat.reduceEqDiff, Nat.reduceAdd, Int.reduceToNat, Int.reduceAdd, Int.reduceNeg, Int.reduceSub, Int.reduceMul, Int.reduceLT, Int.reduceLE, Int.reduceEq, ↓GH.gp_eq, ↓GH.gp_ne, ↓GH.gs_eq, ↓GH.gs_ne, GH.push_next, GH.set_next, e0, e1, hAu3, hBu3, z3_0, z3_1, z3_2, z3_3]
        refine CallD.name fun G3 hG3 => ?_
        have hkc3 : Kept u3 G3 := by rw [hG3]; exact (by (repeat' first | exact Kept.refl _ | assumption | refine Kept.push ?_ ?_ _ | refine Kept.setV ?_ ?_ ?_ _) <;> (first | assumption | exact cellV_int _ _ | exact cellV_bool _ | omega | (simp only [GH.pn, GH.sn] <;> omega) | (with_reducible ((repeat (first | apply GH.ok_push | apply GH.ok_set)); assumption)) | ((try simp only [GH.push_hid, GH.set_hid]); first | assumption | (refine GH.vis ?_ ?_ <;> first | assumption | ((try simp only [GH.pn, GH.sn]) <;> omega)))))
        have hokG3 : G3.ok := by rw [hG3]; exact GH.ok_push (GH.ok_set (GH.ok_push hoku3))
        have hnG3 : G3.next = u3.next + 1 + 1 := by rw [hG3]; rfl
        have y3_n : G3.get u3.next = cellsOb [.int .i64 dN, .int .i64 dD] 32 := by rw [hG3]; exact (by simp (disch := first | assumption | exact cellV_int _ _ | exact cellV_bool _ | omega | (simp only [GH.pn, GH.sn] <;> omega) | (with_reducible ((repeat (first | apply GH.ok_push | apply GH.ok_set)); assumption)) | ((try simp only [GH.push_hid, GH.set_hid]); first | assumption | (refine GH.vis ?_ ?_ <;> first | assumption | ((try simp only [GH.pn, GH.sn]) <;> omega)))) only [↓GH.gp_eq, ↓GH.gp_ne, ↓GH.gs_eq, ↓GH.gs_ne, GH.push_next, GH.set_next]; first | done | exact rfl)
        have y3_0 := (hkc3.gets (g6.next) (by omega)).trans z3_0
        have y3_1 := (hkc3.gets (u0.next) (by omega)).trans z3_1
        have y3_2 := (hkc3.gets (u1.next) (by omega)).trans z3_2
        have y3_3 := (hkc3.gets (u2.next) (by omega)).trans z3_3
        have hkG3 := hku3.trans hkc3
        have hS4 : G3.get (u3.next + 1) = cellsOb [.int .i64 aN, .int .i64 aD, .int .i64 bN, .int .i64 bD, .int .i64 cN, .int .i64 cD, .int .i64 dN, .int .i64 dD] 32 := by rw [hG3]; exact (by simp (disch := first | assumption | exact cellV_int _ _ | exact cellV_bool _ | omega | (simp only [GH.pn, GH.sn] <;> omega) | (with_reducible ((repeat (first | apply GH.ok_push | apply GH.ok_set)); assumption)) | ((try simp only [GH.push_hid, GH.set_hid]); first | assumption | (refine GH.vis ?_ ?_ <;> first | assumption | ((try simp only [GH.pn, GH.sn]) <;> omega)))) only [↓GH.gp_eq, ↓GH.gp_ne, ↓GH.gs_eq, ↓GH.gs_ne, GH.push_next, GH.set_next]; first | done | exact rfl)
        clear hG0 hG1 hG2 hG3
        refine CallD.calm (sound4_rets hX aN aD bN bD cN cD dN dD sxx syx sxy syy (u3.next + 1) 32 G3 (by omega) hS4) ?_
        rintro v p0 hxp0 rfl
        have hnp0 := hxp0.next
        have hokp0 := hxp0.ok hokG3
        have hkp0 := hkG3.ext hxp0
        refine Wk.envS (fun e => ev e (.s 9) = ptrTo g6.next ∧ ev e (.s 13) = ptrTo u0.next ∧ ev e (.s 14) = ptrTo u1.next ∧ ev e (.s 16) = ptrTo u2.next ∧ ev e (.s 18) = ptrTo u3.next ∧ ev e (.s 179) = .bool false ∧ ev e (.s 185) = .bool true) (by simp +decide (disch := first | assumption | (apply GH.ok_push; assumption) | exact cellV_int _ _ | exact cellV_bool _ | omega) only [go_sem, ↓reduceIte, Nat.reduceEqDiff, Nat.reduceAdd, Int.reduceToNat, e0, e1]; first | done | exact rfl) ?_
        intro en4 he4
        have x0_0 := (hxp0.gets (g6.next) (by omega)).trans y3_0
        have x0_1 := (hxp0.gets (u0.next) (by omega)).trans y3_1
        have x0_2 := (hxp0.gets (u1.next) (by omega)).trans y3_2
        have x0_3 := (hxp0.gets (u2.next) (by omega)).trans y3_3
        have x0_4 := (hxp0.gets (u3.next) (by omega)).trans y3_n
        have hqq : ∀ p : Bool, eqBF false (.bool p) (.bool p) = some (.bool true) := fun p => by cases p <;> rfl
        simp +decide (disch := first | assumption | exact cellV_int _ _ | exact cellV_bool _ | omega | (simp only [GH.pn, GH.sn] <;> omega) | (with_reducible ((repeat (first | apply GH.ok_push | apply GH.ok_set)); assumption)) | ((try simp only [GH.push_hid, GH.set_hid]); first | assumption | (refine GH.vis ?_ ?_ <;> first | assumption | ((try simp only [GH.pn, GH.sn]) <;> omega)))) only [go_sem, ↓reduceIte, Nat.reduceEqDiff, Nat.reduceAdd, Int.reduceToNat, Int.reduceAdd, Int.reduceNeg, Int.reduceSub, Int.reduceMul, Int.reduceLT, Int.reduceLE, Int.reduceEq, ↓GH.gp_eq, ↓GH.gp_ne, ↓GH.gs_eq, ↓GH.gs_ne, GH.push_next, GH.set_next, he4, x0_0, x0_1, x0_2, x0_3, x0_4]
        refine CallD.calm (above_rets hX bN bD aN aD syx sxx p0) ?_
        rintro v p1 hxp1 rfl
        have hnp1 := hxp1.next
        have hokp1 := hxp1.ok hokp0
        have hkp1 := hkp0.ext hxp1
        have d1 : decide (aN * bD < bN * aD) = false := decide_eq_false (fun h => hno (.inl (k1.1 h)))
        rw [d1]
        refine Wk.envS (fun e => ev e (.s 9) = ptrTo g6.next ∧ ev e (.s 13) = ptrTo u0.next ∧ ev e (.s 14) = ptrTo u1.next ∧ ev e (.s 16) = ptrTo u2.next ∧ ev e (.s 18) = ptrTo u3.next ∧ ev e (.s 190) = .bool false) (by simp +decide (disch := first | assumption | (apply GH.ok_push; assumption) | exact cellV_int _ _ | exact cellV_bool _ | omega) only [go_sem, ↓reduceIte, Nat.reduceEqDiff, Nat.reduceAdd, Int.reduceToNat, he4]; first | done | exact rfl) ?_
        intro en5 he5
        have x1_0 := (hxp1.gets (g6.next) (by omega)).trans x0_0
        have x1_1 := (hxp1.gets (u0.next) (by omega)).trans x0_1
        have x1_2 := (hxp1.gets (u1.next) (by omega)).trans x0_2
        have x1_3 := (hxp1.gets (u2.next) (by omega)).trans x0_3
        have x1_4 := (hxp1.gets (u3.next) (by omega)).trans x0_4
        by_cases cS : 0 < S
        · have d2 : decide (bN * aD < aN * bD) = true := decide_eq_true (k2.2 cS)
          simp +decide (disch := first | assumption | exact cellV_int _ _ | exact cellV_bool _ | omega | (simp only [GH.pn, GH.sn] <;> omega) | (with_reducible ((repeat (first | apply GH.ok_push | apply GH.ok_set)); assumption)) | ((try simp only [GH.push_hid, GH.set_hid]); first | assumption | (refine GH.vis ?_ ?_ <;> first | assumption | ((try simp only [GH.pn, GH.sn]) <;> omega)))) only [go_sem, ↓reduceIte, Nat.reduceEqDiff, Nat.reduceAdd, Int.reduceToNat, Int.reduceAdd, Int.reduceNeg, Int.reduceSub, Int.reduceMul, Int.reduceLT, Int.reduceLE, Int.reduceEq, ↓GH.gp_eq, ↓GH.gp_ne, ↓GH.gs_eq, ↓GH.gs_ne, GH.push_next, GH.set_next, he5, x1_0, x1_1, x1_2, x1_3, x1_4]
          refine CallD.calm (above_rets hX aN aD bN bD sxx syx p1) ?_
          rintro v p2 hxp2 rfl
          have hnp2 := hxp2.next
          have hokp2 := hxp2.ok hokp1
          have hkp2 := hkp1.ext hxp2
          rw [d2]
          refine Wk.envS (fun e => ev e (.s 9) = ptrTo g6.next ∧ ev e (.s 13) = ptrTo u0.next ∧ ev e (.s 14) = ptrTo u1.next ∧ ev e (.s 16) = ptrTo u2.next ∧ ev e (.s 18) = ptrTo u3.next ∧ ev e (.s 192) = .bool true ∧ ev e (.s 195) = .bool true) (by simp +decide (disch := first | assumption | (apply GH.ok_push; assumption) | exact cellV_int _ _ | exact cellV_bool _ | omega) only [go_sem, ↓reduceIte, Nat.reduceEqDiff, Nat.reduceAdd, Int.reduceToNat, he5]; first | done | exact rfl) ?_
          intro en6 he6
          have x2_0 := (hxp2.gets (g6.next) (by omega)).trans x1_0
          have x2_1 := (hxp2.gets (u0.next) (by omega)).trans x1_1
          have x2_2 := (hxp2.gets (u1.next) (by omega)).trans x1_2
          have x2_3 := (hxp2.gets (u2.next) (by omega)).trans x1_3
          have x2_4 := (hxp2.gets (u3.next) (by omega)).trans x1_4

          by_cases cE : E < 0
          · have d3 : decide (cN * dD < dN * cD) = true := decide_eq_true (k4.2 cE)
            have cl : la < lb := h1d.2 cE
            simp +decide (disch := first | assumption | exact cellV_int _ _ | exact cellV_bool _ | omega | (simp only [GH.pn, GH.sn] <;> omega) | (with_reducible ((repeat (first | apply GH.ok_push | apply GH.ok_set)); assumption)) | ((try simp only [GH.push_hid, GH.set_hid]); first | assumption | (refine GH.vis ?_ ?_ <;> first | assumption | ((try simp only [GH.pn, GH.sn]) <;> omega)))) only [go_sem, ↓reduceIte, Nat.reduceEqDiff, Nat.reduceAdd, Int.reduceToNat, Int.reduceAdd, Int.reduceNeg, Int.reduceSub, Int.reduceMul, Int.reduceLT, Int.reduceLE, Int.reduceEq, ↓GH.gp_eq, ↓GH.gp_ne, ↓GH.gs_eq, ↓GH.gs_ne, GH.push_next, GH.set_next, he6, x2_0, x2_1, x2_2, x2_3, x2_4]
            refine CallD.calm (above_rets hX dN dD cN cD syy sxy p2) ?_
            rintro v p3 hxp3 rfl
            have hnp3 := hxp3.next
            have hokp3 := hxp3.ok hokp2
            have hkp3 := hkp2.ext hxp3
            rw [d3]
            refine Wk.envS (fun e => ev e (.s 9) = ptrTo g6.next ∧ ev e (.s 13) = ptrTo u0.next ∧ ev e (.s 14) = ptrTo u1.next ∧ ev e (.s 16) = ptrTo u2.next ∧ ev e (.s 18) = ptrTo u3.next ∧ ev e (.s 202) = .bool true ∧ ev e (.s 205) = .bool true) (by simp +decide (disch := first | assumption | (apply GH.ok_push; assumption) | exact cellV_int _ _ | exact cellV_bool _ | omega) only [go_sem, ↓reduceIte, Nat.reduceEqDiff, Nat.reduceAdd, Int.reduceToNat, he6]; first | done | exact rfl) ?_
            intro en7 he7
            have x3_0 := (hxp3.gets (g6.next) (by omega)).trans x2_0
            have x3_1 := (hxp3.gets (u0.next) (by omega)).trans x2_1
            have x3_2 := (hxp3.gets (u1.next) (by omega)).trans x2_2
            have x3_3 := (hxp3.gets (u2.next) (by omega)).trans x2_3
            have x3_4 := (hxp3.gets (u3.next) (by omega)).trans x2_4
            simp +decide (disch := first | assumption | exact cellV_int _ _ | exact cellV_bool _ | omega | (simp only [GH.pn, GH.sn] <;> omega) | (with_reducible ((repeat (first | apply GH.ok_push | apply GH.ok_set)); assumption)) | ((try simp only [GH.push_hid, GH.set_hid]); first | assumption | (refine GH.vis ?_ ?_ <;> first | assumption | ((try simp only [GH.pn, GH.sn]) <;> omega)))) only [go_sem, ↓reduceIte, Nat.reduceEqDiff, Nat.reduceAdd, Int.reduceToNat, Int.reduceAdd, Int.reduceNeg, Int.reduceSub, Int.reduceMul, Int.reduceLT, Int.reduceLE, Int.reduceEq, ↓GH.gp_eq, ↓GH.gp_ne, ↓GH.gs_eq, ↓GH.gs_ne, GH.push_next, GH.set_next, he7, x3_0, x3_1, x3_2, x3_3, x3_4, cl, hqq]
            refine CallD.calm (hX.alive _ (hT.kept (hkH.trans hkp3))) ?_
            rintro v gz hxz rfl
            have hnz := hxz.next
            simp +decide (disch := first | assumption | exact cellV_int _ _ | exact cellV_bool _ | omega | (simp only [GH.pn, GH.sn] <;> omega) | (with_reducible ((repeat (first | apply GH.ok_push | apply GH.ok_set)); assumption)) | ((try simp only [GH.push_hid, GH.set_hid]); first | assumption | (refine GH.vis ?_ ?_ <;> first | assumption | ((try simp only [GH.pn, GH.sn]) <;> omega)))) only [go_sem, ↓reduceIte, Nat.reduceEqDiff, Nat.reduceAdd, Int.reduceToNat, Int.reduceAdd, Int.reduceNeg, Int.reduceSub, Int.reduceMul, Int.reduceLT, Int.reduceLE, Int.reduceEq, ↓GH.gp_eq, ↓GH.gp_ne, ↓GH.gs_eq, ↓GH.gs_ne, GH.push_next, GH.set_next]
            intro hx0
            exact ⟨by omega, rfl⟩

          · have d3 : decide (cN * dD < dN * cD) = false := decide_eq_false (fun h => cE (k4.1 h))
            have cl : ¬ la < lb := fun h => cE (h1d.1 h)
            simp +decide (disch := first | assumption | exact cellV_int _ _ | exact cellV_bool _ | omega | (simp only [GH.pn, GH.sn] <;> omega) | (with_reducible ((repeat (first | apply GH.ok_push | apply GH.ok_set)); assumption)) | ((try simp only [GH.push_hid, GH.set_hid]); first | assumption | (refine GH.vis ?_ ?_ <;> first | assumption | ((try simp only [GH.pn, GH.sn]) <;> omega)))) only [go_sem, ↓reduceIte, Nat.reduceEqDiff, Nat.reduceAdd, Int.reduceToNat, Int.reduceAdd, Int.reduceNeg, Int.reduceSub, Int.reduceMul, Int.reduceLT, Int.reduceLE, Int.reduceEq, ↓GH.gp_eq, ↓GH.gp_ne, ↓GH.gs_eq, ↓GH.gs_ne, GH.push_next, GH.set_next, he6, x2_0, x2_1, x2_2, x2_3, x2_4]
            refine CallD.calm (above_rets hX dN dD cN cD syy sxy p2) ?_
            rintro v p3 hxp3 rfl
            have hnp3 := hxp3.next
            have hokp3 := hxp3.ok hokp2
            have hkp3 := hkp2.ext hxp3
            rw [d3]
            refine Wk.envS (fun e => ev e (.s 9) = ptrTo g6.next ∧ ev e (.s 13) = ptrTo u0.next ∧ ev e (.s 14) = ptrTo u1.next ∧ ev e (.s 16) = ptrTo u2.next ∧ ev e (.s 18) = ptrTo u3.next ∧ ev e (.s 202) = .bool true ∧ ev e (.s 205) = .bool false) (by simp +decide (disch := first | assumption | (apply GH.ok_push; assumption) | exact cellV_int _ _ | exact cellV_bool _ | omega) only [go_sem, ↓reduceIte, Nat.reduceEqDiff, Nat.reduceAdd, Int.reduceToNat, he6]; first | done | exact rfl) ?_
            intro en7 he7
            have x3_0 := (hxp3.gets (g6.next) (by omega)).trans x2_0
            have x3_1 := (hxp3.gets (u0.next) (by omega)).trans x2_1
            have x3_2 := (hxp3.gets (u1.next) (by omega)).trans x2_2
            have x3_3 := (hxp3.gets (u2.next) (by omega)).trans x2_3
            have x3_4 := (hxp3.gets (u3.next) (by omega)).trans x2_4
            simp +decide (disch := first | assumption | exact cellV_int _ _ | exact cellV_bool _ | omega | (simp only [GH.pn, GH.sn] <;> omega) | (with_reducible ((repeat (first | apply GH.ok_push | apply GH.ok_set)); assumption)) | ((try simp only [GH.push_hid, GH.set_hid]); first | assumption | (refine GH.vis ?_ ?_ <;> first | assumption | ((try simp only [GH.pn, GH.sn]) <;> omega)))) only [go_sem, ↓reduceIte, Nat.reduceEqDiff, Nat.reduceAdd, Int.reduceToNat, Int.reduceAdd, Int.reduceNeg, Int.reduceSub, Int.reduceMul, Int.reduceLT, Int.reduceLE, Int.reduceEq, ↓GH.gp_eq, ↓GH.gp_ne, ↓GH.gs_eq, ↓GH.gs_ne, GH.push_next, GH.set_next, he7, x3_0, x3_1, x3_2, x3_3, x3_4, cl, hqq]
            refine CallD.calm (hX.alive _ (hT.kept (hkH.trans hkp3))) ?_
            rintro v gz hxz rfl
            have hnz := hxz.next
            simp +decide (disch := first | assumption | exact cellV_int _ _ | exact cellV_bool _ | omega | (simp only [GH.pn, GH.sn] <;> omega) | (with_reducible ((repeat (first | apply GH.ok_push | apply GH.ok_set)); assumption)) | ((try simp only [GH.push_hid, GH.set_hid]); first | assumption | (refine GH.vis ?_ ?_ <;> first | assumption | ((try simp only [GH.pn, GH.sn]) <;> omega)))) only [go_sem, ↓reduceIte, Nat.reduceEqDiff, Nat.reduceAdd, Int.reduceToNat, Int.reduceAdd, Int.reduceNeg, Int.reduceSub, Int.reduceMul, Int.reduceLT, Int.reduceLE, Int.reduceEq, ↓GH.gp_eq, ↓GH.gp_ne, ↓GH.gs_eq, ↓GH.gs_ne, GH.push_next, GH.set_next]
            intro hx0
            exact ⟨by omega, rfl⟩

        · have d2 : decide (bN * aD < aN * bD) = false := decide_eq_false (fun h => cS (k2.1 h))
          have cE : ¬ E < 0 := fun h => hno (by omega)
          have cE2 : 0 < E := by omega
          have d3 : decide (dN * cD < cN * dD) = true := decide_eq_true (k3.2 cE2)
          have d4 : decide (cN * dD < dN * cD) = false := decide_eq_false (fun h => cE (k4.1 h))
          have cl : ¬ la < lb := fun h => cE (h1d.1 h)
          simp +decide (disch := first | assumption | exact cellV_int _ _ | exact cellV_bool _ | omega | (simp only [GH.pn, GH.sn] <;> omega) | (with_reducible ((repeat (first | apply GH.ok_push | apply GH.ok_set)); assumption)) | ((try simp only [GH.push_hid, GH.set_hid]); first | assumption | (refine GH.vis ?_ ?_ <;> first | assumption | ((try simp only [GH.pn, GH.sn]) <;> omega)))) only [go_sem, ↓reduceIte, Nat.reduceEqDiff, Nat.reduceAdd, Int.reduceToNat, Int.reduceAdd, Int.reduceNeg, Int.reduceSub, Int.reduceMul, Int.reduceLT, Int.reduceLE, Int.reduceEq, ↓GH.gp_eq, ↓GH.gp_ne, ↓GH.gs_eq, ↓GH.gs_ne, GH.push_next, GH.set_next, he5, x1_0, x1_1, x1_2, x1_3, x1_4]
          refine CallD.calm (above_rets hX aN aD bN bD sxx syx p1) ?_
          rintro v p2 hxp2 rfl
          have hnp2 := hxp2.next
          have hokp2 := hxp2.ok hokp1
          have hkp2 := hkp1.ext hxp2
          rw [d2]
          refine Wk.envS (fun e => ev e (.s 9) = ptrTo g6.next ∧ ev e (.s 13) = ptrTo u0.next ∧ ev e (.s 14) = ptrTo u1.next ∧ ev e (.s 16) = ptrTo u2.next ∧ ev e (.s 18) = ptrTo u3.next ∧ ev e (.s 192) = .bool true ∧ ev e (.s 195) = .bool false) (by simp +decide (disch := first | assumption | (apply GH.ok_push; assumption) | exact cellV_int _ _ | exact cellV_bool _ | omega) only [go_sem, ↓reduceIte, Nat.reduceEqDiff, Nat.reduceAdd, Int.reduceToNat, he5]; first | done | exact rfl) ?_
          intro en6 he6
          have x2_0 := (hxp2.gets (g6.next) (by omega)).trans x1_0
          have x2_1 := (hxp2.gets (u0.next) (by omega)).trans x1_1
          have x2_2 := (hxp2.gets (u1.next) (by omega)).trans x1_2
          have x2_3 := (hxp2.gets (u2.next) (by omega)).trans x1_3
          have x2_4 := (hxp2.gets (u3.next) (by omega)).trans x1_4
          simp +decide (disch := first | assumption | exact cellV_int _ _ | exact cellV_bool _ | omega | (simp only [GH.pn, GH.sn] <;> omega) | (with_reducible ((repeat (first | apply GH.ok_push | apply GH.ok_set)); assumption)) | ((try simp only [GH.push_hid, GH.set_hid]); first | assumption | (refine GH.vis ?_ ?_ <;> first | assumption | ((try simp only [GH.pn, GH.sn]) <;> omega)))) only [go_sem, ↓reduceIte, Nat.reduceEqDiff, Nat.reduceAdd, Int.reduceToNat, Int.reduceAdd, Int.reduceNeg, Int.reduceSub, Int.reduceMul, Int.reduceLT, Int.reduceLE, Int.reduceEq, ↓GH.gp_eq, ↓GH.gp_ne, ↓GH.gs_eq, ↓GH.gs_ne, GH.push_next, GH.set_next, he6, x2_0, x2_1, x2_2, x2_3, x2_4]
          refine CallD.calm (above_rets hX cN cD dN dD sxy syy p2) ?_
          rintro v p3 hxp3 rfl
          have hnp3 := hxp3.next
          have hokp3 := hxp3.ok hokp2
          have hkp3 := hkp2.ext hxp3
          rw [d3]
          refine Wk.envS (fun e => ev e (.s 9) = ptrTo g6.next ∧ ev e (.s 13) = ptrTo u0.next ∧ ev e (.s 14) = ptrTo u1.next ∧ ev e (.s 16) = ptrTo u2.next ∧ ev e (.s 18) = ptrTo u3.next ∧ ev e (.s 192) = .bool true ∧ ev e (.s 196) = .bool false ∧ ev e (.s 199) = .bool true) (by simp +decide (disch := first | assumption | (apply GH.ok_push; assumption) | exact cellV_int _ _ | exact cellV_bool _ | omega) only [go_sem, ↓reduceIte, Nat.reduceEqDiff, Nat.reduceAdd, Int.reduceToNat, he6]; first | done | exact rfl) ?_
          intro en7 he7
          have x3_0 := (hxp3.gets (g6.next) (by omega)).trans x2_0
          have x3_1 := (hxp3.gets (u0.next) (by omega)).trans x2_1
          have x3_2 := (hxp3.gets (u1.next) (by omega)).trans x2_2
          have x3_3 := (hxp3.gets (u2.next) (by omega)).trans x2_3
          have x3_4 := (hxp3.gets (u3.next) (by omega)).trans x2_4
          simp +decide (disch := first | assumption | exact cellV_int _ _ | exact cellV_bool _ | omega | (simp only [GH.pn, GH.sn] <;> omega) | (with_reducible ((repeat (first | apply GH.ok_push | apply GH.ok_set)); assumption)) | ((try simp only [GH.push_hid, GH.set_hid]); first | assumption | (refine GH.vis ?_ ?_ <;> first | assumption | ((try simp only [GH.pn, GH.sn]) <;> omega)))) only [go_sem, ↓reduceIte, Nat.reduceEqDiff, Nat.reduceAdd, Int.reduceToNat, Int.reduceAdd, Int.reduceNeg, Int.reduceSub, Int.reduceMul, Int.reduceLT, Int.reduceLE, Int.reduceEq, ↓GH.gp_eq, ↓GH.gp_ne, ↓GH.gs_eq, ↓GH.gs_ne, GH.push_next, GH.set_next, he7, x3_0, x3_1, x3_2, x3_3, x3_4]
          refine CallD.calm (above_rets hX dN dD cN cD syy sxy p3) ?_
          rintro v p4 hxp4 rfl
          have hnp4 := hxp4.next
          have hokp4 := hxp4.ok hokp3
          have hkp4 := hkp3.ext hxp4
          rw [d4]
          refine Wk.envS (fun e => ev e (.s 9) = ptrTo g6.next ∧ ev e (.s 13) = ptrTo u0.next ∧ ev e (.s 14) = ptrTo u1.next ∧ ev e (.s 16) = ptrTo u2.next ∧ ev e (.s 18) = ptrTo u3.next ∧ ev e (.s 202) = .bool true ∧ ev e (.s 205) = .bool false) (by simp +decide (disch := first | assumption | (apply GH.ok_push; assumption) | exact cellV_int _ _ | exact cellV_bool _ | omega) only [go_sem, ↓reduceIte, Nat.reduceEqDiff, Nat.reduceAdd, Int.reduceToNat, he7]; first | done | exact rfl) ?_
          intro en8 he8
          have x4_0 := (hxp4.gets (g6.next) (by omega)).trans x3_0
          have x4_1 := (hxp4.gets (u0.next) (by omega)).trans x3_1
          have x4_2 := (hxp4.gets (u1.next) (by omega)).trans x3_2
          have x4_3 := (hxp4.gets (u2.next) (by omega)).trans x3_3
          have x4_4 := (hxp4.gets (u3.next) (by omega)).trans x3_4
          simp +decide (disch := first | assumption | exact cellV_int _ _ | exact cellV_bool _ | omega | (simp only [GH.pn, GH.sn] <;> omega) | (with_reducible ((repeat (first | apply GH.ok_push | apply GH.ok_set)); assumption)) | ((try simp only [GH.push_hid, GH.set_hid]); first | assumption | (refine GH.vis ?_ ?_ <;> first | assumption | ((try simp only [GH.pn, GH.sn]) <;> omega)))) only [go_sem, ↓reduceIte, Nat.reduceEqDiff, Nat.reduceAdd, Int.reduceToNat, Int.reduceAdd, Int.reduceNeg, Int.reduceSub, Int.reduceMul, Int.reduceLT, Int.reduceLE, Int.reduceEq, ↓GH.gp_eq, ↓GH.gp_ne, ↓GH.gs_eq, ↓GH.gs_ne, GH.push_next, GH.set_next, he8, x4_0, x4_1, x4_2, x4_3, x4_4, cl, hqq]
          refine CallD.calm (hX.alive _ (hT.kept (hkH.trans hkp4))) ?_
          rintro v gz hxz rfl
          have hnz := hxz.next
          simp +decide (disch := first | assumption | exact cellV_int _ _ | exact cellV_bool _ | omega | (simp only [GH.pn, GH.sn] <;> omega) | (with_reducible ((repeat (first | apply GH.ok_push | apply GH.ok_set)); assumption)) | ((try simp only [GH.push_hid, GH.set_hid]); first | assumption | (refine GH.vis ?_ ?_ <;> first | assumption | ((try simp only [GH.pn, GH.sn]) <;> omega)))) only [go_sem, ↓reduceIte, Nat.reduceEqDiff, Nat.reduceAdd, Int.reduceToNat, Int.reduceAdd, Int.reduceNeg, Int.reduceSub, Int.reduceMul, Int.reduceLT, Int.reduceLE, Int.reduceEq, ↓GH.gp_eq, ↓GH.gp_ne, ↓GH.gs_eq, ↓GH.gs_ne, GH.push_next, GH.set_next]
          intro hx0
          exact ⟨by omega, rfl⟩

end Go.Proofs.YtngmaccaldhjcaaDoor
