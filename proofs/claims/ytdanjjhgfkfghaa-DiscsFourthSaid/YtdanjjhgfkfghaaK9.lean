import Derived.Test.YtdanjjhgfkfghaaK7
import Derived.Test.YtdanjjhgfkfghaaK8
import Derived.Test.YtdanjjhgfkfghaaKd
set_option linter.all false
set_option linter.unusedSimpArgs false
set_option linter.unnecessarySimpa false
set_option linter.unusedVariables false
set_option linter.unusedSectionVars false
set_option maxRecDepth 100000
set_option maxHeartbeats 8000000
set_option linter.unusedSimpArgs false
set_option linter.unusedVariables false
namespace Go.Proofs.Ytdanjjhgfkfghaa
open Go.Ds
/-! ## The fourth bend -/
theorem rot4 {Q : List Int} (hl : Q.length = 4) {k : Nat} (hk : k < 4) : (∀ x, [Q.getD ((k + 1) % 4) 0, Q.getD ((k + 2) % 4) 0, Q.getD ((k + 3) % 4) 0, x].Perm (Q.set k x)) ∧ turned Q k = 2 * (Q.getD ((k + 1) % 4) 0 + Q.getD ((k + 2) % 4) 0 + Q.getD ((k + 3) % 4) 0) - Q.getD k 0 := by
  match Q, hl with
  | [q0, q1, q2, q3], _ =>
    have hk4 : k = 0 ∨ k = 1 ∨ k = 2 ∨ k = 3 := by omega
    rcases hk4 with rfl | rfl | rfl | rfl
    · exact ⟨fun x => List.perm_append_comm (l₁ := [q1, q2, q3]) (l₂ := [x]), by simp [turned, sum1]; omega⟩
    · exact ⟨fun x => List.perm_append_comm (l₁ := [q2, q3]) (l₂ := [q0, x]), by simp [turned, sum1]; omega⟩
    · exact ⟨fun x => List.perm_append_comm (l₁ := [q3]) (l₂ := [q0, q1, x]), by simp [turned, sum1]; omega⟩
    · exact ⟨fun x => List.Perm.refl _, by simp [turned, sum1]; omega⟩
/-- Both solutions, by a whole root. -/
theorem whole_of {a b c d : Int} (h : (a + b + c + d) * (a + b + c + d) = 2 * (a * a + b * b + c * c + d * d)) : ∃ p : Int, p * p = a * b + b * c + c * a ∧ d = a + b + c - 2 * p := by
  have e : (a + b + c - d) * (a + b + c - d) = 4 * (a * b + b * c + c * a) := by grind
  have hpar : (a + b + c - d) % 2 = 0 := by
    rcases (by omega : (a + b + c - d) % 2 = 0 ∨ (a + b + c - d) % 2 = 1) with w | w
    · exact w
    · exfalso
      have hu : a + b + c - d = 2 * ((a + b + c - d) / 2) + 1 := by omega
      generalize (a + b + c - d) / 2 = p at *
      generalize a * b + b * c + c * a = k at *
      rw [hu] at e
      have : (2 * p + 1) * (2 * p + 1) = 4 * (p * p + p) + 1 := by grind
      omega
  refine ⟨(a + b + c - d) / 2, ?_, by omega⟩
  have hu : a + b + c - d = 2 * ((a + b + c - d) / 2) := by omega
  generalize (a + b + c - d) / 2 = p at *
  rw [hu] at e
  have : (2 * p) * (2 * p) = 4 * (p * p) := by grind
  omega
/-- What Fourth returns for three bends of a quad. -/
theorem fourth_quad {a b c d : Int} {v : Value} (hq : isQ [a, b, c, d] = true) (h : Fourth a b c v) :
    (¬ (short a = true ∧ short b = true ∧ short c = true) ∧ v = .tuple #[.int .i64 0, .int .i64 0, .int .i64 2]) ∨
    ((short a = true ∧ short b = true ∧ short c = true) ∧ inR (2 * (a + b + c) - d) = false ∧ v = .tuple #[.int .i64 0, .int .i64 0, .int .i64 10]) ∨
    ((short a = true ∧ short b = true ∧ short c = true) ∧ inR (2 * (a + b + c) - d) = true ∧ v = .tuple #[.int .i64 (min (2 * (a + b + c) - d) d), .int .i64 (max (2 * (a + b + c) - d) d), .int .i64 0]) := by
  have hq0 := hq
  simp only [isQ, Bool.and_eq_true, decide_eq_true_eq] at hq
  obtain ⟨hall, hs, he⟩ := hq
  simp only [sum1, sum2] at hs he
  obtain ⟨p, hp, hd⟩ := whole_of (a := a) (b := b) (c := c) (d := d) (by grind)
  have hturn : inR (2 * (a + b + c) - d) = true → isQ [a, b, c, 2 * (a + b + c) - d] = true := fun hr => by
    have := quad_turn (Q := [a, b, c, d]) rfl hq0 (k := 3) (by omega) (by simp only [turned, sum1, List.getD_cons_zero, List.getD_cons_succ]; rw [show 2 * (a + (b + (c + (d + 0))) - d) - d = 2 * (a + b + c) - d by omega]; exact hr)
    simp only [List.set_cons_succ, List.set_cons_zero, turned, sum1, List.getD_cons_zero, List.getD_cons_succ] at this
    rw [show 2 * (a + (b + (c + (d + 0))) - d) - d = 2 * (a + b + c) - d by omega] at this
    exact this
  obtain ⟨r, hr0, hr, hx⟩ : ∃ r : Int, 0 ≤ r ∧ r * r = a * b + b * c + c * a ∧ ((a + b + c - 2 * r = d ∧ a + b + c + 2 * r = 2 * (a + b + c) - d) ∨ (a + b + c + 2 * r = d ∧ a + b + c - 2 * r = 2 * (a + b + c) - d)) := by
    rcases Int.le_total 0 p with w | w
    · exact ⟨p, w, hp, .inl ⟨by omega, by omega⟩⟩
    · exact ⟨-p, by omega, by rw [Int.neg_mul_neg]; exact hp, .inr ⟨by omega, by omega⟩⟩
  have hfq : fourthQ a b c r = inR (2 * (a + b + c) - d) := by
    cases hin : inR (2 * (a + b + c) - d) with
    | true =>
      have := hturn hin
      rcases hx with ⟨h1, h2⟩ | ⟨h1, h2⟩ <;> simp [fourthQ, h1, h2, hq0, this]
    | false =>
      have hf : isQ [a, b, c, 2 * (a + b + c) - d] = false := by simp [isQ, hin]
      rcases hx with ⟨h1, h2⟩ | ⟨h1, h2⟩ <;> simp [fourthQ, h1, h2, hf]
  rcases h with h | ⟨h1, h2, h3, h4, h5⟩ | ⟨h1, h2, h3, r', h4, h5, h6, h7⟩
  · exact .inl h
  · exact .inr (.inl ⟨⟨h1, h2, h3⟩, by rw [← hfq]; exact h4 r hr0 hr, h5⟩)
  · obtain rfl := sq_inj h4 hr0 (h5.trans hr.symm)
    refine .inr (.inr ⟨⟨h1, h2, h3⟩, by rw [← hfq]; exact h6, ?_⟩)
    rw [h7]
    rcases hx with ⟨k1, k2⟩ | ⟨k1, k2⟩
    · rw [show min (2 * (a + b + c) - d) d = a + b + c - 2 * r' by omega, show max (2 * (a + b + c) - d) d = a + b + c + 2 * r' by omega]
    · rw [show min (2 * (a + b + c) - d) d = a + b + c - 2 * r' by omega, show max (2 * (a + b + c) - d) d = a + b + c + 2 * r' by omega]
end Go.Proofs.Ytdanjjhgfkfghaa
set_option maxRecDepth 100000
set_option maxHeartbeats 8000000
set_option linter.unusedSimpArgs false
set_option linter.unusedVariables false
namespace Go.Proofs.Ytdanjjhgfkfghaa
open Go.Ds
theorem mx_i64 (x y : Int) : mxF (.int .i64 x) (.int .i64 y) = some (.int .i64 (max x y)) := by
  simp only [mxF, lt_i]
  by_cases h : x < y
  · rw [decide_eq_true h, cond_true]; congr 2; omega
  · rw [decide_eq_false h, cond_false]; congr 2; omega
theorem mn_i64 (x y : Int) : mnF (.int .i64 x) (.int .i64 y) = some (.int .i64 (min x y)) := by
  simp only [mnF, lt_i]
  by_cases h : y < x
  · rw [decide_eq_true h, cond_true]; congr 2; omega
  · rw [decide_eq_false h, cond_false]; congr 2; omega
theorem mx3_i64 (x y z : Int) : mx3F (.int .i64 x) (.int .i64 y) (.int .i64 z) = some (.int .i64 (max (max x y) z)) := by simp only [mx3F, mx_i64]
theorem mn3_i64 (x y z : Int) : mn3F (.int .i64 x) (.int .i64 y) (.int .i64 z) = some (.int .i64 (min (min x y) z)) := by simp only [mn3F, mn_i64]
theorem fourthLaw_rets {X : Caller} (hX : Xall X) (Q : List Int) (hQl : Q.length = 4) (i : Int) (hi0 : 0 ≤ i) (hi1 : i < 256) (g : GH) :
    Rets Try.prog X 14 [.agg (ints Q).toArray, .int .u8 i] g (fun v g' lo => v = .bool true) := by
  have hXX := hX
  have hX := hX.toXok
  obtain ⟨k, hk⟩ : ∃ k : Nat, i % 4 = (k : Int) := ⟨(i % 4).toNat, by omega⟩
  have hk4 : k < 4 := by omega
  have hrem : i.tmod 4 = (k : Int) := by rw [tmod4 hi0, hk]
  have hcv : convF .i64 (.int .u8 (k : Int)) = some (.int .i64 (k : Int)) := by
    show some (Value.int .i64 (wrapF .i64 (k : Int))) = _
    rw [wr64 (by omega) (by omega)]
  have hm1 : ((k : Int) + 1).tmod 4 = (((k + 1) % 4 : Nat) : Int) := by rw [tmod4 (by omega)]; omega
  have hm2 : ((k : Int) + 2).tmod 4 = (((k + 2) % 4 : Nat) : Int) := by rw [tmod4 (by omega)]; omega
  have hm3 : ((k : Int) + 3).tmod 4 = (((k + 3) % 4 : Nat) : Int) := by rw [tmod4 (by omega)]; omega
  refine Rets.run hX.pres p14 (hX.free 14 (by decide) (by decide) (by decide) _ _) rfl fun ho => ?_
  have hz4 := z4len
  simp +decide only [dseq, dreg, dbox, dalloc, nV_eq, cellsOf, tick, ev_put, ev_fill, ev_fill0, ev_none, ↓reduceIte, Nat.reduceEqDiff, Nat.reduceAdd]
  obtain ⟨hk0, hok, hnx, g1⟩ := boxQ ho Q 23
  generalize g.push (cellsOb (ints Q) 23) = G at *
  simp +decide (disch := first | assumption | (apply GH.ok_push; assumption) | exact cellV_int _ _ | exact cellV_bool _ | omega) only [go_sem, ↓reduceIte, Nat.reduceEqDiff, Nat.reduceAdd, Int.reduceToNat, g1]
  refine CallD.calm (refQ hXX Q hQl G) ?_
  rintro v G1 hx1 rfl
  have hn1 := hx1.next
  have g11 := (hx1.gets _ (by omega)).trans g1
  by_cases hq : isQ Q = true
  rotate_left
  · have hq' : isQ Q = false := by simpa using hq
    simp +decide (disch := first | assumption | (apply GH.ok_push; assumption) | exact cellV_int _ _ | exact cellV_bool _ | omega) only [go_sem, ↓reduceIte, Nat.reduceEqDiff, Nat.reduceAdd, Int.reduceToNat, hq']
    refine CallD.calm (hXX.alive G1) ?_
    rintro v G2 hx2 rfl
    simp +decide (disch := first | assumption | (apply GH.ok_push; assumption) | exact cellV_int _ _ | exact cellV_bool _ | omega) only [go_sem, ↓reduceIte, Nat.reduceEqDiff, Nat.reduceAdd, Int.reduceToNat]
    intro hx0
    trivial
  have hall := isQ_all hq
  have x1 := iaddrA_at (j := g.next) (n := 4) (m := (k + 1) % 4) (x := (((k + 1) % 4 : Nat) : Int)) rfl (by omega)
  have x2 := iaddrA_at (j := g.next) (n := 4) (m := (k + 2) % 4) (x := (((k + 2) % 4 : Nat) : Int)) rfl (by omega)
  have x3 := iaddrA_at (j := g.next) (n := 4) (m := (k + 3) % 4) (x := (((k + 3) % 4 : Nat) : Int)) rfl (by omega)
  have l1 := fun lo => load_one (lo := lo) g11 (ints_get (D := Q) (i := (k + 1) % 4) (by omega))
  have l2 := fun lo => load_one (lo := lo) g11 (ints_get (D := Q) (i := (k + 2) % 4) (by omega))
  have l3 := fun lo => load_one (lo := lo) g11 (ints_get (D := Q) (i := (k + 3) % 4) (by omega))
  obtain ⟨hrot, htu⟩ := rot4 hQl hk4
  have hqr : isQ [Q.getD ((k + 1) % 4) 0, Q.getD ((k + 2) % 4) 0, Q.getD ((k + 3) % 4) 0, Q.getD k 0] = true := by
    rw [isQ_perm (hrot (Q.getD k 0)), set_getD (by omega)]; exact hq
  have ba := inR_getD hall ((k + 1) % 4)
  have bb := inR_getD hall ((k + 2) % 4)
  have bc := inR_getD hall ((k + 3) % 4)
  have bd := inR_getD hall k
  have bt := turned_bound hQl hall k
  generalize Q.getD ((k + 1) % 4) 0 = a at *
  generalize Q.getD ((k + 2) % 4) 0 = b at *
  generalize Q.getD ((k + 3) % 4) 0 = c at *
  simp +decide (disch := first | assumption | (apply GH.ok_push; assumption) | exact cellV_int _ _ | exact cellV_bool _ | omega) only [go_sem, ↓reduceIte, Nat.reduceEqDiff, Nat.reduceAdd, Int.reduceToNat, hq, hrem, hcv, hm1, hm2, hm3, x1, x2, x3, l1, l2, l3]
  refine CallD.calm (fourth_rets hXX a b c G1) ?_
  rintro v G2 hx2 hv
  have hn2 := hx2.next
  have g12 := (hx2.gets _ (by omega)).trans g11
  have hres := fourth_quad hqr hv
  rw [← htu] at hres
  have xk := iaddrA_at (j := g.next) (n := 4) (m := k) (x := (k : Int)) rfl hk4
  rcases hres with ⟨hs, rfl⟩ | ⟨hs, hr, rfl⟩ | ⟨hs, hr, rfl⟩
  · simp only [short_iff] at hs
    by_cases c1 : 1048576 < max (max a b) c
    · simp +decide (disch := first | assumption | (apply GH.ok_push; assumption) | exact cellV_int _ _ | exact cellV_bool _ | omega) only [go_sem, ↓reduceIte, Nat.reduceEqDiff, Nat.reduceAdd, Int.reduceToNat, ext30, ext31, ext2, mx3_i64, mn3_i64]
      refine CallD.calm (hXX.alive G2) ?_
      rintro v G3 hx3 rfl
      simp +decide (disch := first | assumption | (apply GH.ok_push; assumption) | exact cellV_int _ _ | exact cellV_bool _ | omega) only [go_sem, ↓reduceIte, Nat.reduceEqDiff, Nat.reduceAdd, Int.reduceToNat]
      intro hx0
      trivial
    · have c2 : min (min a b) c < -1048576 := by omega
      simp +decide (disch := first | assumption | (apply GH.ok_push; assumption) | exact cellV_int _ _ | exact cellV_bool _ | omega) only [go_sem, ↓reduceIte, Nat.reduceEqDiff, Nat.reduceAdd, Int.reduceToNat, ext30, ext31, ext2, mx3_i64, mn3_i64]
      refine CallD.calm (hXX.alive G2) ?_
      rintro v G3 hx3 rfl
      simp +decide (disch := first | assumption | (apply GH.ok_push; assumption) | exact cellV_int _ _ | exact cellV_bool _ | omega) only [go_sem, ↓reduceIte, Nat.reduceEqDiff, Nat.reduceAdd, Int.reduceToNat]
      intro hx0
      trivial
  · simp only [short_iff] at hs
    have c1 : ¬ 1048576 < max (max a b) c := by omega
    have c2 : ¬ min (min a b) c < -1048576 := by omega
    simp +decide (disch := first | assumption | (apply GH.ok_push; assumption) | exact cellV_int _ _ | exact cellV_bool _ | omega) only [go_sem, ↓reduceIte, Nat.reduceEqDiff, Nat.reduceAdd, Int.reduceToNat, ext30, ext31, ext2, mx3_i64, mn3_i64, g12]
    refine CallD.calm (refTurned_rets hXX Q hQl hall k hk4 G2) ?_
    rintro v G3 hx3 rfl
    simp +decide (disch := first | assumption | (apply GH.ok_push; assumption) | exact cellV_int _ _ | exact cellV_bool _ | omega) only [go_sem, ↓reduceIte, Nat.reduceEqDiff, Nat.reduceAdd, Int.reduceToNat]
    refine CallD.calm (inRange_rets hX (turned Q k) G3) ?_
    rintro v G4 hx4 rfl
    simp +decide (disch := first | assumption | (apply GH.ok_push; assumption) | exact cellV_int _ _ | exact cellV_bool _ | omega) only [go_sem, ↓reduceIte, Nat.reduceEqDiff, Nat.reduceAdd, Int.reduceToNat, hr]
    refine CallD.calm (hXX.alive G4) ?_
    rintro v G5 hx5 rfl
    simp +decide (disch := first | assumption | (apply GH.ok_push; assumption) | exact cellV_int _ _ | exact cellV_bool _ | omega) only [go_sem, ↓reduceIte, Nat.reduceEqDiff, Nat.reduceAdd, Int.reduceToNat]
    intro hx0
    trivial
  · simp only [short_iff] at hs
    have c1 : ¬ 1048576 < max (max a b) c := by omega
    have c2 : ¬ min (min a b) c < -1048576 := by omega
    simp +decide (disch := first | assumption | (apply GH.ok_push; assumption) | exact cellV_int _ _ | exact cellV_bool _ | omega) only [go_sem, ↓reduceIte, Nat.reduceEqDiff, Nat.reduceAdd, Int.reduceToNat, ext30, ext31, ext2, mx3_i64, mn3_i64, g12]
    refine CallD.calm (refTurned_rets hXX Q hQl hall k hk4 G2) ?_
    rintro v G3 hx3 rfl
    have hn3 := hx3.next
    have g13 := (hx3.gets _ (by omega)).trans g12
    simp +decide (disch := first | assumption | (apply GH.ok_push; assumption) | exact cellV_int _ _ | exact cellV_bool _ | omega) only [go_sem, ↓reduceIte, Nat.reduceEqDiff, Nat.reduceAdd, Int.reduceToNat]
    refine CallD.calm (inRange_rets hX (turned Q k) G3) ?_
    rintro v G4 hx4 rfl
    have hn4 := hx4.next
    have g14 := (hx4.gets _ (by omega)).trans g13
    have lk := fun lo => load_one (lo := lo) g14 (ints_get (D := Q) (i := k) (by omega))
    have hsum : min (turned Q k) (Q.getD k 0) + max (turned Q k) (Q.getD k 0) = 2 * (a + b + c) := by omega
    simp +decide (disch := first | assumption | (apply GH.ok_push; assumption) | exact cellV_int _ _ | exact cellV_bool _ | omega) only [go_sem, ↓reduceIte, Nat.reduceEqDiff, Nat.reduceAdd, Int.reduceToNat, hr, xk, lk, mx_i64, mn_i64, eq_self, hsum]
    refine CallD.calm (hXX.alive G4) ?_
    rintro v G5 hx5 rfl
    simp +decide (disch := first | assumption | (apply GH.ok_push; assumption) | exact cellV_int _ _ | exact cellV_bool _ | omega) only [go_sem, ↓reduceIte, Nat.reduceEqDiff, Nat.reduceAdd, Int.reduceToNat]
    intro hx0
    trivial
end Go.Proofs.Ytdanjjhgfkfghaa
