import Derived.Test.YtdanjjhgfkfghaaK5
set_option linter.all false
set_option linter.unusedSimpArgs false
set_option linter.unnecessarySimpa false
set_option linter.unusedVariables false
set_option linter.unusedSectionVars false
set_option maxRecDepth 100000
set_option maxHeartbeats 8000000
set_option linter.unusedSimpArgs false
set_option linter.unusedVariables false
namespace Go.Proofs.Ytdanjjhgfkfghaa
open Go.Ds
/-! ## The specification's sort and root -/
/-- The last numbers stand where they belong. -/
def Tail (L : List Int) (a : Nat) : Prop := ∀ p q, p < q → q < 4 → 4 ≤ q + a → L.getD p 0 ≤ L.getD q 0
structure Bub (L : List Int) (a b : Nat) : Prop where
  tail : Tail L a
  top : ∀ p, p < b → L.getD p 0 ≤ L.getD b 0
  next : 3 ≤ b + a → Tail L (a + 1)
theorem Bub.start {L : List Int} {a : Nat} (h : Tail L a) (ha : a < 4) : Bub L a 0 := by
  refine ⟨h, fun p hp => by omega, fun h3 p q hpq hq h4 => ?_⟩
  by_cases c : 4 ≤ q + a
  · exact h p q hpq hq c
  · omega
theorem Bub.keep {L : List Int} {a b : Nat} (h : Bub L a b) (hb : b < 3) (hle : L.getD b 0 ≤ L.getD (b + 1) 0) : Bub L a (b + 1) := by
  have ht : ∀ p, p < b + 1 → L.getD p 0 ≤ L.getD (b + 1) 0 := fun p hp => by
    by_cases c : p = b
    · rw [c]; exact hle
    · exact Int.le_trans (h.top p (by omega)) hle
  refine ⟨h.tail, ht, fun h3 p q hpq hq h4 => ?_⟩
  by_cases c : 3 ≤ b + a
  · exact h.next c p q hpq hq h4
  · by_cases c2 : 4 ≤ q + a
    · exact h.tail p q hpq hq c2
    · rw [show q = b + 1 by omega]
      exact ht p (by omega)
theorem Bub.swap {L : List Int} {a b : Nat} (hl : L.length = 4) (h : Bub L a b) (hb : b < 3) (hlt : L.getD (b + 1) 0 < L.getD b 0) : Bub (swp L b (b + 1)) a (b + 1) := by
  have hba : b + 1 + a < 4 := by
    rcases Nat.lt_or_ge (b + 1 + a) 4 with c | c
    · exact c
    · have := h.tail b (b + 1) (by omega) (by omega) c
      omega
  have e := swp_get (L := L) (i := b) (j := b + 1) (by omega) (by omega)
  have ht : ∀ p, p < b + 1 → (swp L b (b + 1)).getD p 0 ≤ (swp L b (b + 1)).getD (b + 1) 0 := fun p hp => by
    rw [e, e, if_pos rfl, if_neg (by omega)]
    by_cases c : p = b
    · rw [if_pos c]; omega
    · rw [if_neg c]; exact h.top p (by omega)
  have htl : Tail (swp L b (b + 1)) a := fun p q hpq hq h4 => by
    rw [e, e, if_neg (show ¬ q = b + 1 by omega), if_neg (show ¬ q = b by omega)]
    by_cases c : p = b + 1
    · rw [if_pos c]; exact h.tail b q (by omega) hq h4
    · rw [if_neg c]
      by_cases c2 : p = b
      · rw [if_pos c2]; exact h.tail (b + 1) q (by omega) hq h4
      · rw [if_neg c2]; exact h.tail p q hpq hq h4
  refine ⟨htl, ht, fun h3 p q hpq hq h4 => ?_⟩
  by_cases c2 : 4 ≤ q + a
  · exact htl p q hpq hq c2
  · rw [show q = b + 1 by omega]
    exact ht p (by omega)
structure SortedSt (g : GH) (L0 L : List Int) (g' : GH) (lo : Nat) : Prop where
  low : g.next ≤ lo
  next : g.next + 2 ≤ g'.next
  get : g'.get g.next = cellsOb (ints L) 23
  zero : g'.get (g.next + 1) = cellsOb (ints Z4) 23
  perm : L.Perm L0
theorem sorted_rets {X : Caller} (hX : Xok X) (L0 : List Int) (hQl : L0.length = 4) (g : GH) :
    Rets Try.prog X 39 [.agg (ints L0).toArray] g (fun v g' lo => g.next ≤ lo ∧ v = .agg (ints (srt4 L0)).toArray) := by
  have hz4 := z4len
  refine Rets.run hX.pres p39 (hX.free 39 (by decide) (by decide) (by decide) _ _) rfl fun ho => ?_
  simp +decide only [dseq, dreg, dbox, dalloc, nV_eq, cellsOf, tick, ev_put, ev_fill, ev_fill0, ev_none, ↓reduceIte, Nat.reduceEqDiff, Nat.reduceAdd]
  obtain ⟨hk, hok, hnx, g1, g2⟩ := two ho (cellsOb (ints L0) 23) (cellsOb [Value.int .i64 0, .int .i64 0, .int .i64 0, .int .i64 0] 23)
  generalize (g.push (cellsOb (ints L0) 23)).push (cellsOb [Value.int .i64 0, .int .i64 0, .int .i64 0, .int .i64 0] 23) = G at *
  have g2 : G.get (g.next + 1) = cellsOb (ints Z4) 23 := g2
  simp +decide (disch := first | assumption | (apply GH.ok_push; assumption) | exact cellV_int _ _ | exact cellV_bool _ | omega) only [go_sem, ↓reduceIte, Nat.reduceEqDiff, Nat.reduceAdd, Int.reduceToNat]
  refine Wk.loops (fun m e g' lo => ∃ (L : List Int) (a : Nat), a + m = 4 ∧ SortedSt g L0 L g' lo ∧ Tail L a ∧ (ev e (.s 1) = ptrTo g.next ∧ ev e (.s 2) = ptrTo (g.next + 1) ∧ ev e (.s 3) = .int .i64 a))
    (fun e g' lo => ∃ L, SortedSt g L0 L g' lo ∧ Srt L ∧ (ev e (.s 1) = ptrTo g.next ∧ ev e (.s 2) = ptrTo (g.next + 1))) (n := 4) ?_ ?_ ?_
  · exact ⟨L0, 0, rfl, ⟨by omega, by omega, g1, g2, List.Perm.refl _⟩, fun p q h1 h2 h3 => by omega, (by simp +decide (disch := first | assumption | (apply GH.ok_push; assumption) | exact cellV_int _ _ | exact cellV_bool _ | omega) only [go_sem, ↓reduceIte, Nat.reduceEqDiff, Nat.reduceAdd, Int.reduceToNat]; first | done | exact rfl)⟩
  · rintro e G lo ho' hl' ⟨L, hs, hr, he⟩
    have hl4 : L.length = 4 := hs.perm.length_eq.trans hQl
    have gq := hs.get
    have gz := hs.zero
    have s1 := fun o => GH.get_set_same gz Nat.one_ne_zero o
    have hn := hs.next
    simp +decide (disch := first | assumption | (apply GH.ok_push; assumption) | exact cellV_int _ _ | exact cellV_bool _ | omega) only [go_sem, ↓reduceIte, Nat.reduceEqDiff, Nat.reduceAdd, Int.reduceToNat, he, gq, gz, s1]
    intro hx
    have hlow := hs.low
    exact ⟨by omega, by rw [srt4_of hs.perm hr]⟩
  · rintro m e G lo ho' hl' ih out ⟨L, a, ham, hs, htl, he⟩
    by_cases ca : a < 4
    · simp +decide (disch := first | assumption | (apply GH.ok_push; assumption) | exact cellV_int _ _ | exact cellV_bool _ | omega) only [go_sem, ↓reduceIte, Nat.reduceEqDiff, Nat.reduceAdd, Int.reduceToNat, he]
      refine Wk.loops (fun m e g' lo => ∃ (L : List Int) (b : Nat), b + m = 3 ∧ SortedSt g L0 L g' lo ∧ Bub L a b ∧ (ev e (.s 1) = ptrTo g.next ∧ ev e (.s 2) = ptrTo (g.next + 1) ∧ ev e (.s 3) = .int .i64 a ∧ ev e (.s 4) = .int .i64 b))
        (fun e g' lo => ∃ L, SortedSt g L0 L g' lo ∧ Tail L (a + 1) ∧ (ev e (.s 1) = ptrTo g.next ∧ ev e (.s 2) = ptrTo (g.next + 1) ∧ ev e (.s 3) = .int .i64 a)) (n := 3) ?_ ?_ ?_
      · exact ⟨L, 0, rfl, hs, Bub.start htl ca, (by simp +decide (disch := first | assumption | (apply GH.ok_push; assumption) | exact cellV_int _ _ | exact cellV_bool _ | omega) only [go_sem, ↓reduceIte, Nat.reduceEqDiff, Nat.reduceAdd, Int.reduceToNat, he]; first | done | exact rfl)⟩
      · rintro e G lo ho' hl' ⟨L, hs, htl, he⟩
        simp +decide (disch := first | assumption | (apply GH.ok_push; assumption) | exact cellV_int _ _ | exact cellV_bool _ | omega) only [go_sem, ↓reduceIte, Nat.reduceEqDiff, Nat.reduceAdd, Int.reduceToNat, he]
        exact ih (m - 1) _ _ _ (by omega) ⟨L, a + 1, by omega, hs, htl, (by simp +decide (disch := first | assumption | (apply GH.ok_push; assumption) | exact cellV_int _ _ | exact cellV_bool _ | omega) only [go_sem, ↓reduceIte, Nat.reduceEqDiff, Nat.reduceAdd, Int.reduceToNat, he]; first | done | exact rfl)⟩
      · rintro m2 e G lo ho' hl' ih2 out2 ⟨L, b, hbm, hs, hB, he⟩
        have hl4 : L.length = 4 := hs.perm.length_eq.trans hQl
        have gq := hs.get
        have hn := hs.next
        by_cases cb : b < 3
        · have x1 := iaddrA_at (j := g.next) (n := 4) (m := b) (x := (b : Int)) rfl (by omega)
          have x2 := iaddrA_at (j := g.next) (n := 4) (m := b + 1) (x := (b : Int) + 1) (by omega) (by omega)
          have l1 := fun lo => load_one (lo := lo) gq (ints_get (D := L) (i := b) (by omega))
          have l2 := fun lo => load_one (lo := lo) gq (ints_get (D := L) (i := b + 1) (by omega))
          by_cases d : L.getD (b + 1) 0 < L.getD b 0
          · have s1 := fun o => GH.get_set_same gq Nat.one_ne_zero o
            have p1 : splice b (ints L) [.int .i64 (L.getD (b + 1) 0)] = ints (L.set b (L.getD (b + 1) 0)) := splice_ints (by omega)
            have p2 : splice (b + 1) (ints (L.set b (L.getD (b + 1) 0))) [.int .i64 (L.getD b 0)] = ints (swp L b (b + 1)) := splice_ints (by simp; omega)
            have len1 : (L.set b (L.getD (b + 1) 0)).length = 4 := by simp [hl4]
            simp +decide (disch := first | assumption | (apply GH.ok_push; assumption) | exact cellV_int _ _ | exact cellV_bool _ | omega) only [go_sem, ↓reduceIte, Nat.reduceEqDiff, Nat.reduceAdd, Int.reduceToNat, he, x1, x2, l1, l2, gq, s1, p1, p2, ints_len, hl4, len1]
            refine ih2 (m2 - 1) _ _ _ (by omega) ⟨swp L b (b + 1), b + 1, by omega, ⟨?_, hs.next, ?_, ?_, (swp_perm (by omega) (by omega) (by omega)).trans hs.perm⟩, hB.swap hl4 cb d, (by simp +decide (disch := first | assumption | (apply GH.ok_push; assumption) | exact cellV_int _ _ | exact cellV_bool _ | omega) only [go_sem, ↓reduceIte, Nat.reduceEqDiff, Nat.reduceAdd, Int.reduceToNat, he]; first | done | exact rfl)⟩
            · have := hs.low; omega
            · rw [p1, p2]; exact GH.get_set_same (s1 _) Nat.one_ne_zero _
            · rw [p1, GH.get_set_ne (s1 _) Nat.one_ne_zero _ (by omega), GH.get_set_ne gq Nat.one_ne_zero _ (by omega)]
              exact hs.zero
          · simp +decide (disch := first | assumption | (apply GH.ok_push; assumption) | exact cellV_int _ _ | exact cellV_bool _ | omega) only [go_sem, ↓reduceIte, Nat.reduceEqDiff, Nat.reduceAdd, Int.reduceToNat, he, x1, x2, l1, l2]
            exact ih2 (m2 - 1) _ _ _ (by omega) ⟨L, b + 1, by omega, hs, hB.keep cb (by omega), (by simp +decide (disch := first | assumption | (apply GH.ok_push; assumption) | exact cellV_int _ _ | exact cellV_bool _ | omega) only [go_sem, ↓reduceIte, Nat.reduceEqDiff, Nat.reduceAdd, Int.reduceToNat, he]; first | done | exact rfl)⟩
        · simp +decide (disch := first | assumption | (apply GH.ok_push; assumption) | exact cellV_int _ _ | exact cellV_bool _ | omega) only [go_sem, ↓reduceIte, Nat.reduceEqDiff, Nat.reduceAdd, Int.reduceToNat, he]
          exact out2 _ _ _ ⟨L, hs, hB.next (by omega), (by simp +decide (disch := first | assumption | (apply GH.ok_push; assumption) | exact cellV_int _ _ | exact cellV_bool _ | omega) only [go_sem, ↓reduceIte, Nat.reduceEqDiff, Nat.reduceAdd, Int.reduceToNat, he]; first | done | exact rfl)⟩
    · simp +decide (disch := first | assumption | (apply GH.ok_push; assumption) | exact cellV_int _ _ | exact cellV_bool _ | omega) only [go_sem, ↓reduceIte, Nat.reduceEqDiff, Nat.reduceAdd, Int.reduceToNat, he]
      have hl4 : L.length = 4 := hs.perm.length_eq.trans hQl
      exact out _ _ _ ⟨L, hs, fun p q h1 h2 => htl p q h1 (by omega) (by omega), (by simp +decide (disch := first | assumption | (apply GH.ok_push; assumption) | exact cellV_int _ _ | exact cellV_bool _ | omega) only [go_sem, ↓reduceIte, Nat.reduceEqDiff, Nat.reduceAdd, Int.reduceToNat, he]; first | done | exact rfl)⟩
end Go.Proofs.Ytdanjjhgfkfghaa
set_option maxRecDepth 100000
set_option maxHeartbeats 8000000
set_option linter.unusedSimpArgs false
set_option linter.unusedVariables false
namespace Go.Proofs.Ytdanjjhgfkfghaa
open Go.Ds
theorem refRoot_rets {X : Caller} (hX : Xall X) (Q0 : List Int) (hQl : Q0.length = 4) (g : GH) :
    Rets Try.prog X 28 [.agg (ints Q0).toArray] g (fun v g' lo => g.next ≤ lo ∧ v = .tuple #[.agg (ints (rootR Q0).1).toArray, .int .i64 ((rootR Q0).2.1 : Nat), .int .i64 (rootR Q0).2.2]) := by
  have hXX := hX
  have hX := hX.toXok
  have hz4 := z4len
  refine Rets.run hX.pres p28 (hX.free 28 (by decide) (by decide) (by decide) _ _) rfl fun ho => ?_
  simp +decide only [dseq, dreg, dbox, dalloc, nV_eq, cellsOf, tick, ev_put, ev_fill, ev_fill0, ev_none, ↓reduceIte, Nat.reduceEqDiff, Nat.reduceAdd]
  obtain ⟨hk, hok, hnx, g1, g2⟩ := two ho (cellsOb (ints Q0) 23) (cellsOb [Value.int .i64 0, .int .i64 0, .int .i64 0, .int .i64 0] 23)
  generalize (g.push (cellsOb (ints Q0) 23)).push (cellsOb [Value.int .i64 0, .int .i64 0, .int .i64 0, .int .i64 0] 23) = G at *
  have g2 : G.get (g.next + 1) = cellsOb (ints Z4) 23 := g2
  simp +decide (disch := first | assumption | (apply GH.ok_push; assumption) | exact cellV_int _ _ | exact cellV_bool _ | omega) only [go_sem, ↓reduceIte, Nat.reduceEqDiff, Nat.reduceAdd, Int.reduceToNat, g1]
  refine CallD.calm (refQ hXX Q0 hQl G) ?_
  rintro v G1 hx1 rfl
  have hn1 := hx1.next
  have g11 := (hx1.gets _ (by omega)).trans g1
  have g21 := (hx1.gets _ (by omega)).trans g2
  by_cases hq0 : isQ Q0 = true
  · have hR : rootR Q0 = (srt4 (rootL Q0).1, (rootL Q0).2, 0) := by rw [rootR, if_pos hq0]
    rw [hR]
    simp +decide (disch := first | assumption | (apply GH.ok_push; assumption) | exact cellV_int _ _ | exact cellV_bool _ | omega) only [go_sem, ↓reduceIte, Nat.reduceEqDiff, Nat.reduceAdd, Int.reduceToNat, hq0]
    refine Wk.loops (fun m e g' lo => ∃ (Q : List Int) (n : Nat), m = (sum1 Q).toNat ∧ Way Q0 Q n ∧ g.next ≤ lo ∧ g.next + 2 ≤ g'.next ∧ g'.get g.next = cellsOb (ints Q) 23 ∧ g'.get (g.next + 1) = cellsOb (ints Z4) 23 ∧ (ev e (.s 1) = ptrTo g.next ∧ ev e (.s 2) = ptrTo (g.next + 1) ∧ ev e (.s 5) = .int .i64 n))
      (fun e g' lo => False) (n := (sum1 Q0).toNat) ?_ ?_ ?_
    · exact ⟨Q0, 0, rfl, Way.start hQl hq0, by omega, by omega, g11, g21, (by simp +decide (disch := first | assumption | (apply GH.ok_push; assumption) | exact cellV_int _ _ | exact cellV_bool _ | omega) only [go_sem, ↓reduceIte, Nat.reduceEqDiff, Nat.reduceAdd, Int.reduceToNat]; first | done | exact rfl)⟩
    · rintro e G lo ho' hl' h
      exact h.elim
    · rintro m e G lo ho' hl' ih out ⟨Q, n, rfl, hw, hlo, hn, gq, gz, he⟩
      have hl4 := hw.len
      have hall := isQ_all hw.quad
      have hg4 := gre_lt Q
      have hb := hw.bound (isQ_all hq0) hQl
      simp +decide (disch := first | assumption | (apply GH.ok_push; assumption) | exact cellV_int _ _ | exact cellV_bool _ | omega) only [go_sem, ↓reduceIte, Nat.reduceEqDiff, Nat.reduceAdd, Int.reduceToNat, he]
      refine Wk.loops (fun m e g' lo => g' = G ∧ g.next ≤ lo ∧ ∃ k : Nat, k + m = 4 ∧ 1 ≤ k ∧ (ev e (.s 1) = ptrTo g.next ∧ ev e (.s 2) = ptrTo (g.next + 1) ∧ ev e (.s 5) = .int .i64 n ∧ ev e (.s 6) = .int .i64 (greN Q k : Nat) ∧ ev e (.s 7) = .int .i64 k))
        (fun e g' lo => g' = G ∧ g.next ≤ lo ∧ (ev e (.s 1) = ptrTo g.next ∧ ev e (.s 2) = ptrTo (g.next + 1) ∧ ev e (.s 5) = .int .i64 n ∧ ev e (.s 6) = .int .i64 (gre Q : Nat))) (n := 3) ?_ ?_ ?_
      · exact ⟨rfl, hlo, 1, rfl, Nat.le_refl _, (by simp +decide (disch := first | assumption | (apply GH.ok_push; assumption) | exact cellV_int _ _ | exact cellV_bool _ | omega) only [go_sem, ↓reduceIte, Nat.reduceEqDiff, Nat.reduceAdd, Int.reduceToNat, he, greN_one]; first | done | exact rfl)⟩
      · rintro e g' lo ho' hl' ⟨rfl, hlo, he⟩
        simp +decide (disch := first | assumption | (apply GH.ok_push; assumption) | exact cellV_int _ _ | exact cellV_bool _ | omega) only [go_sem, ↓reduceIte, Nat.reduceEqDiff, Nat.reduceAdd, Int.reduceToNat, he, gq]
        refine CallD.calm (refTurned_rets hXX Q hl4 hall (gre Q) hg4 g') ?_
        rintro v G2 hx2 rfl
        have hn2 := hx2.next
        have gq2 := (hx2.gets _ (by omega)).trans gq
        have gz2 := (hx2.gets _ (by omega)).trans gz
        have xk := iaddrA_at (j := g.next) (n := 4) (m := gre Q) (x := ((gre Q : Nat) : Int)) rfl hg4
        have lk := fun lo => load_one (lo := lo) gq2 (ints_get (D := Q) (i := gre Q) (by omega))
        by_cases d : Q.getD (gre Q) 0 ≤ turned Q (gre Q)
        · simp +decide (disch := first | assumption | (apply GH.ok_push; assumption) | exact cellV_int _ _ | exact cellV_bool _ | omega) only [go_sem, ↓reduceIte, Nat.reduceEqDiff, Nat.reduceAdd, Int.reduceToNat, he, xk, lk, gq2]
          refine CallD.calm (sorted_rets hX Q hl4 G2) ?_
          rintro v G3 hx3 rfl
          have hn3 := hx3.next
          have gz3 := (hx3.gets _ (by omega)).trans gz2
          have s1 := fun o => GH.get_set_same gz3 Nat.one_ne_zero o
          have hsl : (srt4 Q).length = 4 := (srt4_len Q).trans hl4
          simp +decide (disch := first | assumption | (apply GH.ok_push; assumption) | exact cellV_int _ _ | exact cellV_bool _ | omega) only [go_sem, ↓reduceIte, Nat.reduceEqDiff, Nat.reduceAdd, Int.reduceToNat, he, gz3, s1]
          intro hx
          exact ⟨by omega, by rw [hw.stop d]⟩
        · have hsp : splice (gre Q) (ints Q) [.int .i64 (turned Q (gre Q))] = ints (Q.set (gre Q) (turned Q (gre Q))) := splice_ints (by omega)
          have s1 := fun o => GH.get_set_same gq2 Nat.one_ne_zero o
          simp +decide (disch := first | assumption | (apply GH.ok_push; assumption) | exact cellV_int _ _ | exact cellV_bool _ | omega) only [go_sem, ↓reduceIte, Nat.reduceEqDiff, Nat.reduceAdd, Int.reduceToNat, he, xk, lk, gq2, ints_len, hl4]
          rw [hsp]
          have hsum := sum_step hl4 (show turned Q (gre Q) < Q.getD (gre Q) 0 by omega)
          have hpos := isQ_pos hw.quad
          refine ih (sum1 (Q.set (gre Q) (turned Q (gre Q)))).toNat _ _ _ (by omega) ⟨_, n + 1, rfl, hw.step (by omega), by omega, by simp only [GH.set_next]; omega, s1 _, (GH.get_set_ne gq2 Nat.one_ne_zero _ (by omega)).trans gz2, (by simp +decide (disch := first | assumption | (apply GH.ok_push; assumption) | exact cellV_int _ _ | exact cellV_bool _ | omega) only [go_sem, ↓reduceIte, Nat.reduceEqDiff, Nat.reduceAdd, Int.reduceToNat, he]; first | done | exact rfl)⟩
      · rintro m2 e g' lo ho' hl' ih2 out2 ⟨rfl, hlo, k, hk, hk1, he⟩
        by_cases c : k < 4
        · have hgl : greN Q k < 4 := by
            obtain ⟨k', rfl⟩ : ∃ k', k = k' + 1 := ⟨k - 1, by omega⟩
            have := greN_lt Q k'; omega
          have xk := iaddrA_at (j := g.next) (n := 4) (m := k) (x := (k : Int)) rfl c
          have lk := fun lo => load_one (lo := lo) gq (ints_get (D := Q) (i := k) (by omega))
          have xg := iaddrA_at (j := g.next) (n := 4) (m := greN Q k) (x := ((greN Q k : Nat) : Int)) rfl hgl
          have lg := fun lo => load_one (lo := lo) gq (ints_get (D := Q) (i := greN Q k) (by omega))
          by_cases d : Q.getD (greN Q k) 0 ≤ Q.getD k 0
          · simp +decide (disch := first | assumption | (apply GH.ok_push; assumption) | exact cellV_int _ _ | exact cellV_bool _ | omega) only [go_sem, ↓reduceIte, Nat.reduceEqDiff, Nat.reduceAdd, Int.reduceToNat, he, xk, lk, xg, lg]
            refine ih2 (m2 - 1) _ _ _ (by omega) ⟨rfl, hlo, k + 1, by omega, by omega, ?_⟩
            rw [greN, if_pos d]
            simp +decide (disch := first | assumption | (apply GH.ok_push; assumption) | exact cellV_int _ _ | exact cellV_bool _ | omega) only [go_sem, ↓reduceIte, Nat.reduceEqDiff, Nat.reduceAdd, Int.reduceToNat, he]
          · simp +decide (disch := first | assumption | (apply GH.ok_push; assumption) | exact cellV_int _ _ | exact cellV_bool _ | omega) only [go_sem, ↓reduceIte, Nat.reduceEqDiff, Nat.reduceAdd, Int.reduceToNat, he, xk, lk, xg, lg]
            refine ih2 (m2 - 1) _ _ _ (by omega) ⟨rfl, hlo, k + 1, by omega, by omega, ?_⟩
            rw [greN, if_neg d]
            simp +decide (disch := first | assumption | (apply GH.ok_push; assumption) | exact cellV_int _ _ | exact cellV_bool _ | omega) only [go_sem, ↓reduceIte, Nat.reduceEqDiff, Nat.reduceAdd, Int.reduceToNat, he]
        · simp +decide (disch := first | assumption | (apply GH.ok_push; assumption) | exact cellV_int _ _ | exact cellV_bool _ | omega) only [go_sem, ↓reduceIte, Nat.reduceEqDiff, Nat.reduceAdd, Int.reduceToNat, he]
          refine out2 _ _ _ ⟨rfl, hlo, ?_⟩
          rw [gre, show 4 = k by omega]
          simp +decide (disch := first | assumption | (apply GH.ok_push; assumption) | exact cellV_int _ _ | exact cellV_bool _ | omega) only [go_sem, ↓reduceIte, Nat.reduceEqDiff, Nat.reduceAdd, Int.reduceToNat, he]
  · have hq' : isQ Q0 = false := by simpa using hq0
    have hR : rootR Q0 = (Z4, 0, 2) := by rw [rootR, if_neg hq0]
    have s1 := fun o => GH.get_set_same g21 Nat.one_ne_zero o
    simp +decide (disch := first | assumption | (apply GH.ok_push; assumption) | exact cellV_int _ _ | exact cellV_bool _ | omega) only [go_sem, ↓reduceIte, Nat.reduceEqDiff, Nat.reduceAdd, Int.reduceToNat, hq', buildZ, g21, s1]
    intro hx0
    exact ⟨by omega, by rw [hR]; rfl⟩
end Go.Proofs.Ytdanjjhgfkfghaa
set_option maxRecDepth 100000
set_option maxHeartbeats 8000000
set_option linter.unusedSimpArgs false
set_option linter.unusedVariables false
namespace Go.Proofs.Ytdanjjhgfkfghaa
open Go.Ds
theorem srt_iff {Q : List Int} : Q = srt4 Q ↔ Srt Q := by
  constructor
  · intro h p q hpq hq
    have h1 : (srt4 Q).Pairwise (fun a b => (decide (a ≤ b)) = true) := List.pairwise_mergeSort (fun a b c h1 h2 => by simp at *; omega) (fun a b => by simp; omega) Q
    rw [← h] at h1
    have := List.pairwise_iff_getElem.1 h1 p q (by omega) hq hpq
    rw [getD_get (show p < Q.length by omega), getD_get hq]
    simpa using this
  · exact fun h => srt4_of (List.Perm.refl Q) h
theorem isSorted_rets {X : Caller} (hX : Xok X) (Q : List Int) (hQl : Q.length = 4) (j0 : Nat) (t : TypeId) (g : GH) (hj : j0 < g.next) (hg : g.get j0 = cellsOb (ints Q) t) :
    Rets Try.prog X 49 [.slice (some ⟨j0, 0, none⟩) 4 4] g (fun v g' lo => g.next ≤ lo ∧ v = .bool (decide (Q = srt4 Q))) := by
  refine Rets.run hX.pres p49 (hX.free 49 (by decide) (by decide) (by decide) _ _) rfl fun ho => ?_
  have h4 : ((4 : Nat) : Int) = 4 := rfl
  simp +decide (disch := first | assumption | (apply GH.ok_push; assumption) | exact cellV_int _ _ | exact cellV_bool _ | omega) only [go_sem, ↓reduceIte, Nat.reduceEqDiff, Nat.reduceAdd, Int.reduceToNat, h4]
  refine Wk.loops (fun m e g' lo => g.next ≤ lo ∧ g.next ≤ g'.next ∧ g'.get j0 = cellsOb (ints Q) t ∧ m ≤ 3 ∧ (ev e (.s 0) = .slice (some ⟨j0, 0, none⟩) 4 4 ∧ ev e (.s 3) = .int .i64 m) ∧ ∀ i, m < i → i < 4 → Q.getD (i - 1) 0 ≤ Q.getD i 0)
    (fun e g' lo => g.next ≤ lo ∧ Srt Q) (n := 3) ?_ ?_ ?_
  · exact ⟨Nat.le_refl _, Nat.le_refl _, hg, Nat.le_refl _, (by simp +decide (disch := first | assumption | (apply GH.ok_push; assumption) | exact cellV_int _ _ | exact cellV_bool _ | omega) only [go_sem, ↓reduceIte, Nat.reduceEqDiff, Nat.reduceAdd, Int.reduceToNat]; first | done | exact rfl), fun i h1 h2 => by omega⟩
  · rintro e g' lo - - ⟨hlo, h⟩
    simp +decide (disch := first | assumption | (apply GH.ok_push; assumption) | exact cellV_int _ _ | exact cellV_bool _ | omega) only [go_sem, ↓reduceIte, Nat.reduceEqDiff, Nat.reduceAdd, Int.reduceToNat]
    intro hx
    exact ⟨hlo, by rw [decide_eq_true (srt_iff.2 h)]⟩
  · rintro m e g' lo ho' hl' ih out ⟨hlo, hn, hg, hm, he, hs⟩
    by_cases c : 0 < m
    · have x1 := iaddrS_at (j := j0) (n := 4) (c := 4) (m := m) (x := (m : Int)) rfl (by omega)
      have x2 := iaddrS_at (j := j0) (n := 4) (c := 4) (m := m - 1) (x := (m : Int) - 1) (by omega) (by omega)
      have l1 := fun lo => load_one (lo := lo) hg (ints_get (D := Q) (i := m) (by omega))
      have l2 := fun lo => load_one (lo := lo) hg (ints_get (D := Q) (i := m - 1) (by omega))
      simp +decide (disch := first | assumption | (apply GH.ok_push; assumption) | exact cellV_int _ _ | exact cellV_bool _ | omega) only [go_sem, ↓reduceIte, Nat.reduceEqDiff, Nat.reduceAdd, Int.reduceToNat, he, x1, x2, l1, l2]
      refine CallD.calm (cmpLess_rets hX (Q.getD m 0) (Q.getD (m - 1) 0) g') ?_
      rintro v G hx rfl
      have hn1 := hx.next
      by_cases d : Q.getD m 0 < Q.getD (m - 1) 0
      · rw [decide_eq_true d]
        simp +decide (disch := first | assumption | (apply GH.ok_push; assumption) | exact cellV_int _ _ | exact cellV_bool _ | omega) only [go_sem, ↓reduceIte, Nat.reduceEqDiff, Nat.reduceAdd, Int.reduceToNat]
        intro hx
        refine ⟨by omega, ?_⟩
        rw [decide_eq_false fun h => by have := srt_iff.1 h (m - 1) m (by omega) (by omega); omega]
      · rw [decide_eq_false d]
        simp +decide (disch := first | assumption | (apply GH.ok_push; assumption) | exact cellV_int _ _ | exact cellV_bool _ | omega) only [go_sem, ↓reduceIte, Nat.reduceEqDiff, Nat.reduceAdd, Int.reduceToNat, he]
        refine ih (m - 1) _ _ _ (by omega) ⟨hlo, by omega, (hx.gets _ (by omega)).trans hg, by omega, ?_, fun i h1 h2 => ?_⟩
        · simp +decide (disch := first | assumption | (apply GH.ok_push; assumption) | exact cellV_int _ _ | exact cellV_bool _ | omega) only [go_sem, ↓reduceIte, Nat.reduceEqDiff, Nat.reduceAdd, Int.reduceToNat, he]
          congr 1; omega
        · by_cases ci : i = m
          · rw [ci]; omega
          · exact hs i (by omega) h2
    · simp +decide (disch := first | assumption | (apply GH.ok_push; assumption) | exact cellV_int _ _ | exact cellV_bool _ | omega) only [go_sem, ↓reduceIte, Nat.reduceEqDiff, Nat.reduceAdd, Int.reduceToNat, he]
      refine out _ _ _ ⟨hlo, fun p q h1 h2 => ?_⟩
      have h01 := hs 1 (by omega) (by omega)
      have h12 := hs 2 (by omega) (by omega)
      have h23 := hs 3 (by omega) (by omega)
      simp only [show 1 - 1 = 0 from rfl, show 2 - 1 = 1 from rfl, show 3 - 1 = 2 from rfl] at h01 h12 h23
      have hp : p = 0 ∨ p = 1 ∨ p = 2 := by omega
      have hq : q = 1 ∨ q = 2 ∨ q = 3 := by omega
      rcases hp with rfl | rfl | rfl <;> rcases hq with rfl | rfl | rfl <;> omega
/-- What IsRoot returns. -/
def isR (Q : List Int) : Bool := isQ Q && (decide (Q = srt4 Q) && (decide (Q.getD 0 0 ≤ 0) && decide (Q.getD 3 0 ≤ Q.getD 0 0 + Q.getD 1 0 + Q.getD 2 0)))
theorem isRoot_rets {X : Caller} (hX : Xall X) (Q : List Int) (hQl : Q.length = 4) (g : GH) :
    Rets Try.prog X 17 [.agg (ints Q).toArray] g (fun v g' lo => g.next ≤ lo ∧ v = .bool (isR Q)) := by
  have hXX := hX
  have hX := hX.toXok
  refine Rets.run hX.pres p17 (hX.free 17 (by decide) (by decide) (by decide) _ _) rfl fun ho => ?_
  simp +decide only [dseq, dreg, dbox, dalloc, nV_eq, cellsOf, tick, ev_put, ev_fill, ev_fill0, ev_none, ↓reduceIte, Nat.reduceEqDiff, Nat.reduceAdd]
  obtain ⟨hk0, hok, hnx, g1⟩ := boxQ ho Q 23
  generalize g.push (cellsOb (ints Q) 23) = G at *
  simp +decide (disch := first | assumption | (apply GH.ok_push; assumption) | exact cellV_int _ _ | exact cellV_bool _ | omega) only [go_sem, ↓reduceIte, Nat.reduceEqDiff, Nat.reduceAdd, Int.reduceToNat, g1]
  refine CallD.calm (discQ hXX Q hQl G) ?_
  rintro v G1 hx1 rfl
  have hn1 := hx1.next
  have g11 := (hx1.gets _ (by omega)).trans g1
  by_cases hq : isQ Q = true
  · have hall := isQ_all hq
    have b0 := inR_getD hall 0
    have b1 := inR_getD hall 1
    have b2 := inR_getD hall 2
    have hslc : slcAF 4 1 (.pointer (some ⟨g.next, 0, none⟩)) none none = some (.slice (some ⟨g.next, 0, none⟩) 4 4) := rfl
    simp +decide (disch := first | assumption | (apply GH.ok_push; assumption) | exact cellV_int _ _ | exact cellV_bool _ | omega) only [go_sem, ↓reduceIte, Nat.reduceEqDiff, Nat.reduceAdd, Int.reduceToNat, hq, hslc]
    refine CallD.calm (isSorted_rets hX Q hQl g.next 23 G1 (by omega) g11) ?_
    rintro v G2 hx2 rfl
    have hn2 := hx2.next
    have g12 := (hx2.gets _ (by omega)).trans g11
    have x0 := iaddrA_at (j := g.next) (n := 4) (m := 0) (x := 0) rfl (by decide)
    have x1 := iaddrA_at (j := g.next) (n := 4) (m := 1) (x := 1) rfl (by decide)
    have x2 := iaddrA_at (j := g.next) (n := 4) (m := 2) (x := 2) rfl (by decide)
    have x3 := iaddrA_at (j := g.next) (n := 4) (m := 3) (x := 3) rfl (by decide)
    have hl : ∀ (m : Nat) (_ : m < 4) lo, loadF none (G2.at lo) (.pointer (some ⟨g.next, m, none⟩)) = some (.int .i64 (Q.getD m 0)) := fun m hm lo => load_one g12 (ints_get (by omega))
    have l0 := hl 0 (by decide)
    have l1 := hl 1 (by decide)
    have l2 := hl 2 (by decide)
    have l3 := hl 3 (by decide)
    by_cases hs : Q = srt4 Q
    · rw [decide_eq_true hs]
      by_cases h0 : Q.getD 0 0 ≤ 0
      · by_cases h3 : Q.getD 3 0 ≤ Q.getD 0 0 + Q.getD 1 0 + Q.getD 2 0
        · simp +decide (disch := first | assumption | (apply GH.ok_push; assumption) | exact cellV_int _ _ | exact cellV_bool _ | omega) only [go_sem, ↓reduceIte, Nat.reduceEqDiff, Nat.reduceAdd, Int.reduceToNat, x0, x1, x2, x3, l0, l1, l2, l3]
          intro hx
          exact ⟨by omega, by rw [isR, hq, decide_eq_true hs, decide_eq_true h0, decide_eq_true h3]; rfl⟩
        · simp +decide (disch := first | assumption | (apply GH.ok_push; assumption) | exact cellV_int _ _ | exact cellV_bool _ | omega) only [go_sem, ↓reduceIte, Nat.reduceEqDiff, Nat.reduceAdd, Int.reduceToNat, x0, x1, x2, x3, l0, l1, l2, l3]
          intro hx
          exact ⟨by omega, by rw [isR, hq, decide_eq_true hs, decide_eq_true h0, decide_eq_false h3]; rfl⟩
      · simp +decide (disch := first | assumption | (apply GH.ok_push; assumption) | exact cellV_int _ _ | exact cellV_bool _ | omega) only [go_sem, ↓reduceIte, Nat.reduceEqDiff, Nat.reduceAdd, Int.reduceToNat, x0, l0]
        intro hx
        exact ⟨by omega, by rw [isR, hq, decide_eq_true hs, decide_eq_false h0]; rfl⟩
    · rw [decide_eq_false hs]
      simp +decide (disch := first | assumption | (apply GH.ok_push; assumption) | exact cellV_int _ _ | exact cellV_bool _ | omega) only [go_sem, ↓reduceIte, Nat.reduceEqDiff, Nat.reduceAdd, Int.reduceToNat]
      intro hx
      exact ⟨by omega, by rw [isR, hq, decide_eq_false hs]; rfl⟩
  · have hq' : isQ Q = false := by simpa using hq
    simp +decide (disch := first | assumption | (apply GH.ok_push; assumption) | exact cellV_int _ _ | exact cellV_bool _ | omega) only [go_sem, ↓reduceIte, Nat.reduceEqDiff, Nat.reduceAdd, Int.reduceToNat, hq']
    intro hx
    exact ⟨by omega, by rw [isR, hq']; rfl⟩
end Go.Proofs.Ytdanjjhgfkfghaa
set_option maxRecDepth 100000
set_option maxHeartbeats 8000000
set_option linter.unusedSimpArgs false
set_option linter.unusedVariables false
namespace Go.Proofs.Ytdanjjhgfkfghaa
open Go.Ds
theorem refIsRoot_rets {X : Caller} (hX : Xall X) (Q : List Int) (hQl : Q.length = 4) (g : GH) :
    Rets Try.prog X 18 [.agg (ints Q).toArray] g (fun v g' lo => g.next ≤ lo ∧ v = .bool (isR Q)) := by
  have hXX := hX
  have hX := hX.toXok
  refine Rets.run hX.pres p18 (hX.free 18 (by decide) (by decide) (by decide) _ _) rfl fun ho => ?_
  simp +decide only [dseq, dreg, dbox, dalloc, nV_eq, cellsOf, tick, ev_put, ev_fill, ev_fill0, ev_none, ↓reduceIte, Nat.reduceEqDiff, Nat.reduceAdd]
  obtain ⟨hk0, hok, hnx, g1⟩ := boxQ ho Q 23
  generalize g.push (cellsOb (ints Q) 23) = G at *
  simp +decide (disch := first | assumption | (apply GH.ok_push; assumption) | exact cellV_int _ _ | exact cellV_bool _ | omega) only [go_sem, ↓reduceIte, Nat.reduceEqDiff, Nat.reduceAdd, Int.reduceToNat, g1]
  refine CallD.calm (refQ hXX Q hQl G) ?_
  rintro v G1 hx1 rfl
  have hn1 := hx1.next
  have g11 := (hx1.gets _ (by omega)).trans g1
  by_cases hq : isQ Q = true
  · have hall := isQ_all hq
    have b0 := inR_getD hall 0
    have b1 := inR_getD hall 1
    have b2 := inR_getD hall 2
    simp +decide (disch := first | assumption | (apply GH.ok_push; assumption) | exact cellV_int _ _ | exact cellV_bool _ | omega) only [go_sem, ↓reduceIte, Nat.reduceEqDiff, Nat.reduceAdd, Int.reduceToNat, hq, g11]
    refine CallD.calmH (by simp +decide (disch := first | assumption | (apply GH.ok_push; assumption) | exact cellV_int _ _ | exact cellV_bool _ | omega) only [go_sem, ↓reduceIte, Nat.reduceEqDiff, Nat.reduceAdd, Int.reduceToNat, spansOf, spanAt, Nat.lt_irrefl]; first | done | rfl) rfl (sorted_rets hX Q hQl G1) ?_
    rintro v G2 hx2 rfl
    have hn2 := hx2.next
    have g12 := (hx2.gets _ (by omega)).trans g11
    have heq := eqQ hQl ((srt4_len Q).trans hQl)
    have x0 := iaddrA_at (j := g.next) (n := 4) (m := 0) (x := 0) rfl (by decide)
    have x1 := iaddrA_at (j := g.next) (n := 4) (m := 1) (x := 1) rfl (by decide)
    have x2 := iaddrA_at (j := g.next) (n := 4) (m := 2) (x := 2) rfl (by decide)
    have x3 := iaddrA_at (j := g.next) (n := 4) (m := 3) (x := 3) rfl (by decide)
    have hl : ∀ (m : Nat) (_ : m < 4) lo, loadF none (G2.at lo) (.pointer (some ⟨g.next, m, none⟩)) = some (.int .i64 (Q.getD m 0)) := fun m hm lo => load_one g12 (ints_get (by omega))
    have l0 := hl 0 (by decide)
    have l1 := hl 1 (by decide)
    have l2 := hl 2 (by decide)
    have l3 := hl 3 (by decide)
    by_cases hs : Q = srt4 Q
    · rw [decide_eq_true hs] at heq
      by_cases h0 : Q.getD 0 0 ≤ 0
      · by_cases h3 : Q.getD 3 0 ≤ Q.getD 0 0 + Q.getD 1 0 + Q.getD 2 0
        · simp +decide (disch := first | assumption | (apply GH.ok_push; assumption) | exact cellV_int _ _ | exact cellV_bool _ | omega) only [go_sem, ↓reduceIte, Nat.reduceEqDiff, Nat.reduceAdd, Int.reduceToNat, heq, x0, x1, x2, x3, l0, l1, l2, l3]
          intro hx
          exact ⟨by omega, by rw [isR, hq, decide_eq_true hs, decide_eq_true h0, decide_eq_true h3]; rfl⟩
        · simp +decide (disch := first | assumption | (apply GH.ok_push; assumption) | exact cellV_int _ _ | exact cellV_bool _ | omega) only [go_sem, ↓reduceIte, Nat.reduceEqDiff, Nat.reduceAdd, Int.reduceToNat, heq, x0, x1, x2, x3, l0, l1, l2, l3]
          intro hx
          exact ⟨by omega, by rw [isR, hq, decide_eq_true hs, decide_eq_true h0, decide_eq_false h3]; rfl⟩
      · simp +decide (disch := first | assumption | (apply GH.ok_push; assumption) | exact cellV_int _ _ | exact cellV_bool _ | omega) only [go_sem, ↓reduceIte, Nat.reduceEqDiff, Nat.reduceAdd, Int.reduceToNat, heq, x0, l0]
        intro hx
        exact ⟨by omega, by rw [isR, hq, decide_eq_true hs, decide_eq_false h0]; rfl⟩
    · rw [decide_eq_false hs] at heq
      simp +decide (disch := first | assumption | (apply GH.ok_push; assumption) | exact cellV_int _ _ | exact cellV_bool _ | omega) only [go_sem, ↓reduceIte, Nat.reduceEqDiff, Nat.reduceAdd, Int.reduceToNat, heq]
      intro hx
      exact ⟨by omega, by rw [isR, hq, decide_eq_false hs]; rfl⟩
  · have hq' : isQ Q = false := by simpa using hq
    simp +decide (disch := first | assumption | (apply GH.ok_push; assumption) | exact cellV_int _ _ | exact cellV_bool _ | omega) only [go_sem, ↓reduceIte, Nat.reduceEqDiff, Nat.reduceAdd, Int.reduceToNat, hq']
    intro hx
    exact ⟨by omega, by rw [isR, hq']; rfl⟩
/-- What Same returns. -/
def sameR (A B : List Int) : Bool × Int := if (rootR A).2.2 = 0 then (if (rootR B).2.2 = 0 then (decide ((rootR A).1 = (rootR B).1), 0) else (false, (rootR B).2.2)) else (false, (rootR A).2.2)
theorem sameQ_rets {X : Caller} (hX : Xall X) (A B : List Int) (hA : A.length = 4) (hB : B.length = 4) (g : GH) :
    Rets Try.prog X 19 [.agg (ints A).toArray, .agg (ints B).toArray] g (fun v g' lo => g.next ≤ lo ∧ v = .tuple #[.bool (sameR A B).1, .int .i64 (sameR A B).2]) := by
  have hXX := hX
  have hX := hX.toXok
  have hz4 := z4len
  have hlA := rootR_len hA
  have hlB := rootR_len hB
  refine Rets.run hX.pres p19 (hX.free 19 (by decide) (by decide) (by decide) _ _) rfl fun ho => ?_
  simp +decide only [dseq, dreg, dbox, dalloc, nV_eq, cellsOf, tick, ev_put, ev_fill, ev_fill0, ev_none, ↓reduceIte, Nat.reduceEqDiff, Nat.reduceAdd]
  obtain ⟨hk, hok, hnx, g1, g2⟩ := two ho (cellsOb (ints A) 23) (cellsOb (ints B) 23)
  generalize (g.push (cellsOb (ints A) 23)).push (cellsOb (ints B) 23) = G at *
  simp +decide (disch := first | assumption | (apply GH.ok_push; assumption) | exact cellV_int _ _ | exact cellV_bool _ | omega) only [go_sem, ↓reduceIte, Nat.reduceEqDiff, Nat.reduceAdd, Int.reduceToNat, g1]
  refine CallD.calm (root_rets hXX A hA G) ?_
  rintro v G1 hx1 rfl
  have hn1 := hx1.next
  have hok1 := hx1.ok hok
  have g21 := (hx1.gets _ (by omega)).trans g2
  obtain ⟨G2, e2, hk2, hok2, hn2, ga2⟩ := quadNew hok1 hlA
  have g22 := (hk2.gets _ (by omega)).trans g21
  by_cases c1 : (rootR A).2.2 = 0
  · simp +decide (disch := first | assumption | (apply GH.ok_push; assumption) | exact cellV_int _ _ | exact cellV_bool _ | omega) only [go_sem, ↓reduceIte, Nat.reduceEqDiff, Nat.reduceAdd, Int.reduceToNat, ext30, ext31, ext2, hok1, c1]
    rw [e2]
    simp +decide (disch := first | assumption | (apply GH.ok_push; assumption) | exact cellV_int _ _ | exact cellV_bool _ | omega) only [go_sem, ↓reduceIte, Nat.reduceEqDiff, Nat.reduceAdd, Int.reduceToNat, g22]
    refine CallD.calm (root_rets hXX B hB G2) ?_
    rintro v G3 hx3 rfl
    have hn3 := hx3.next
    have hok3 := hx3.ok hok2
    have ga3 := (hx3.gets _ (by omega)).trans ga2
    obtain ⟨G4, e4, hk4, hok4, hn4, gb4⟩ := quadNew hok3 hlB
    have ga4 := (hk4.gets _ (by omega)).trans ga3
    have heq := eqQ hlA hlB
    by_cases c2 : (rootR B).2.2 = 0
    · simp +decide (disch := first | assumption | (apply GH.ok_push; assumption) | exact cellV_int _ _ | exact cellV_bool _ | omega) only [go_sem, ↓reduceIte, Nat.reduceEqDiff, Nat.reduceAdd, Int.reduceToNat, ext30, ext31, ext2, hok3, c2]
      rw [e4]
      simp +decide (disch := first | assumption | (apply GH.ok_push; assumption) | exact cellV_int _ _ | exact cellV_bool _ | omega) only [go_sem, ↓reduceIte, Nat.reduceEqDiff, Nat.reduceAdd, Int.reduceToNat, ga4, gb4, heq]
      intro hx
      exact ⟨by omega, by rw [sameR, if_pos c1, if_pos c2]⟩
    · simp +decide (disch := first | assumption | (apply GH.ok_push; assumption) | exact cellV_int _ _ | exact cellV_bool _ | omega) only [go_sem, ↓reduceIte, Nat.reduceEqDiff, Nat.reduceAdd, Int.reduceToNat, ext30, ext31, ext2, hok3, c2]
      intro hx
      exact ⟨by omega, by rw [sameR, if_pos c1, if_neg c2]⟩
  · simp +decide (disch := first | assumption | (apply GH.ok_push; assumption) | exact cellV_int _ _ | exact cellV_bool _ | omega) only [go_sem, ↓reduceIte, Nat.reduceEqDiff, Nat.reduceAdd, Int.reduceToNat, ext30, ext31, ext2, hok1, c1]
    intro hx
    exact ⟨by omega, by rw [sameR, if_neg c1]⟩
theorem refSame_rets {X : Caller} (hX : Xall X) (A B : List Int) (hA : A.length = 4) (hB : B.length = 4) (g : GH) :
    Rets Try.prog X 20 [.agg (ints A).toArray, .agg (ints B).toArray] g (fun v g' lo => g.next ≤ lo ∧ v = .tuple #[.bool (sameR A B).1, .int .i64 (sameR A B).2]) := by
  have hXX := hX
  have hX := hX.toXok
  have hz4 := z4len
  have hlA := rootR_len hA
  have hlB := rootR_len hB
  refine Rets.run hX.pres p20 (hX.free 20 (by decide) (by decide) (by decide) _ _) rfl fun ho => ?_
  simp +decide only [dseq, dreg, dbox, dalloc, nV_eq, cellsOf, tick, ev_put, ev_fill, ev_fill0, ev_none, ↓reduceIte, Nat.reduceEqDiff, Nat.reduceAdd]
  obtain ⟨hk, hok, hnx, g1, g2⟩ := two ho (cellsOb (ints A) 23) (cellsOb (ints B) 23)
  generalize (g.push (cellsOb (ints A) 23)).push (cellsOb (ints B) 23) = G at *
  simp +decide (disch := first | assumption | (apply GH.ok_push; assumption) | exact cellV_int _ _ | exact cellV_bool _ | omega) only [go_sem, ↓reduceIte, Nat.reduceEqDiff, Nat.reduceAdd, Int.reduceToNat, g1]
  refine CallD.calm (refRoot_rets hXX A hA G) ?_
  rintro v G1 hx1 rfl
  have hn1 := hx1.next
  have hok1 := hx1.ok hok
  have g21 := (hx1.gets _ (by omega)).trans g2
  obtain ⟨G2, e2, hk2, hok2, hn2, ga2⟩ := quadNew hok1 hlA
  have g22 := (hk2.gets _ (by omega)).trans g21
  by_cases c1 : (rootR A).2.2 = 0
  · simp +decide (disch := first | assumption | (apply GH.ok_push; assumption) | exact cellV_int _ _ | exact cellV_bool _ | omega) only [go_sem, ↓reduceIte, Nat.reduceEqDiff, Nat.reduceAdd, Int.reduceToNat, ext30, ext31, ext2, hok1, c1]
    rw [e2]
    simp +decide (disch := first | assumption | (apply GH.ok_push; assumption) | exact cellV_int _ _ | exact cellV_bool _ | omega) only [go_sem, ↓reduceIte, Nat.reduceEqDiff, Nat.reduceAdd, Int.reduceToNat, g22]
    refine CallD.calm (refRoot_rets hXX B hB G2) ?_
    rintro v G3 hx3 rfl
    have hn3 := hx3.next
    have hok3 := hx3.ok hok2
    have ga3 := (hx3.gets _ (by omega)).trans ga2
    obtain ⟨G4, e4, hk4, hok4, hn4, gb4⟩ := quadNew hok3 hlB
    have ga4 := (hk4.gets _ (by omega)).trans ga3
    have heq := eqQ hlA hlB
    by_cases c2 : (rootR B).2.2 = 0
    · simp +decide (disch := first | assumption | (apply GH.ok_push; assumption) | exact cellV_int _ _ | exact cellV_bool _ | omega) only [go_sem, ↓reduceIte, Nat.reduceEqDiff, Nat.reduceAdd, Int.reduceToNat, ext30, ext31, ext2, hok3, c2]
      rw [e4]
      simp +decide (disch := first | assumption | (apply GH.ok_push; assumption) | exact cellV_int _ _ | exact cellV_bool _ | omega) only [go_sem, ↓reduceIte, Nat.reduceEqDiff, Nat.reduceAdd, Int.reduceToNat, ga4, gb4, heq]
      intro hx
      exact ⟨by omega, by rw [sameR, if_pos c1, if_pos c2]⟩
    · simp +decide (disch := first | assumption | (apply GH.ok_push; assumption) | exact cellV_int _ _ | exact cellV_bool _ | omega) only [go_sem, ↓reduceIte, Nat.reduceEqDiff, Nat.reduceAdd, Int.reduceToNat, ext30, ext31, ext2, hok3, c2]
      intro hx
      exact ⟨by omega, by rw [sameR, if_pos c1, if_neg c2]⟩
  · simp +decide (disch := first | assumption | (apply GH.ok_push; assumption) | exact cellV_int _ _ | exact cellV_bool _ | omega) only [go_sem, ↓reduceIte, Nat.reduceEqDiff, Nat.reduceAdd, Int.reduceToNat, ext30, ext31, ext2, hok1, c1]
    intro hx
    exact ⟨by omega, by rw [sameR, if_neg c1]⟩
end Go.Proofs.Ytdanjjhgfkfghaa
set_option maxRecDepth 100000
set_option maxHeartbeats 8000000
set_option linter.unusedSimpArgs false
set_option linter.unusedVariables false
namespace Go.Proofs.Ytdanjjhgfkfghaa
open Go.Ds
theorem eqB_same (n b : Bool) : eqBF n (.bool b) (.bool b) = some (.bool (!n)) := by cases n <;> cases b <;> rfl
theorem quadsLaw_rets {X : Caller} (hX : Xall X) (A B : List Int) (hA : A.length = 4) (hB : B.length = 4) (g : GH) :
    Rets Try.prog X 3 [.agg (ints A).toArray, .agg (ints B).toArray] g (fun v g' lo => v = .bool true) := by
  have hXX := hX
  have hX := hX.toXok
  refine Rets.run hX.pres p3 (hX.free 3 (by decide) (by decide) (by decide) _ _) rfl fun ho => ?_
  simp +decide only [dseq, dreg, dbox, dalloc, nV_eq, cellsOf, tick, ev_put, ev_fill, ev_fill0, ev_none, ↓reduceIte, Nat.reduceEqDiff, Nat.reduceAdd]
  obtain ⟨hk, hok, hnx, g1, g2⟩ := two ho (cellsOb (ints A) 23) (cellsOb (ints B) 23)
  generalize (g.push (cellsOb (ints A) 23)).push (cellsOb (ints B) 23) = G at *
  simp +decide (disch := first | assumption | (apply GH.ok_push; assumption) | exact cellV_int _ _ | exact cellV_bool _ | omega) only [go_sem, ↓reduceIte, Nat.reduceEqDiff, Nat.reduceAdd, Int.reduceToNat, g1]
  refine CallD.calm (discQ hXX A hA G) ?_
  rintro v G1 hx1 rfl
  have hn1 := hx1.next
  have g11 := (hx1.gets _ (by omega)).trans g1
  have g21 := (hx1.gets _ (by omega)).trans g2
  simp +decide (disch := first | assumption | (apply GH.ok_push; assumption) | exact cellV_int _ _ | exact cellV_bool _ | omega) only [go_sem, ↓reduceIte, Nat.reduceEqDiff, Nat.reduceAdd, Int.reduceToNat, g11]
  refine CallD.calm (refQ hXX A hA G1) ?_
  rintro v G2 hx2 rfl
  have hn2 := hx2.next
  have g12 := (hx2.gets _ (by omega)).trans g11
  have g22 := (hx2.gets _ (by omega)).trans g21
  simp +decide (disch := first | assumption | (apply GH.ok_push; assumption) | exact cellV_int _ _ | exact cellV_bool _ | omega) only [go_sem, ↓reduceIte, Nat.reduceEqDiff, Nat.reduceAdd, Int.reduceToNat, g12, eqB_same]
  refine CallD.calm (isRoot_rets hXX A hA G2) ?_
  rintro v G3 hx3 rfl
  have hn3 := hx3.next
  have g13 := (hx3.gets _ (by omega)).trans g12
  have g23 := (hx3.gets _ (by omega)).trans g22
  simp +decide (disch := first | assumption | (apply GH.ok_push; assumption) | exact cellV_int _ _ | exact cellV_bool _ | omega) only [go_sem, ↓reduceIte, Nat.reduceEqDiff, Nat.reduceAdd, Int.reduceToNat, g13]
  refine CallD.calm (refIsRoot_rets hXX A hA G3) ?_
  rintro v G4 hx4 rfl
  have hn4 := hx4.next
  have g14 := (hx4.gets _ (by omega)).trans g13
  have g24 := (hx4.gets _ (by omega)).trans g23
  simp +decide (disch := first | assumption | (apply GH.ok_push; assumption) | exact cellV_int _ _ | exact cellV_bool _ | omega) only [go_sem, ↓reduceIte, Nat.reduceEqDiff, Nat.reduceAdd, Int.reduceToNat, g14, g24, eqB_same]
  refine CallD.calm (sameQ_rets hXX A B hA hB G4) ?_
  rintro v G5 hx5 rfl
  have hn5 := hx5.next
  have g15 := (hx5.gets _ (by omega)).trans g14
  have g25 := (hx5.gets _ (by omega)).trans g24
  simp +decide (disch := first | assumption | (apply GH.ok_push; assumption) | exact cellV_int _ _ | exact cellV_bool _ | omega) only [go_sem, ↓reduceIte, Nat.reduceEqDiff, Nat.reduceAdd, Int.reduceToNat, g15, g25, ext0, ext1]
  refine CallD.calm (refSame_rets hXX A B hA hB G5) ?_
  rintro v G6 hx6 rfl
  simp +decide (disch := first | assumption | (apply GH.ok_push; assumption) | exact cellV_int _ _ | exact cellV_bool _ | omega) only [go_sem, ↓reduceIte, Nat.reduceEqDiff, Nat.reduceAdd, Int.reduceToNat, ext0, ext1, eqB_same, eq_self]
  refine CallD.calm (hXX.alive G6) ?_
  rintro v G7 hx7 rfl
  simp +decide (disch := first | assumption | (apply GH.ok_push; assumption) | exact cellV_int _ _ | exact cellV_bool _ | omega) only [go_sem, ↓reduceIte, Nat.reduceEqDiff, Nat.reduceAdd, Int.reduceToNat]
  intro hx
  trivial
end Go.Proofs.Ytdanjjhgfkfghaa
