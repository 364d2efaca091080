import Derived.Test.YtieliilnnfjijaaK3
set_option linter.all false
set_option linter.unusedSimpArgs false
set_option linter.unnecessarySimpa false
set_option linter.unusedVariables false
set_option linter.unusedSectionVars false
set_option maxRecDepth 100000
set_option maxHeartbeats 8000000
set_option linter.unusedSimpArgs false
set_option linter.unusedVariables false
namespace Go.Proofs.Ytieliilnnfjijaa
open Go.Ds
theorem exact_at {L : List Int} {N : Nat} (h : Prod L N) {r c : Nat} (hr : r < L.length) (hc : (c : Int) < L.getD r 0) : (divs (divs (fact N) ((hooksL L).take r).flatten) ((hookRow L r).take c)).tmod (hookV L r c) = 0 := by
  obtain ⟨q1, q2, q3⟩ := hookRow_get hc
  have hsplit : (hooksL L).flatten = ((hooksL L).take r).flatten ++ (hookRow L r ++ ((hooksL L).drop (r + 1)).flatten) := by
    conv => lhs; rw [← List.take_append_drop r (hooksL L)]
    rw [List.flatten_append, getD_cons (by rw [hooksL_len]; exact hr), hooksL_getD hr, List.flatten_cons]
  have hlen : (((hooksL L).take r).flatten.length + c) < (hooksL L).flatten.length := by rw [hsplit]; simp; omega
  have := h.exact _ hlen
  have e1 : (hooksL L).flatten.take (((hooksL L).take r).flatten.length + c) = ((hooksL L).take r).flatten ++ (hookRow L r).take c := by
    rw [hsplit, List.take_length_add_append, List.take_append_of_le_length (by omega)]
  have e2 : (hooksL L).flatten.getD (((hooksL L).take r).flatten.length + c) 0 = hookV L r c := by
    rw [hsplit, List.getD_eq_getElem?_getD, List.getElem?_append_right (by omega), Nat.add_sub_cancel_left, List.getElem?_append_left q3, ← List.getD_eq_getElem?_getD, q2]
  rw [e1, e2, divs_app] at this
  exact this
theorem lessL_snoc (L : List Int) (r j : Nat) : lessL L r (j + 1) = lessL L r j ++ (if 0 < (if j = r then L.getD j 0 - 1 else L.getD j 0) then [if j = r then L.getD j 0 - 1 else L.getD j 0] else []) := by
  unfold lessL
  rw [List.range_succ, List.map_append, List.filter_append]
  congr 1
  simp only [List.map_cons, List.map_nil, List.filter_cons, List.filter_nil]
  split <;> split <;> simp_all
theorem lessL_len (L : List Int) (r j : Nat) : (lessL L r j).length ≤ j := by
  unfold lessL
  refine Nat.le_trans (List.length_filter_le _ _) ?_
  simp
theorem sumW_bnd {L : List Int} {N : Nat} (h : Prod L N) : ∀ i, i ≤ L.length → 0 ≤ sumW L i ∧ sumW L i ≤ 2432902008176640000 * (i : Int)
  | 0, _ => by simp [sumW]
  | i + 1, hi => by
    have ih := sumW_bnd h i (by omega)
    rw [sumW]
    by_cases hc : cornerB L i = true
    · have := h.less i (by omega) hc
      rw [if_pos hc]; push_cast; omega
    · rw [if_neg hc]; push_cast; omega
theorem sumW_mono {L : List Int} {N : Nat} (h : Prod L N) {i : Nat} (hi : i ≤ L.length) : ∀ j, j ≤ L.length - i → sumW L i ≤ sumW L (i + j)
  | 0, _ => Int.le_refl _
  | j + 1, hj => by
    have ih := sumW_mono h hi j (by omega)
    have : sumW L (i + j) ≤ sumW L (i + j + 1) := by
      rw [sumW]
      by_cases hc : cornerB L (i + j) = true
      · have := h.less (i + j) (by omega) hc
        rw [if_pos hc]; omega
      · rw [if_neg hc]; omega
    exact Int.le_trans ih this
theorem sumW_big {L : List Int} {N : Nat} (h : Prod L N) (hz : N = 0 → L.length = 0) {i : Nat} (hi : i ≤ L.length) : 0 ≤ sumW L i ∧ sumW L i ≤ 2432902008176640000 := by
  refine ⟨(sumW_bnd h i hi).1, ?_⟩
  by_cases h0 : N = 0
  · have := hz h0
    have h00 : i = 0 := by omega
    subst h00; simp [sumW]
  · have h1 := sumW_mono h hi (L.length - i) (Nat.le_refl _)
    rw [show i + (L.length - i) = L.length by omega, h.sum h0] at h1
    have := h.big
    omega
end Go.Proofs.Ytieliilnnfjijaa
set_option maxRecDepth 100000
set_option maxHeartbeats 8000000
set_option linter.unusedSimpArgs false
set_option linter.unusedVariables false
namespace Go.Proofs.Ytieliilnnfjijaa
open Go.Ds
theorem productLaw_rets {X : Caller} (hX : Xok X) (L : List Int) (s : Value) (g : GH) (hs : SlR g s (ints L)) :
    Rets Try.prog X 13 [s] g (fun v g' lo => g.next ≤ lo ∧ v = .bool true) := by
  refine Rets.run hX.pres p13 (hX.free 13 (by decide) _ _) rfl fun ho => ?_
  have hl := hs.len
  rw [ints_len] at hl
  simp +decide (disch := first | assumption | (apply GH.ok_push; assumption) | exact cellV_int _ _ | exact cellV_bool _ | omega) only [go_sem, ↓reduceIte, Nat.reduceEqDiff, Nat.reduceAdd, Int.reduceToNat]
  refine CallD.calm (few_rets hX L [] s _ g hs Sl2.nil) ?_
  rintro v G hx rfl
  have hn := hx.next
  have hs1 := hs.ext hx
  have alive : ∀ (G : GH), g.next ≤ G.next → Rets Try.prog X 16 [] G (fun v g' lo => G.next ≤ lo ∧ v = .bool true) := fun G _ => hX.alive G
  by_cases c : L.length ≤ 60
  case neg =>
    have hf : fewB L [] = false := by simp [fewB, c]
    simp +decide (disch := first | assumption | (apply GH.ok_push; assumption) | exact cellV_int _ _ | exact cellV_bool _ | omega) only [go_sem, ↓reduceIte, Nat.reduceEqDiff, Nat.reduceAdd, Int.reduceToNat, hf]
    refine CallD.calm (hX.alive G) ?_
    rintro v G1 hx1 rfl
    have hn1 := hx1.next
    simp +decide (disch := first | assumption | (apply GH.ok_push; assumption) | exact cellV_int _ _ | exact cellV_bool _ | omega) only [go_sem, ↓reduceIte, Nat.reduceEqDiff, Nat.reduceAdd, Int.reduceToNat]
    intro hx0
    exact ⟨by omega, rfl⟩
  have hf : fewB L [] = true := by simp [fewB, c]
  simp +decide (disch := first | assumption | (apply GH.ok_push; assumption) | exact cellV_int _ _ | exact cellV_bool _ | omega) only [go_sem, ↓reduceIte, Nat.reduceEqDiff, Nat.reduceAdd, Int.reduceToNat, hf]
  refine CallD.calm (refIsShape_rets hX L (by omega) s G hs1) ?_
  rintro v G1 hx1 rfl
  have hn1 := hx1.next
  have hs2 := hs1.ext hx1
  by_cases cS : isShape L = true
  case neg =>
    have cS' : isShape L = false := by simpa using cS
    simp +decide (disch := first | assumption | (apply GH.ok_push; assumption) | exact cellV_int _ _ | exact cellV_bool _ | omega) only [go_sem, ↓reduceIte, Nat.reduceEqDiff, Nat.reduceAdd, Int.reduceToNat, cS']
    refine CallD.calm (hX.alive G1) ?_
    rintro v G2 hx2 rfl
    have hn2 := hx2.next
    simp +decide (disch := first | assumption | (apply GH.ok_push; assumption) | exact cellV_int _ _ | exact cellV_bool _ | omega) only [go_sem, ↓reduceIte, Nat.reduceEqDiff, Nat.reduceAdd, Int.reduceToNat]
    intro hx0
    exact ⟨by omega, rfl⟩
  obtain ⟨c1, c2, c3⟩ := shape_facts cS
  have c4 := sumL_nonneg c2
  simp +decide (disch := first | assumption | (apply GH.ok_push; assumption) | exact cellV_int _ _ | exact cellV_bool _ | omega) only [go_sem, ↓reduceIte, Nat.reduceEqDiff, Nat.reduceAdd, Int.reduceToNat, cS]
  refine CallD.calm (ways_rets hX L (by omega) s G1 hs2) ?_
  rintro v G2 hx2 rfl
  have hn2 := hx2.next
  have hs3 := hs2.ext hx2
  simp +decide (disch := first | assumption | (apply GH.ok_push; assumption) | exact cellV_int _ _ | exact cellV_bool _ | omega) only [go_sem, ↓reduceIte, Nat.reduceEqDiff, Nat.reduceAdd, Int.reduceToNat, ext0, ext1]
  refine CallD.calm (refSum_rets hX L (desc_fits c2 (by omega)) s G2 hs3) ?_
  rintro v G3 hx3 rfl
  have hn3 := hx3.next
  have hs4 := hs3.ext hx3
  by_cases d : 20 < sumL L
  · have hw : waysT L = (0, 8) := by rw [waysT, if_pos cS, if_pos d]
    rw [hw]
    simp +decide (disch := first | assumption | (apply GH.ok_push; assumption) | exact cellV_int _ _ | exact cellV_bool _ | omega) only [go_sem, ↓reduceIte, Nat.reduceEqDiff, Nat.reduceAdd, Int.reduceToNat]
    refine CallD.calm (hX.alive G3) ?_
    rintro v G4 hx4 rfl
    have hn4 := hx4.next
    simp +decide (disch := first | assumption | (apply GH.ok_push; assumption) | exact cellV_int _ _ | exact cellV_bool _ | omega) only [go_sem, ↓reduceIte, Nat.reduceEqDiff, Nat.reduceAdd, Int.reduceToNat]
    intro hx0
    exact ⟨by omega, rfl⟩
  have hw : waysT L = (waysN L, 0) := by rw [waysT, if_pos cS, if_neg d]
  rw [hw]
  obtain ⟨N, hN⟩ : ∃ N : Nat, sumL L = N := ⟨(sumL L).toNat, by omega⟩
  have hN20 : N ≤ 20 := by omega
  have hP := prod_all cS hN hN20
  rw [hN]
  obtain ⟨w, hwv⟩ : ∃ w, waysN L = w := ⟨_, rfl⟩
  have hw1 := hP.one
  have hw2 := hP.big
  rw [hwv] at hw1 hw2 ⊢
  simp +decide (disch := first | assumption | (apply GH.ok_push; assumption) | exact cellV_int _ _ | exact cellV_bool _ | omega) only [go_sem, ↓reduceIte, Nat.reduceEqDiff, Nat.reduceAdd, Int.reduceToNat]
  refine CallD.calm (hooksT_rets hX L (by omega) s G3 hs4) ?_
  rintro v G4 hx4 ⟨h, rfl, hh⟩
  have hn4 := hx4.next
  have hs5 := hs4.ext hx4
  have hT : hooksT L = (hooksL L, 0) := by rw [hooksT, if_pos cS]
  rw [hT] at hh ⊢
  have hlh := hh.len
  simp only at hlh hh
  rw [hooksL_len] at hlh
  simp +decide (disch := first | assumption | (apply GH.ok_push; assumption) | exact cellV_int _ _ | exact cellV_bool _ | omega) only [go_sem, ↓reduceIte, Nat.reduceEqDiff, Nat.reduceAdd, Int.reduceToNat, ext0, ext1]
  refine Wk.loops (fun m e g' lo => g' = G4 ∧ g.next ≤ lo ∧ ∃ i : Nat, i + m = N + 3 ∧ 1 ≤ i ∧ (i ≤ N ∨ i = 1) ∧ (ev e (.s 0) = s ∧ ev e (.s 3) = .int .i64 w ∧ ev e (.s 5) = .int .i64 N ∧ ev e (.s 6) = h ∧ ev e (.s 8) = .int .i64 (fact i) ∧ ev e (.s 9) = .int .i64 ((i : Int) + 1)))
    (fun e g' lo => g' = G4 ∧ g.next ≤ lo ∧ (ev e (.s 0) = s ∧ ev e (.s 3) = .int .i64 w ∧ ev e (.s 5) = .int .i64 N ∧ ev e (.s 6) = h ∧ ev e (.s 8) = .int .i64 (fact N))) (n := N + 2) ?_ ?_ ?_
  · exact ⟨rfl, by omega, 1, by omega, Nat.le_refl _, .inr rfl, (by simp +decide (disch := first | assumption | (apply GH.ok_push; assumption) | exact cellV_int _ _ | exact cellV_bool _ | omega) only [go_sem, ↓reduceIte, Nat.reduceEqDiff, Nat.reduceAdd, Int.reduceToNat, show fact 1 = 1 from rfl]; first | done | exact rfl)⟩
  · rintro e g' lo - - ⟨rfl, hlo, he⟩
    simp +decide (disch := first | assumption | (apply GH.ok_push; assumption) | exact cellV_int _ _ | exact cellV_bool _ | omega) only [go_sem, ↓reduceIte, Nat.reduceEqDiff, Nat.reduceAdd, Int.reduceToNat, he]
    -- the hooks
    refine Wk.loops (fun m e g2 lo2 => g2 = g' ∧ g.next ≤ lo2 ∧ ∃ i : Nat, i + m = L.length ∧ (ev e (.s 0) = s ∧ ev e (.s 3) = .int .i64 w ∧ ev e (.s 5) = .int .i64 N ∧ ev e (.s 6) = h ∧ ev e (.s 8) = .int .i64 (divs (fact N) ((hooksL L).take i).flatten) ∧ ev e (.s 10) = .int .i64 i) ∧ Bnd (divs (fact N) ((hooksL L).take i).flatten))
      (fun e g2 lo2 => g2 = g' ∧ g.next ≤ lo2 ∧ (ev e (.s 0) = s ∧ ev e (.s 3) = .int .i64 w ∧ ev e (.s 5) = .int .i64 N ∧ ev e (.s 8) = .int .i64 w)) (n := L.length) ?_ ?_ ?_
    · refine ⟨rfl, by omega, 0, by omega, (by simp +decide (disch := first | assumption | (apply GH.ok_push; assumption) | exact cellV_int _ _ | exact cellV_bool _ | omega) only [go_sem, ↓reduceIte, Nat.reduceEqDiff, Nat.reduceAdd, Int.reduceToNat, he, List.take_zero, List.flatten_nil, divs, List.foldl_nil]; first | done | exact rfl), ?_⟩
      have := fact_bnd N hN20
      exact ⟨by show 0 ≤ fact N; omega, by show fact N ≤ _; omega⟩
    · rintro e g2 lo2 - - ⟨rfl, hlo2, he⟩
      simp +decide (disch := first | assumption | (apply GH.ok_push; assumption) | exact cellV_int _ _ | exact cellV_bool _ | omega) only [go_sem, ↓reduceIte, Nat.reduceEqDiff, Nat.reduceAdd, Int.reduceToNat, he]
      -- the corners
      have hz : N = 0 → L.length = 0 := fun h0 => by
        cases L with
        | nil => rfl
        | cons x L =>
          simp only [desc, Bool.and_eq_true, decide_eq_true_eq] at c2
          have := sumL_nonneg c2.2
          simp only [sumL] at hN; omega
      have hsx := hs5
      refine Wk.loops (fun m e g3 lo3 => Kept g2 g3 ∧ g.next ≤ lo3 ∧ ∃ i : Nat, i + m = L.length ∧ (ev e (.s 0) = s ∧ ev e (.s 3) = .int .i64 w ∧ ev e (.s 5) = .int .i64 N ∧ ev e (.s 12) = .int .i64 (sumW L i) ∧ ev e (.s 13) = .int .i64 i))
        (fun e g3 lo3 => Kept g2 g3 ∧ g.next ≤ lo3 ∧ (ev e (.s 3) = .int .i64 w ∧ ev e (.s 5) = .int .i64 N ∧ ev e (.s 12) = .int .i64 (sumW L L.length))) (n := L.length) ?_ ?_ ?_
      · exact ⟨Kept.refl _, by omega, 0, by omega, (by simp +decide (disch := first | assumption | (apply GH.ok_push; assumption) | exact cellV_int _ _ | exact cellV_bool _ | omega) only [go_sem, ↓reduceIte, Nat.reduceEqDiff, Nat.reduceAdd, Int.reduceToNat, he, sumW]; first | done | exact rfl)⟩
      · rintro e g3 lo3 ho3 - ⟨hk3, hlo3, he⟩
        have hkn := hk3.next
        by_cases h0 : N = 0
        · have h1 := hP.zero h0
          rw [hwv] at h1
          simp +decide (disch := first | assumption | (apply GH.ok_push; assumption) | exact cellV_int _ _ | exact cellV_bool _ | omega) only [go_sem, ↓reduceIte, Nat.reduceEqDiff, Nat.reduceAdd, Int.reduceToNat, he, h0, h1]
          refine CallD.calm (hX.alive g3) ?_
          rintro v G5 hx5 rfl
          have hn5 := hx5.next
          simp +decide (disch := first | assumption | (apply GH.ok_push; assumption) | exact cellV_int _ _ | exact cellV_bool _ | omega) only [go_sem, ↓reduceIte, Nat.reduceEqDiff, Nat.reduceAdd, Int.reduceToNat]
          intro hx0
          exact ⟨by omega, rfl⟩
        · have h1 := hP.sum h0
          rw [hwv] at h1
          rw [h1] at he
          simp +decide (disch := first | assumption | (apply GH.ok_push; assumption) | exact cellV_int _ _ | exact cellV_bool _ | omega) only [go_sem, ↓reduceIte, Nat.reduceEqDiff, Nat.reduceAdd, Int.reduceToNat, he]
          refine CallD.calm (hX.alive g3) ?_
          rintro v G5 hx5 rfl
          have hn5 := hx5.next
          simp +decide (disch := first | assumption | (apply GH.ok_push; assumption) | exact cellV_int _ _ | exact cellV_bool _ | omega) only [go_sem, ↓reduceIte, Nat.reduceEqDiff, Nat.reduceAdd, Int.reduceToNat]
          intro hx0
          exact ⟨by omega, rfl⟩
      · rintro m e g3 lo3 ho3 hl3 ih out ⟨hk3, hlo3, i, hi, he⟩
        have hkn := hk3.next
        have hs3 := hsx.kept hk3
        have hl' := hl
        by_cases ci : i < L.length
        · have hnext : ∀ e', (ev e' (.s 0) = s ∧ ev e' (.s 3) = .int .i64 w ∧ ev e' (.s 5) = .int .i64 N ∧ ev e' (.s 12) = .int .i64 (sumW L (i + 1)) ∧ ev e' (.s 13) = .int .i64 ((i : Int) + 1)) → ∀ g4 lo4, Kept g2 g4 → g.next ≤ lo4 → _ := fun e' he' g4 lo4 hk4 hlo4 => ih (m - 1) e' g4 lo4 (by omega) ⟨hk4, hlo4, i + 1, by omega, he'⟩
          by_cases hc : cornerB L i = true
          · have hLess := hP.less i ci hc
            have hsW : sumW L (i + 1) = sumW L i + waysN (lessL L i L.length) := by rw [sumW, if_pos hc]
            have hb1 := sumW_big hP hz (i := i) (by omega)
            have hb2 := sumW_big hP hz (i := i + 1) (by omega)
            by_cases c5 : i + 1 < L.length
            · obtain ⟨j1, o1, hj1, hp1, hp2⟩ := hs3.ptr (ints_get (D := L) (i := i + 1) c5)
              have hp1 := hp1 ((i : Int) + 1) (by omega)
              obtain ⟨j6, o6, hj6, hp6, hp7⟩ := hs3.ptr (ints_get (D := L) (i := i) ci)
              have hp6 := hp6 (i : Int) rfl
              have hne : ¬ L.getD (i + 1) 0 = L.getD i 0 := fun h => by
                unfold cornerB at hc
                rw [decide_eq_true c5, decide_eq_true h] at hc
                cases hc
              simp +decide (disch := first | assumption | (apply GH.ok_push; assumption) | exact cellV_int _ _ | exact cellV_bool _ | omega) only [go_sem, ↓reduceIte, Nat.reduceEqDiff, Nat.reduceAdd, Int.reduceToNat, he, hl, hp1, hp2, hp6, hp7]
              refine Wk.loops (fun m e g4 lo4 => Kept g3 g4 ∧ g.next ≤ lo4 ∧ ∃ k : Nat, k + m = L.length ∧ (ev e (.s 0) = s ∧ ev e (.s 3) = .int .i64 w ∧ ev e (.s 5) = .int .i64 N ∧ ev e (.s 12) = .int .i64 (sumW L i) ∧ ev e (.s 13) = .int .i64 i ∧ ev e (.s 15) = .int .i64 k) ∧ ∃ o, ev e (.s 14) = o ∧ Own g4 o (ints (lessL L i k)) 3 g3.next)
                (fun e g4 lo4 => Kept g3 g4 ∧ g.next ≤ lo4 ∧ (ev e (.s 0) = s ∧ ev e (.s 3) = .int .i64 w ∧ ev e (.s 5) = .int .i64 N ∧ ev e (.s 12) = .int .i64 (sumW L i) ∧ ev e (.s 13) = .int .i64 i) ∧ ∃ o, ev e (.s 14) = o ∧ SlR g4 o (ints (lessL L i L.length))) (n := L.length) ?_ ?_ ?_
              · exact ⟨Kept.refl _, hlo3, 0, by omega, (by simp +decide (disch := first | assumption | (apply GH.ok_push; assumption) | exact cellV_int _ _ | exact cellV_bool _ | omega) only [go_sem, ↓reduceIte, Nat.reduceEqDiff, Nat.reduceAdd, Int.reduceToNat, he]; first | done | exact rfl), .slice none 0 0, (by simp +decide (disch := first | assumption | (apply GH.ok_push; assumption) | exact cellV_int _ _ | exact cellV_bool _ | omega) only [go_sem, ↓reduceIte, Nat.reduceEqDiff, Nat.reduceAdd, Int.reduceToNat]; first | done | exact rfl), Own.nil⟩
              · rintro e g4 lo4 ho4 - ⟨hk4, hlo4, he, o, h14, ho⟩
                have hkn4 := hk4.next
                simp +decide (disch := first | assumption | (apply GH.ok_push; assumption) | exact cellV_int _ _ | exact cellV_bool _ | omega) only [go_sem, ↓reduceIte, Nat.reduceEqDiff, Nat.reduceAdd, Int.reduceToNat, he, h14]
                refine CallD.calm (ways_rets hX _ (by have := lessL_len L i L.length; omega) o g4 ho) ?_
                rintro v G5 hx5 rfl
                have hn5 := hx5.next
                have hW : waysT (lessL L i L.length) = (waysN (lessL L i L.length), 0) := by rw [waysT, if_pos hLess.1, if_neg (by omega)]
                rw [hW]
                simp +decide (disch := first | assumption | (apply GH.ok_push; assumption) | exact cellV_int _ _ | exact cellV_bool _ | omega) only [go_sem, ↓reduceIte, Nat.reduceEqDiff, Nat.reduceAdd, Int.reduceToNat, ext0, ext1, he]
                exact ih (m - 1) _ _ _ (by omega) ⟨(hk3.trans hk4).ext hx5, by omega, i + 1, by omega, (by simp +decide (disch := first | assumption | (apply GH.ok_push; assumption) | exact cellV_int _ _ | exact cellV_bool _ | omega) only [go_sem, ↓reduceIte, Nat.reduceEqDiff, Nat.reduceAdd, Int.reduceToNat, he, hsW]; first | done | exact rfl)⟩
              · rintro m2 e g4 lo4 ho4 hl4 ih2 out2 ⟨hk4, hlo4, k, hk, he, o, h14, ho⟩
                have hkn4 := hk4.next
                by_cases ck : k < L.length
                · obtain ⟨j2, o2, hj2, hr1, hr2⟩ := (hs3.kept hk4).ptr (ints_get (D := L) (i := k) ck)
                  have hr1 := hr1 (k : Int) rfl
                  have hrow := desc_getD c2 ck
                  have hsn := lessL_snoc L i k
                  have hll := lessL_len L i k
                  by_cases ek : k = i
                  · rw [if_pos ek] at hsn
                    by_cases pk : 0 < L.getD k 0 - 1
                    · rw [if_pos pk] at hsn
                      have hkp := hk4.push ho4 (cellsOb [.int .i64 (L.getD k 0 - 1)] 3)
                      simp +decide (disch := first | assumption | (apply GH.ok_push; assumption) | exact cellV_int _ _ | exact cellV_bool _ | omega) only [go_sem, ↓reduceIte, Nat.reduceEqDiff, Nat.reduceAdd, Int.reduceToNat, he, h14, hl, hr1, hr2]
                      refine AppD.own2 (ho.push ho4 _) (SlR.one ho4 _ _) (by simp) rfl (by simp [ints_len]; omega) (by simp [GH.push]; omega) hlo4 (by omega) (GH.ok_push ho4) (fun s' g5 lo5 sp wr hgr hlo5 => ?_)
                      simp +decide (disch := first | assumption | (apply GH.ok_push; assumption) | exact cellV_int _ _ | exact cellV_bool _ | omega) only [go_sem, ↓reduceIte, Nat.reduceEqDiff, Nat.reduceAdd, Int.reduceToNat, he]
                      refine ih2 (m2 - 1) _ _ _ (by omega) ⟨hkp.grew2 hgr (Nat.le_refl _), hlo5, k + 1, by omega, (by simp +decide (disch := first | assumption | (apply GH.ok_push; assumption) | exact cellV_int _ _ | exact cellV_bool _ | omega) only [go_sem, ↓reduceIte, Nat.reduceEqDiff, Nat.reduceAdd, Int.reduceToNat, he]; first | done | exact rfl), s', (by simp +decide (disch := first | assumption | (apply GH.ok_push; assumption) | exact cellV_int _ _ | exact cellV_bool _ | omega) only [go_sem, ↓reduceIte, Nat.reduceEqDiff, Nat.reduceAdd, Int.reduceToNat]; first | done | exact rfl), ?_⟩
                      rw [hsn, ints_app]
                      exact hgr.own
                    · rw [if_neg pk, List.append_nil] at hsn
                      simp +decide (disch := first | assumption | (apply GH.ok_push; assumption) | exact cellV_int _ _ | exact cellV_bool _ | omega) only [go_sem, ↓reduceIte, Nat.reduceEqDiff, Nat.reduceAdd, Int.reduceToNat, he, h14, hl, hr1, hr2]
                      refine ih2 (m2 - 1) _ _ _ (by omega) ⟨hk4, hlo4, k + 1, by omega, (by simp +decide (disch := first | assumption | (apply GH.ok_push; assumption) | exact cellV_int _ _ | exact cellV_bool _ | omega) only [go_sem, ↓reduceIte, Nat.reduceEqDiff, Nat.reduceAdd, Int.reduceToNat, he]; first | done | exact rfl), o, (by simp +decide (disch := first | assumption | (apply GH.ok_push; assumption) | exact cellV_int _ _ | exact cellV_bool _ | omega) only [go_sem, ↓reduceIte, Nat.reduceEqDiff, Nat.reduceAdd, Int.reduceToNat, h14]; first | done | exact rfl), ?_⟩
                      rw [hsn]
                      exact ho
                  · rw [if_neg ek] at hsn
                    have pk : 0 < L.getD k 0 := by omega
                    rw [if_pos pk] at hsn
                    have hkp := hk4.push ho4 (cellsOb [.int .i64 (L.getD k 0)] 3)
                    simp +decide (disch := first | assumption | (apply GH.ok_push; assumption) | exact cellV_int _ _ | exact cellV_bool _ | omega) only [go_sem, ↓reduceIte, Nat.reduceEqDiff, Nat.reduceAdd, Int.reduceToNat, he, h14, hl, hr1, hr2]
                    refine AppD.own2 (ho.push ho4 _) (SlR.one ho4 _ _) (by simp) rfl (by simp [ints_len]; omega) (by simp [GH.push]; omega) hlo4 (by omega) (GH.ok_push ho4) (fun s' g5 lo5 sp wr hgr hlo5 => ?_)
                    simp +decide (disch := first | assumption | (apply GH.ok_push; assumption) | exact cellV_int _ _ | exact cellV_bool _ | omega) only [go_sem, ↓reduceIte, Nat.reduceEqDiff, Nat.reduceAdd, Int.reduceToNat, he]
                    refine ih2 (m2 - 1) _ _ _ (by omega) ⟨hkp.grew2 hgr (Nat.le_refl _), hlo5, k + 1, by omega, (by simp +decide (disch := first | assumption | (apply GH.ok_push; assumption) | exact cellV_int _ _ | exact cellV_bool _ | omega) only [go_sem, ↓reduceIte, Nat.reduceEqDiff, Nat.reduceAdd, Int.reduceToNat, he]; first | done | exact rfl), s', (by simp +decide (disch := first | assumption | (apply GH.ok_push; assumption) | exact cellV_int _ _ | exact cellV_bool _ | omega) only [go_sem, ↓reduceIte, Nat.reduceEqDiff, Nat.reduceAdd, Int.reduceToNat]; first | done | exact rfl), ?_⟩
                    rw [hsn, ints_app]
                    exact hgr.own
                · simp +decide (disch := first | assumption | (apply GH.ok_push; assumption) | exact cellV_int _ _ | exact cellV_bool _ | omega) only [go_sem, ↓reduceIte, Nat.reduceEqDiff, Nat.reduceAdd, Int.reduceToNat, he, h14, hl]
                  refine out2 _ _ _ ⟨hk4, hlo4, (by simp +decide (disch := first | assumption | (apply GH.ok_push; assumption) | exact cellV_int _ _ | exact cellV_bool _ | omega) only [go_sem, ↓reduceIte, Nat.reduceEqDiff, Nat.reduceAdd, Int.reduceToNat, he]; first | done | exact rfl), o, (by simp +decide (disch := first | assumption | (apply GH.ok_push; assumption) | exact cellV_int _ _ | exact cellV_bool _ | omega) only [go_sem, ↓reduceIte, Nat.reduceEqDiff, Nat.reduceAdd, Int.reduceToNat, h14]; first | done | exact rfl), ?_⟩
                  rw [show k = L.length by omega] at ho
                  exact ho.read
            · simp +decide (disch := first | assumption | (apply GH.ok_push; assumption) | exact cellV_int _ _ | exact cellV_bool _ | omega) only [go_sem, ↓reduceIte, Nat.reduceEqDiff, Nat.reduceAdd, Int.reduceToNat, he, hl]
              refine Wk.loops (fun m e g4 lo4 => Kept g3 g4 ∧ g.next ≤ lo4 ∧ ∃ k : Nat, k + m = L.length ∧ (ev e (.s 0) = s ∧ ev e (.s 3) = .int .i64 w ∧ ev e (.s 5) = .int .i64 N ∧ ev e (.s 12) = .int .i64 (sumW L i) ∧ ev e (.s 13) = .int .i64 i ∧ ev e (.s 15) = .int .i64 k) ∧ ∃ o, ev e (.s 14) = o ∧ Own g4 o (ints (lessL L i k)) 3 g3.next)
                (fun e g4 lo4 => Kept g3 g4 ∧ g.next ≤ lo4 ∧ (ev e (.s 0) = s ∧ ev e (.s 3) = .int .i64 w ∧ ev e (.s 5) = .int .i64 N ∧ ev e (.s 12) = .int .i64 (sumW L i) ∧ ev e (.s 13) = .int .i64 i) ∧ ∃ o, ev e (.s 14) = o ∧ SlR g4 o (ints (lessL L i L.length))) (n := L.length) ?_ ?_ ?_
              · exact ⟨Kept.refl _, hlo3, 0, by omega, (by simp +decide (disch := first | assumption | (apply GH.ok_push; assumption) | exact cellV_int _ _ | exact cellV_bool _ | omega) only [go_sem, ↓reduceIte, Nat.reduceEqDiff, Nat.reduceAdd, Int.reduceToNat, he]; first | done | exact rfl), .slice none 0 0, (by simp +decide (disch := first | assumption | (apply GH.ok_push; assumption) | exact cellV_int _ _ | exact cellV_bool _ | omega) only [go_sem, ↓reduceIte, Nat.reduceEqDiff, Nat.reduceAdd, Int.reduceToNat]; first | done | exact rfl), Own.nil⟩
              · rintro e g4 lo4 ho4 - ⟨hk4, hlo4, he, o, h14, ho⟩
                have hkn4 := hk4.next
                simp +decide (disch := first | assumption | (apply GH.ok_push; assumption) | exact cellV_int _ _ | exact cellV_bool _ | omega) only [go_sem, ↓reduceIte, Nat.reduceEqDiff, Nat.reduceAdd, Int.reduceToNat, he, h14]
                refine CallD.calm (ways_rets hX _ (by have := lessL_len L i L.length; omega) o g4 ho) ?_
                rintro v G5 hx5 rfl
                have hn5 := hx5.next
                have hW : waysT (lessL L i L.length) = (waysN (lessL L i L.length), 0) := by rw [waysT, if_pos hLess.1, if_neg (by omega)]
                rw [hW]
                simp +decide (disch := first | assumption | (apply GH.ok_push; assumption) | exact cellV_int _ _ | exact cellV_bool _ | omega) only [go_sem, ↓reduceIte, Nat.reduceEqDiff, Nat.reduceAdd, Int.reduceToNat, ext0, ext1, he]
                exact ih (m - 1) _ _ _ (by omega) ⟨(hk3.trans hk4).ext hx5, by omega, i + 1, by omega, (by simp +decide (disch := first | assumption | (apply GH.ok_push; assumption) | exact cellV_int _ _ | exact cellV_bool _ | omega) only [go_sem, ↓reduceIte, Nat.reduceEqDiff, Nat.reduceAdd, Int.reduceToNat, he, hsW]; first | done | exact rfl)⟩
              · rintro m2 e g4 lo4 ho4 hl4 ih2 out2 ⟨hk4, hlo4, k, hk, he, o, h14, ho⟩
                have hkn4 := hk4.next
                by_cases ck : k < L.length
                · obtain ⟨j2, o2, hj2, hr1, hr2⟩ := (hs3.kept hk4).ptr (ints_get (D := L) (i := k) ck)
                  have hr1 := hr1 (k : Int) rfl
                  have hrow := desc_getD c2 ck
                  have hsn := lessL_snoc L i k
                  have hll := lessL_len L i k
                  by_cases ek : k = i
                  · rw [if_pos ek] at hsn
                    by_cases pk : 0 < L.getD k 0 - 1
                    · rw [if_pos pk] at hsn
                      have hkp := hk4.push ho4 (cellsOb [.int .i64 (L.getD k 0 - 1)] 3)
                      simp +decide (disch := first | assumption | (apply GH.ok_push; assumption) | exact cellV_int _ _ | exact cellV_bool _ | omega) only [go_sem, ↓reduceIte, Nat.reduceEqDiff, Nat.reduceAdd, Int.reduceToNat, he, h14, hl, hr1, hr2]
                      refine AppD.own2 (ho.push ho4 _) (SlR.one ho4 _ _) (by simp) rfl (by simp [ints_len]; omega) (by simp [GH.push]; omega) hlo4 (by omega) (GH.ok_push ho4) (fun s' g5 lo5 sp wr hgr hlo5 => ?_)
                      simp +decide (disch := first | assumption | (apply GH.ok_push; assumption) | exact cellV_int _ _ | exact cellV_bool _ | omega) only [go_sem, ↓reduceIte, Nat.reduceEqDiff, Nat.reduceAdd, Int.reduceToNat, he]
                      refine ih2 (m2 - 1) _ _ _ (by omega) ⟨hkp.grew2 hgr (Nat.le_refl _), hlo5, k + 1, by omega, (by simp +decide (disch := first | assumption | (apply GH.ok_push; assumption) | exact cellV_int _ _ | exact cellV_bool _ | omega) only [go_sem, ↓reduceIte, Nat.reduceEqDiff, Nat.reduceAdd, Int.reduceToNat, he]; first | done | exact rfl), s', (by simp +decide (disch := first | assumption | (apply GH.ok_push; assumption) | exact cellV_int _ _ | exact cellV_bool _ | omega) only [go_sem, ↓reduceIte, Nat.reduceEqDiff, Nat.reduceAdd, Int.reduceToNat]; first | done | exact rfl), ?_⟩
                      rw [hsn, ints_app]
                      exact hgr.own
                    · rw [if_neg pk, List.append_nil] at hsn
                      simp +decide (disch := first | assumption | (apply GH.ok_push; assumption) | exact cellV_int _ _ | exact cellV_bool _ | omega) only [go_sem, ↓reduceIte, Nat.reduceEqDiff, Nat.reduceAdd, Int.reduceToNat, he, h14, hl, hr1, hr2]
                      refine ih2 (m2 - 1) _ _ _ (by omega) ⟨hk4, hlo4, k + 1, by omega, (by simp +decide (disch := first | assumption | (apply GH.ok_push; assumption) | exact cellV_int _ _ | exact cellV_bool _ | omega) only [go_sem, ↓reduceIte, Nat.reduceEqDiff, Nat.reduceAdd, Int.reduceToNat, he]; first | done | exact rfl), o, (by simp +decide (disch := first | assumption | (apply GH.ok_push; assumption) | exact cellV_int _ _ | exact cellV_bool _ | omega) only [go_sem, ↓reduceIte, Nat.reduceEqDiff, Nat.reduceAdd, Int.reduceToNat, h14]; first | done | exact rfl), ?_⟩
                      rw [hsn]
                      exact ho
                  · rw [if_neg ek] at hsn
                    have pk : 0 < L.getD k 0 := by omega
                    rw [if_pos pk] at hsn
                    have hkp := hk4.push ho4 (cellsOb [.int .i64 (L.getD k 0)] 3)
                    simp +decide (disch := first | assumption | (apply GH.ok_push; assumption) | exact cellV_int _ _ | exact cellV_bool _ | omega) only [go_sem, ↓reduceIte, Nat.reduceEqDiff, Nat.reduceAdd, Int.reduceToNat, he, h14, hl, hr1, hr2]
                    refine AppD.own2 (ho.push ho4 _) (SlR.one ho4 _ _) (by simp) rfl (by simp [ints_len]; omega) (by simp [GH.push]; omega) hlo4 (by omega) (GH.ok_push ho4) (fun s' g5 lo5 sp wr hgr hlo5 => ?_)
                    simp +decide (disch := first | assumption | (apply GH.ok_push; assumption) | exact cellV_int _ _ | exact cellV_bool _ | omega) only [go_sem, ↓reduceIte, Nat.reduceEqDiff, Nat.reduceAdd, Int.reduceToNat, he]
                    refine ih2 (m2 - 1) _ _ _ (by omega) ⟨hkp.grew2 hgr (Nat.le_refl _), hlo5, k + 1, by omega, (by simp +decide (disch := first | assumption | (apply GH.ok_push; assumption) | exact cellV_int _ _ | exact cellV_bool _ | omega) only [go_sem, ↓reduceIte, Nat.reduceEqDiff, Nat.reduceAdd, Int.reduceToNat, he]; first | done | exact rfl), s', (by simp +decide (disch := first | assumption | (apply GH.ok_push; assumption) | exact cellV_int _ _ | exact cellV_bool _ | omega) only [go_sem, ↓reduceIte, Nat.reduceEqDiff, Nat.reduceAdd, Int.reduceToNat]; first | done | exact rfl), ?_⟩
                    rw [hsn, ints_app]
                    exact hgr.own
                · simp +decide (disch := first | assumption | (apply GH.ok_push; assumption) | exact cellV_int _ _ | exact cellV_bool _ | omega) only [go_sem, ↓reduceIte, Nat.reduceEqDiff, Nat.reduceAdd, Int.reduceToNat, he, h14, hl]
                  refine out2 _ _ _ ⟨hk4, hlo4, (by simp +decide (disch := first | assumption | (apply GH.ok_push; assumption) | exact cellV_int _ _ | exact cellV_bool _ | omega) only [go_sem, ↓reduceIte, Nat.reduceEqDiff, Nat.reduceAdd, Int.reduceToNat, he]; first | done | exact rfl), o, (by simp +decide (disch := first | assumption | (apply GH.ok_push; assumption) | exact cellV_int _ _ | exact cellV_bool _ | omega) only [go_sem, ↓reduceIte, Nat.reduceEqDiff, Nat.reduceAdd, Int.reduceToNat, h14]; first | done | exact rfl), ?_⟩
                  rw [show k = L.length by omega] at ho
                  exact ho.read
          · have hsW : sumW L (i + 1) = sumW L i := by rw [sumW, if_neg hc, Int.add_zero]
            have hcc : i + 1 < L.length ∧ L.getD (i + 1) 0 = L.getD i 0 := by
              unfold cornerB at hc
              simpa using hc
            obtain ⟨c5, heq⟩ := hcc
            obtain ⟨j1, o1, hj1, hp1, hp2⟩ := hs3.ptr (ints_get (D := L) (i := i + 1) c5)
            have hp1 := hp1 ((i : Int) + 1) (by omega)
            obtain ⟨j6, o6, hj6, hp6, hp7⟩ := hs3.ptr (ints_get (D := L) (i := i) ci)
            have hp6 := hp6 (i : Int) rfl
            rw [heq] at hp2
            simp +decide (disch := first | assumption | (apply GH.ok_push; assumption) | exact cellV_int _ _ | exact cellV_bool _ | omega) only [go_sem, ↓reduceIte, Nat.reduceEqDiff, Nat.reduceAdd, Int.reduceToNat, he, hl, hp1, hp2, hp6, hp7]
            exact ih (m - 1) _ _ _ (by omega) ⟨hk3, hlo3, i + 1, by omega, (by simp +decide (disch := first | assumption | (apply GH.ok_push; assumption) | exact cellV_int _ _ | exact cellV_bool _ | omega) only [go_sem, ↓reduceIte, Nat.reduceEqDiff, Nat.reduceAdd, Int.reduceToNat, he, hsW]; first | done | exact rfl)⟩
        · simp +decide (disch := first | assumption | (apply GH.ok_push; assumption) | exact cellV_int _ _ | exact cellV_bool _ | omega) only [go_sem, ↓reduceIte, Nat.reduceEqDiff, Nat.reduceAdd, Int.reduceToNat, he, hl]
          exact out _ _ _ ⟨hk3, hlo3, (by simp +decide (disch := first | assumption | (apply GH.ok_push; assumption) | exact cellV_int _ _ | exact cellV_bool _ | omega) only [go_sem, ↓reduceIte, Nat.reduceEqDiff, Nat.reduceAdd, Int.reduceToNat, he, show i = L.length by omega]; first | done | exact rfl)⟩
    · rintro m e g2 lo2 ho2 hl2 ih out ⟨rfl, hlo2, i, hi, he, hb⟩
      by_cases ci : i < L.length
      · obtain ⟨u, j1, o1, hj1, hp1, hp2, hu⟩ := hh.ptr (i := i) (by rw [hooksL_len]; exact ci)
        have hp1 := hp1 (i : Int) rfl
        rw [hooksL_getD ci] at hu
        have hlu := hu.len
        rw [ints_len, hookRow, rng_len] at hlu
        have hrow := desc_getD c2 ci
        obtain ⟨n, hn1, hn2⟩ : ∃ n : Nat, L.getD i 0 = n ∧ (L.getD i 0).toNat = n := ⟨(L.getD i 0).toNat, by omega, rfl⟩
        rw [hn2] at hlu
        simp +decide (disch := first | assumption | (apply GH.ok_push; assumption) | exact cellV_int _ _ | exact cellV_bool _ | omega) only [go_sem, ↓reduceIte, Nat.reduceEqDiff, Nat.reduceAdd, Int.reduceToNat, he, hlh]
        have hst := divs_step (fact N) ci
        have hex := fun (k : Nat) (hk : (k : Int) < L.getD i 0) => exact_at hP ci hk
        obtain ⟨x, hxx⟩ : ∃ x, divs (fact N) ((hooksL L).take i).flatten = x := ⟨_, rfl⟩
        rw [hxx] at he hb hst hex
        refine Wk.loops (fun m e g3 lo3 => g3 = g2 ∧ g.next ≤ lo3 ∧ ∃ k : Nat, k + m = n ∧ (ev e (.s 0) = s ∧ ev e (.s 3) = .int .i64 w ∧ ev e (.s 5) = .int .i64 N ∧ ev e (.s 6) = h ∧ ev e (.s 8) = .int .i64 (divs x ((hookRow L i).take k)) ∧ ev e (.s 10) = .int .i64 i ∧ ev e (.s 11) = .int .i64 k) ∧ Bnd (divs x ((hookRow L i).take k)))
          (fun e g3 lo3 => g3 = g2 ∧ g.next ≤ lo3 ∧ (ev e (.s 0) = s ∧ ev e (.s 3) = .int .i64 w ∧ ev e (.s 5) = .int .i64 N ∧ ev e (.s 6) = h ∧ ev e (.s 8) = .int .i64 (divs x (hookRow L i)) ∧ ev e (.s 10) = .int .i64 i) ∧ Bnd (divs x (hookRow L i))) (n := n) ?_ ?_ ?_
        · exact ⟨rfl, hlo2, 0, by omega, (by simp +decide (disch := first | assumption | (apply GH.ok_push; assumption) | exact cellV_int _ _ | exact cellV_bool _ | omega) only [go_sem, ↓reduceIte, Nat.reduceEqDiff, Nat.reduceAdd, Int.reduceToNat, he, List.take_zero, divs, List.foldl_nil]; first | done | exact rfl), hb⟩
        · rintro e g3 lo3 - - ⟨rfl, hlo3, he, hb⟩
          simp +decide (disch := first | assumption | (apply GH.ok_push; assumption) | exact cellV_int _ _ | exact cellV_bool _ | omega) only [go_sem, ↓reduceIte, Nat.reduceEqDiff, Nat.reduceAdd, Int.reduceToNat, he]
          exact ih (m - 1) _ _ _ (by omega) ⟨rfl, hlo3, i + 1, by omega, (by simp +decide (disch := first | assumption | (apply GH.ok_push; assumption) | exact cellV_int _ _ | exact cellV_bool _ | omega) only [go_sem, ↓reduceIte, Nat.reduceEqDiff, Nat.reduceAdd, Int.reduceToNat, he, hst]; first | done | exact rfl), by rw [hst]; exact hb⟩
        · rintro m2 e g3 lo3 ho3 hl3 ih2 out2 ⟨rfl, hlo3, k, hk, he, hb⟩
          by_cases ck : k < n
          · obtain ⟨q1, q2, q3⟩ := hookRow_get (L := L) (r := i) (c := k) (by omega)
            obtain ⟨j2, o2, hj2, hr1, hr2⟩ := hu.ptr q1
            have hr1 := hr1 (k : Int) rfl
            have hpos := hookV_pos c2 ci (c := k) (by omega)
            have hds := divs_snoc x (hookRow L i) k q3
            rw [q2] at hds
            have hb2 := tdiv_bnd hb.1 hpos.1
            have hb1 := hb.2
            have hb0 := hb.1
            have hz := hex k (by omega)
            simp +decide (disch := first | assumption | (apply GH.ok_push; assumption) | exact cellV_int _ _ | exact cellV_bool _ | omega) only [go_sem, ↓reduceIte, Nat.reduceEqDiff, Nat.reduceAdd, Int.reduceToNat, he, hp1, hp2, hlu, hr1, hr2, hz]
            exact ih2 (m2 - 1) _ _ _ (by omega) ⟨rfl, hlo3, k + 1, by omega, (by simp +decide (disch := first | assumption | (apply GH.ok_push; assumption) | exact cellV_int _ _ | exact cellV_bool _ | omega) only [go_sem, ↓reduceIte, Nat.reduceEqDiff, Nat.reduceAdd, Int.reduceToNat, he, hds]; first | done | exact rfl), by rw [hds]; exact ⟨hb2.1, by omega⟩⟩
          · have htk : (hookRow L i).take k = hookRow L i := List.take_of_length_le (by rw [hookRow, rng_len]; omega)
            rw [htk] at he hb
            simp +decide (disch := first | assumption | (apply GH.ok_push; assumption) | exact cellV_int _ _ | exact cellV_bool _ | omega) only [go_sem, ↓reduceIte, Nat.reduceEqDiff, Nat.reduceAdd, Int.reduceToNat, he, hp1, hp2, hlu]
            exact out2 _ _ _ ⟨rfl, hlo3, (by simp +decide (disch := first | assumption | (apply GH.ok_push; assumption) | exact cellV_int _ _ | exact cellV_bool _ | omega) only [go_sem, ↓reduceIte, Nat.reduceEqDiff, Nat.reduceAdd, Int.reduceToNat, he]; first | done | exact rfl), hb⟩
      · have htk : (hooksL L).take i = hooksL L := List.take_of_length_le (by rw [hooksL_len]; omega)
        have hwn : divs (fact N) (hooksL L).flatten = w := by rw [← hwv, waysN, hN]; rfl
        rw [htk, hwn] at he
        simp +decide (disch := first | assumption | (apply GH.ok_push; assumption) | exact cellV_int _ _ | exact cellV_bool _ | omega) only [go_sem, ↓reduceIte, Nat.reduceEqDiff, Nat.reduceAdd, Int.reduceToNat, he, hlh]
        exact out _ _ _ ⟨rfl, hlo2, (by simp +decide (disch := first | assumption | (apply GH.ok_push; assumption) | exact cellV_int _ _ | exact cellV_bool _ | omega) only [go_sem, ↓reduceIte, Nat.reduceEqDiff, Nat.reduceAdd, Int.reduceToNat, he]; first | done | exact rfl)⟩
  · rintro m e g' lo ho' hl' ih out ⟨rfl, hlo, i, hi, hi1, hi2, he⟩
    by_cases ci : i < N
    · have hb := fact_bnd (i + 1) (by omega)
      have hb2 := fact_bnd i (by omega)
      have hf : fact (i + 1) = fact i * ((i : Int) + 1) := rfl
      rw [hf] at hb
      simp +decide (disch := first | assumption | (apply GH.ok_push; assumption) | exact cellV_int _ _ | exact cellV_bool _ | omega) only [go_sem, ↓reduceIte, Nat.reduceEqDiff, Nat.reduceAdd, Int.reduceToNat, he]
      exact ih (m - 1) _ _ _ (by omega) ⟨rfl, hlo, i + 1, by omega, by omega, by omega, (by simp +decide (disch := first | assumption | (apply GH.ok_push; assumption) | exact cellV_int _ _ | exact cellV_bool _ | omega) only [go_sem, ↓reduceIte, Nat.reduceEqDiff, Nat.reduceAdd, Int.reduceToNat, he, hf]; first | done | exact rfl)⟩
    · have hfN : fact i = fact N := by
        rcases hi2 with hi2 | hi2
        · rw [show i = N by omega]
        · rcases (show N = 0 ∨ N = 1 by omega) with h | h <;> rw [hi2, h] <;> rfl
      rw [hfN] at he
      simp +decide (disch := first | assumption | (apply GH.ok_push; assumption) | exact cellV_int _ _ | exact cellV_bool _ | omega) only [go_sem, ↓reduceIte, Nat.reduceEqDiff, Nat.reduceAdd, Int.reduceToNat, he]
      exact out _ _ _ ⟨rfl, hlo, (by simp +decide (disch := first | assumption | (apply GH.ok_push; assumption) | exact cellV_int _ _ | exact cellV_bool _ | omega) only [go_sem, ↓reduceIte, Nat.reduceEqDiff, Nat.reduceAdd, Int.reduceToNat, he]; first | done | exact rfl)⟩
end Go.Proofs.Ytieliilnnfjijaa
