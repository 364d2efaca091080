import Derived.Test.YteeelcmnlomgmaaJ9
set_option linter.all false
set_option linter.unusedSimpArgs false
set_option linter.unnecessarySimpa false
set_option linter.unusedVariables false
set_option linter.unusedSectionVars false
set_option maxRecDepth 100000
set_option maxHeartbeats 8000000
set_option linter.unusedSimpArgs false
set_option linter.unusedVariables false
namespace Go.Proofs.Yteeelcmnlomgmaa
open Go.Ds
/-! ## Rank and At undo each other -/
theorem rkT_le (u : Nat) : ∀ c, rkT u c ≤ c := by
  intro c
  induction c with
  | zero => exact Nat.le_refl _
  | succ c ih => rw [rkT_succ]; rcases fr_cases u c with h | h <;> omega
theorem sumTo_up (f : Nat → Nat) {a : Nat} : ∀ {b : Nat}, a ≤ b → sumTo f a ≤ sumTo f b
  | 0, h => by rw [show a = 0 by omega]; exact Nat.le_refl _
  | b + 1, h => by
    by_cases c : a = b + 1
    · rw [c]; exact Nat.le_refl _
    · have := sumTo_up f (show a ≤ b by omega)
      show _ ≤ sumTo f b + f b
      omega
theorem leftOf_or {u k n : Nat} {x : Int} (h : x ∈ leftOf (u ||| 2 ^ (k + 1)) n) : x ∈ leftOf u n ∧ x ≠ (k : Int) + 1 := by
  obtain ⟨j, hj, rfl, hf⟩ := leftOf_mem.1 h
  rw [fr_or] at hf
  split at hf
  · cases hf
  · exact ⟨leftOf_mem.2 ⟨j, hj, rfl, hf⟩, by omega⟩
theorem nthW_facts {n : Nat} (hn : n ≤ 10) : ∀ (m u : Nat) (L : List Int) (r : Nat), refTurnL true L = true → rkT u n = m → r < cntW n m u L →
    ∃ R, nthW n m u L r = L ++ R ∧ R.length = m ∧ (∀ x ∈ R, x ∈ leftOf u n) ∧ R.Nodup ∧ refTurnL true (L ++ R) = true ∧ rankU n u L R = r
  | 0, u, L, r, hL, hu, hr => by
    have h1 : cntW n 0 u L = 1 := rfl
    rw [h1] at hr
    exact ⟨[], by rw [List.append_nil]; rfl, rfl, by simp, List.nodup_nil, by rw [List.append_nil]; exact hL, by show 0 = r; omega⟩
  | m + 1, u, L, r, hL, hu, hr => by
    have hle := rkT_le u n
    rw [cntW_ways hn hL (by omega) hu] at hr
    obtain ⟨i, hi, h1, h2⟩ := seek_at hr
    obtain ⟨k, hk, hf, hrk, hAi, hw, hnth, hcnt⟩ := nthW_step hn hL hu hi h1 h2
    have e1 := rkT_or u k hf n
    rw [if_pos hk] at e1
    obtain ⟨R, q1, q2, q3, q4, q5, q6⟩ := nthW_facts hn m (u ||| 2 ^ (k + 1)) (L ++ [(k : Int) + 1]) _ hw (by omega) hcnt
    rw [List.append_assoc] at q1 q5
    refine ⟨((k : Int) + 1) :: R, by rw [hnth, q1]; rfl, by simp [q2], fun x hx => ?_, List.nodup_cons.2 ⟨fun hx => (leftOf_or (q3 _ hx)).2 rfl, q4⟩, q5, ?_⟩
    · rcases List.mem_cons.1 hx with rfl | hx
      · exact leftOf_mem.2 ⟨k, hk, rfl, hf⟩
      · exact (leftOf_or (q3 x hx)).1
    · show sumTo (wayV L (leftOf u n)) (rkT u (((k : Int) + 1).toNat - 1)) + rankU n (u ||| 2 ^ (((k : Int) + 1).toNat - 1 + 1)) (L ++ [(k : Int) + 1]) R = r
      rw [show ((k : Int) + 1).toNat - 1 = k by omega, q6, hrk]
      omega
theorem rankU_facts {n : Nat} (hn : n ≤ 10) : ∀ (R : List Int) (u : Nat) (L : List Int), R.length = rkT u n → (∀ x ∈ R, x ∈ leftOf u n) → R.Nodup → refTurnL true (L ++ R) = true →
    rankU n u L R < cntW n R.length u L ∧ nthW n R.length u L (rankU n u L R) = L ++ R
  | [], u, L, h1, _, _, _ => ⟨Nat.one_pos, by rw [List.append_nil]; rfl⟩
  | x :: R, u, L, h1, h2, h3, h4 => by
    obtain ⟨k, hk, rfl, hf⟩ := leftOf_mem.1 (h2 x List.mem_cons_self)
    have hk1 : ((k : Int) + 1).toNat - 1 = k := by omega
    have hcon : refTurnL true (L ++ [(k : Int) + 1] ++ R) = true := by rw [List.append_assoc]; exact h4
    have hw := refTurnL_pre _ _ _ hcon
    have hwL := refTurnL_pre L true _ h4
    have hlen : R.length + 1 = rkT u n := h1
    have e1 := rkT_or u k hf n
    rw [if_pos hk] at e1
    have hle := rkT_le u n
    have h3' := List.nodup_cons.1 h3
    obtain ⟨i1, i2⟩ := rankU_facts hn R (u ||| 2 ^ (k + 1)) (L ++ [(k : Int) + 1]) (by omega) (fun y hy => by
      obtain ⟨j, hj, rfl, hfj⟩ := leftOf_mem.1 (h2 y (List.mem_cons_of_mem _ hy))
      refine leftOf_mem.2 ⟨j, hj, rfl, ?_⟩
      rw [fr_or, if_neg]
      · exact hfj
      · intro e
        subst e
        exact h3'.1 hy) h3'.2 hcon
    have hrU : rankU n u L (((k : Int) + 1) :: R) = sumTo (wayV L (leftOf u n)) (rkT u k) + rankU n (u ||| 2 ^ (k + 1)) (L ++ [(k : Int) + 1]) R := by
      show sumTo (wayV L (leftOf u n)) (rkT u (((k : Int) + 1).toNat - 1)) + rankU n (u ||| 2 ^ (((k : Int) + 1).toNat - 1 + 1)) (L ++ [(k : Int) + 1]) R = _
      rw [hk1]
    obtain ⟨r', hr'⟩ : ∃ r', rankU n (u ||| 2 ^ (k + 1)) (L ++ [(k : Int) + 1]) R = r' := ⟨_, rfl⟩
    rw [hr'] at i1 i2 hrU
    rw [hrU]
    have hu0 : u / 2 ^ (k + 1) % 2 = 0 := by
      unfold fr at hf
      split at hf
      · assumption
      · cases hf
    have htv : termW n R.length u L k = cntW n R.length (u ||| 2 ^ (k + 1)) (L ++ [(k : Int) + 1]) := by unfold termW; rw [if_pos ⟨hu0, hw⟩]
    have a1 := terms_ways hn (m := R.length) (u := u) (by omega) hwL (by omega) k (by omega)
    have a2 := terms_ways hn (m := R.length) (u := u) (by omega) hwL (by omega) (k + 1) (by omega)
    rw [rkT_succ, hf] at a2
    have a3 : sumTo (termW n R.length u L) (k + 1) = sumTo (termW n R.length u L) k + termW n R.length u L k := rfl
    have hlt := rkT_lt hk hf
    have hmono := sumTo_up (wayV L (leftOf u n)) (show rkT u k + 1 ≤ R.length + 1 by omega)
    have hct : cntW n (R.length + 1) u L = sumTo (wayV L (leftOf u n)) (R.length + 1) := cntW_ways hn hwL (by omega) (by omega)
    refine ⟨by show _ < cntW n (R.length + 1) u L; omega, ?_⟩
    obtain ⟨k2, b1, b2, b3, b4, b5, b6, b7⟩ := nthW_step hn (m := R.length) (L := L) (u := u) hwL (by omega) (r := sumTo (wayV L (leftOf u n)) (rkT u k) + r') (i := rkT u k) (by omega) (by omega) (by omega)
    rw [leftOf_at hf hk] at b4
    have : k2 = k := by omega
    subst this
    show nthW n (R.length + 1) u L _ = _
    rw [b6, Nat.add_sub_cancel_left, i2, List.append_assoc]
    rfl
theorem nthW_asc {n : Nat} (hn : n ≤ 10) : ∀ (m u : Nat) (L : List Int) (r s : Nat), refTurnL true L = true → rkT u n = m → r < s → s < cntW n m u L → ∃ P a b S T, nthW n m u L r = P ++ a :: S ∧ nthW n m u L s = P ++ b :: T ∧ a < b
  | 0, u, L, r, s, _, _, h1, h2 => by
    have : cntW n 0 u L = 1 := rfl
    omega
  | m + 1, u, L, r, s, hL, hu, hrs, hs => by
    have hle := rkT_le u n
    have hs' := hs
    rw [cntW_ways hn hL (by omega) hu] at hs
    obtain ⟨i, hi, h1, h2⟩ := seek_at (show r < sumTo (wayV L (leftOf u n)) (m + 1) by omega)
    obtain ⟨j, hj, g1, g2⟩ := seek_at hs
    obtain ⟨k, hk, hf, hrk, hAi, hw, hnth, hcnt⟩ := nthW_step hn hL hu hi h1 h2
    obtain ⟨k2, hk2, hf2, hrk2, hAi2, hw2, hnth2, hcnt2⟩ := nthW_step hn hL hu hj g1 g2
    have e1 := rkT_or u k hf n
    have e2 := rkT_or u k2 hf2 n
    rw [if_pos hk] at e1
    rw [if_pos hk2] at e2
    by_cases c : i = j
    · subst c
      have : k2 = k := by omega
      subst this
      rw [hnth, hnth2]
      exact nthW_asc hn m _ _ _ _ hw (by omega) (by omega) hcnt2
    · have hij : i < j := by
        rcases Nat.lt_or_ge i j with h | h
        · exact h
        · have := sumTo_up (wayV L (leftOf u n)) (show j + 1 ≤ i by omega)
          omega
      have hkk : k < k2 := by
        rcases Nat.lt_or_ge k k2 with h | h
        · exact h
        · have := rkT_mono u h
          omega
      obtain ⟨R, q1, _⟩ := nthW_facts hn m _ _ _ hw (by omega) hcnt
      obtain ⟨R2, p1, _⟩ := nthW_facts hn m _ _ _ hw2 (by omega) hcnt2
      rw [hnth, hnth2, q1, p1]
      exact ⟨L, (k : Int) + 1, (k2 : Int) + 1, R, R2, by simp, by simp, by omega⟩
end Go.Proofs.Yteeelcmnlomgmaa
set_option maxRecDepth 100000
set_option maxHeartbeats 8000000
set_option linter.unusedSimpArgs false
set_option linter.unusedVariables false
namespace Go.Proofs.Yteeelcmnlomgmaa
open Go.Ds
theorem rank_row {L : List Int} (h : (rankT L).2 = 0) : ∃ r : Nat, rankT L = ((r : Int), 0) ∧ atT L.length r = (L, 0) := by
  unfold rankT at h ⊢
  by_cases c : rowE L = 0
  · rw [if_pos c] at h ⊢
    cases hb : inTurnL true L with
    | false => rw [hb] at h; simp at h
    | true =>
      rw [hb] at h
      obtain ⟨r1, r2, r3, r4⟩ := row_facts c
      have hturn : refTurnL true L = true := by rw [turn_same L true r2]; exact hb
      have hin : ∀ x ∈ L, x ∈ leftOf 0 L.length := fun x hx => by
        have := r4 x hx
        exact leftOf_mem.2 ⟨x.toNat - 1, by omega, by omega, by unfold fr; rw [if_pos (by simp)]⟩
      have hrk := befW_rankU (n := L.length) (by omega) L 0 [] (by rw [rkT_zero]) hin r2 hturn
      obtain ⟨b1, b2⟩ := rankU_facts (n := L.length) (by omega) L 0 [] (by rw [rkT_zero]) hin r2 hturn
      rw [List.nil_append] at hrk b2
      refine ⟨befW L L.length L.length 0 [], rfl, ?_⟩
      rw [hrk]
      unfold atT
      rw [if_neg (by omega), Int.toNat_natCast, Int.toNat_natCast, if_neg (by omega), b2]
  · rw [if_neg c] at h
    exact absurd h c
theorem at_row {n a : Nat} (hn : n ≤ 10) (ha : a < zig n) : ∃ W : List Int, atT n a = (W, 0) ∧ W = nthW n n 0 [] a ∧ W.length = n ∧ rowE W = 0 ∧ rankT W = ((a : Int), 0) := by
  rw [← cnt_all hn] at ha
  obtain ⟨R, q1, q2, q3, q4, q5, q6⟩ := nthW_facts hn n 0 [] a rfl (rkT_zero n) ha
  rw [List.nil_append] at q1 q5
  have hrow : rowE R = 0 := rowE_of (by omega) q4 fun x hx => by
    obtain ⟨k, h1, rfl, _⟩ := leftOf_mem.1 (q3 x hx)
    omega
  refine ⟨R, ?_, q1.symm, q2, hrow, ?_⟩
  · unfold atT
    rw [if_neg (by omega), Int.toNat_natCast, Int.toNat_natCast, if_neg (by omega), q1]
  · have hb : inTurnL true R = true := by rw [← turn_same R true q4]; exact q5
    have hrk := befW_rankU (n := n) hn R 0 [] (by rw [rkT_zero]; exact q2) q3 q4 q5
    rw [List.nil_append, q2] at hrk
    unfold rankT
    rw [if_pos hrow, if_pos hb, q2, hrk, q6]
theorem at_end {n : Nat} (hn : n ≤ 10) : atT n (zig n) = ([], 4) := by
  unfold atT
  rw [if_neg (by omega), Int.toNat_natCast, cnt_all hn, if_pos (.inr (by omega))]
theorem zig_pos : ∀ n, n ≤ 10 → 1 ≤ zig n ∧ zig n ≤ 50521 := by decide
/-- The first numbers that are not the same tell which rank is less. -/
theorem first_diff {X Y P S T : List Int} {a b : Int} (hX : X = P ++ a :: S) (hY : Y = P ++ b :: T) (hab : a ≠ b) {i : Nat} (hp : X.take i = Y.take i) (hi : i < X.length) (hd : X.getD i 0 ≠ Y.getD i 0) : X.getD i 0 = a ∧ Y.getD i 0 = b := by
  have h1 : ∀ j, j < P.length → X.getD j 0 = Y.getD j 0 := by
    intro j hj
    rw [hX, hY, List.getD_eq_getElem?_getD, List.getD_eq_getElem?_getD, List.getElem?_append_left hj, List.getElem?_append_left hj]
  have h2 : ∀ j, j < i → X.getD j 0 = Y.getD j 0 := by
    intro j hj
    have := congrArg (fun l : List Int => l[j]?) hp
    simp only [List.getElem?_take, if_pos hj] at this
    rw [List.getD_eq_getElem?_getD, List.getD_eq_getElem?_getD, this]
  have ha : X.getD P.length 0 = a := by rw [hX, List.getD_eq_getElem?_getD, List.getElem?_append_right (Nat.le_refl _), Nat.sub_self]; rfl
  have hb : Y.getD P.length 0 = b := by rw [hY, List.getD_eq_getElem?_getD, List.getElem?_append_right (Nat.le_refl _), Nat.sub_self]; rfl
  have : i = P.length := by
    rcases Nat.lt_trichotomy i P.length with h | h | h
    · exact absurd (h1 i h) hd
    · exact h
    · have := h2 _ h
      rw [ha, hb] at this
      exact absurd this hab
  subst this
  exact ⟨ha, hb⟩
theorem cmp_rank {n a b : Nat} (hn : n ≤ 10) (ha : a < zig n) (hb : b < zig n) {W1 W2 : List Int} (h1 : W1 = nthW n n 0 [] a) (h2 : W2 = nthW n n 0 [] b) {i : Nat} (hp : W1.take i = W2.take i) (hi : i < W1.length) (hd : W1.getD i 0 ≠ W2.getD i 0) :
    decide (W1.getD i 0 < W2.getD i 0) = decide ((a : Int) < (b : Int)) := by
  rw [← cnt_all hn] at ha hb
  rcases Nat.lt_trichotomy a b with h | h | h
  · obtain ⟨P, x, y, S, T, q1, q2, q3⟩ := nthW_asc hn n 0 [] a b rfl (rkT_zero n) h hb
    obtain ⟨r1, r2⟩ := first_diff (h1.trans q1) (h2.trans q2) (by omega) hp hi hd
    rw [r1, r2, decide_eq_true q3, decide_eq_true (by omega)]
  · subst h
    exact absurd (by rw [h1, h2]) hd
  · obtain ⟨P, x, y, S, T, q1, q2, q3⟩ := nthW_asc hn n 0 [] b a rfl (rkT_zero n) h ha
    obtain ⟨r1, r2⟩ := first_diff (h1.trans q2) (h2.trans q1) (by omega) hp hi hd
    rw [r1, r2, decide_eq_false (by omega), decide_eq_false (by omega)]
theorem rankedLaw_rets {X : Caller} (hX : Xok1 X) (L : List Int) (z : Int) (h0 : 0 ≤ z) (h1 : z < 256) (f1 : Int) (p0 : 0 ≤ f1) (p1 : f1 < 4294967296) (f2 : Int) (q0 : 0 ≤ f2) (q1 : f2 < 4294967296) (s : Value) (g : GH) (hs : SlR g s (ints L)) :
    Rets Try.prog X 12 [s, .int .u8 z, .int .u32 f1, .int .u32 f2] g (fun v g' lo => g.next ≤ lo ∧ v = .bool true) := by
  have e0 : ∀ a b : Value, extF (.tuple #[a, b]) 0 = some a := fun _ _ => rfl
  have e1 : ∀ a b : Value, extF (.tuple #[a, b]) 1 = some b := fun _ _ => rfl
  have hq : ∀ p q : Bool, eqBF false (.bool p) (.bool q) = some (.bool (p == q)) := fun _ _ => rfl
  refine Rets.run hX.pres p12 (hX.free 12 (by decide) _ _) rfl fun ho => ?_
  have hl := hs.len
  rw [ints_len] at hl
  by_cases c : L.length ≤ 60
  case neg =>
    have c' : (60 : Int) < (L.length : Int) := by omega
    simp +decide (disch := first | assumption | (apply GH.ok_push; assumption) | exact cellV_int _ _ | exact cellV_bool _ | omega) only [go_sem, ↓reduceIte, Nat.reduceEqDiff, Nat.reduceAdd, Int.reduceToNat, hl, c']
    refine CallD.calm (hX.alive _) ?_
    rintro v G hx rfl
    simp +decide (disch := first | assumption | (apply GH.ok_push; assumption) | exact cellV_int _ _ | exact cellV_bool _ | omega) only [go_sem, ↓reduceIte, Nat.reduceEqDiff, Nat.reduceAdd, Int.reduceToNat]
    intro hx0
    exact ⟨Nat.le_refl _, rfl⟩
  have c' : ¬ (60 : Int) < (L.length : Int) := by omega
  obtain ⟨n, hn, hn10⟩ : ∃ n : Nat, z.tmod 11 = n ∧ n ≤ 10 := by
    rw [Int.tmod_eq_emod_of_nonneg h0]
    exact ⟨(z % 11).toNat, by omega, by omega⟩
  have hcv : convF .i64 (.int .u8 (n : Int)) = some (.int .i64 (n : Int)) := by
    obtain rfl | rfl | rfl | rfl | rfl | rfl | rfl | rfl | rfl | rfl | rfl : n = 0 ∨ n = 1 ∨ n = 2 ∨ n = 3 ∨ n = 4 ∨ n = 5 ∨ n = 6 ∨ n = 7 ∨ n = 8 ∨ n = 9 ∨ n = 10 := by omega
    all_goals rfl
  obtain ⟨z1, z2⟩ := zig_pos n hn10
  have hz0 : ¬ ((zig n : Nat) : Int) = 0 := by omega
  obtain ⟨a, ha, haz⟩ : ∃ a : Nat, f1.tmod (zig n : Nat) = a ∧ a < zig n := by
    rw [Int.tmod_eq_emod_of_nonneg p0]
    have h1 := Int.emod_nonneg f1 hz0
    have h2 := Int.emod_lt_of_pos f1 (show (0 : Int) < (zig n : Nat) by omega)
    exact ⟨(f1 % (zig n : Nat)).toNat, by omega, by omega⟩
  obtain ⟨b, hb, hbz⟩ : ∃ b : Nat, f2.tmod (zig n : Nat) = b ∧ b < zig n := by
    rw [Int.tmod_eq_emod_of_nonneg q0]
    have h1 := Int.emod_nonneg f2 hz0
    have h2 := Int.emod_lt_of_pos f2 (show (0 : Int) < (zig n : Nat) by omega)
    exact ⟨(f2 % (zig n : Nat)).toNat, by omega, by omega⟩
  have cv1 : convF .i64 (.int .u32 f1) = some (.int .i64 f1) := by
    show some (Value.int .i64 (wrapF .i64 f1)) = _
    rw [wr64 (by omega) (by omega)]
  have cv2 : convF .i64 (.int .u32 f2) = some (.int .i64 f2) := by
    show some (Value.int .i64 (wrapF .i64 f2)) = _
    rw [wr64 (by omega) (by omega)]
  obtain ⟨W1, w1, w2, w3, w4, w5⟩ := at_row hn10 haz
  obtain ⟨W2, y1, y2, y3, y4, y5⟩ := at_row hn10 hbz
  have hAta := fun g' => At_rets hX.toXok n a g'
  have hAtb := fun g' => At_rets hX.toXok n b g'
  have hAte := fun g' => At_rets hX.toXok n (zig n : Nat) g'
  rw [w1] at hAta
  rw [y1] at hAtb
  rw [at_end hn10] at hAte
  obtain ⟨k1, hk1⟩ : ∃ k, rankT L = k := ⟨_, rfl⟩
  obtain ⟨k1, k2⟩ := k1
  have hR := fun g' h => Rank_rets hX.toXok L (by omega) s g' h
  have hrr := rank_row (L := L)
  rw [hk1] at hR hrr
  simp +decide (disch := first | assumption | (apply GH.ok_push; assumption) | exact cellV_int _ _ | exact cellV_bool _ | omega) only [go_sem, ↓reduceIte, Nat.reduceEqDiff, Nat.reduceAdd, Int.reduceToNat, hl, c']
  refine CallD.calm (hR _ hs) ?_
  rintro v G hx rfl
  have hn0 := hx.next
  have hsG := hs.ext hx
  by_cases ck : k2 = 0
  case pos =>
    subst ck
    obtain ⟨r, hr1, hr2⟩ := hrr rfl
    cases hr1
    have hAtl := fun g' => At_rets hX.toXok L.length r g'
    rw [hr2] at hAtl
    simp +decide (disch := first | assumption | (apply GH.ok_push; assumption) | exact cellV_int _ _ | exact cellV_bool _ | omega) only [go_sem, ↓reduceIte, Nat.reduceEqDiff, Nat.reduceAdd, Int.reduceToNat, e0, e1, hl]
    refine CallD.calm (hAtl _) ?_
    rintro v G1 hx1 ⟨u1, rfl, hu1⟩
    have hn1 := hx1.next
    simp +decide (disch := first | assumption | (apply GH.ok_push; assumption) | exact cellV_int _ _ | exact cellV_bool _ | omega) only [go_sem, ↓reduceIte, Nat.reduceEqDiff, Nat.reduceAdd, Int.reduceToNat, e0, e1]
    refine CallD.calm (same_rets hX.toXok L L (by omega) (by omega) u1 s G1 hu1 (hsG.ext hx1)) ?_
    rintro v G2 hx2 rfl
    have hn2 := hx2.next
    rw [decide_eq_true rfl]
    simp +decide (disch := first | assumption | (apply GH.ok_push; assumption) | exact cellV_int _ _ | exact cellV_bool _ | omega) only [go_sem, ↓reduceIte, Nat.reduceEqDiff, Nat.reduceAdd, Int.reduceToNat, hn, hcv]
    refine CallD.calm (hX.count n hn10 _) ?_
    rintro v G3 hx3 rfl
    have hn3 := hx3.next
    simp +decide (disch := first | assumption | (apply GH.ok_push; assumption) | exact cellV_int _ _ | exact cellV_bool _ | omega) only [go_sem, ↓reduceIte, Nat.reduceEqDiff, Nat.reduceAdd, Int.reduceToNat, e0, e1, hn, hcv, cv1, cv2, ha, hb, hz0]
    refine CallD.calm (hAta _) ?_
    rintro v G4 hx4 ⟨u4, rfl, hu4⟩
    have hn4 := hx4.next
    simp +decide (disch := first | assumption | (apply GH.ok_push; assumption) | exact cellV_int _ _ | exact cellV_bool _ | omega) only [go_sem, ↓reduceIte, Nat.reduceEqDiff, Nat.reduceAdd, Int.reduceToNat, e0, e1]
    refine CallD.calm (hAtb _) ?_
    rintro v G5 hx5 ⟨u5, rfl, hu5⟩
    have hn5 := hx5.next
    have hu4' := hu4.ext hx5
    have h6 := Rank_rets hX.toXok W1 (by omega) u4 _ hu4'
    rw [w5] at h6
    simp +decide (disch := first | assumption | (apply GH.ok_push; assumption) | exact cellV_int _ _ | exact cellV_bool _ | omega) only [go_sem, ↓reduceIte, Nat.reduceEqDiff, Nat.reduceAdd, Int.reduceToNat, e0, e1]
    refine CallD.calm h6 ?_
    rintro v G6 hx6 rfl
    have hn6 := hx6.next
    have hu4 := hu4'.ext hx6
    have hu5 := hu5.ext hx6
    simp +decide (disch := first | assumption | (apply GH.ok_push; assumption) | exact cellV_int _ _ | exact cellV_bool _ | omega) only [go_sem, ↓reduceIte, Nat.reduceEqDiff, Nat.reduceAdd, Int.reduceToNat, e0, e1]
    refine CallD.calm (hAte _) ?_
    rintro v G7 hx7 ⟨u7, rfl, hu7⟩
    have hn7 := hx7.next
    have hu4 := hu4.ext hx7
    have hu5 := hu5.ext hx7
    have l4 := hu4.len
    have l5 := hu5.len
    rw [ints_len, w3] at l4
    rw [ints_len, y3] at l5
    simp +decide (disch := first | assumption | (apply GH.ok_push; assumption) | exact cellV_int _ _ | exact cellV_bool _ | omega) only [go_sem, ↓reduceIte, Nat.reduceEqDiff, Nat.reduceAdd, Int.reduceToNat, e0, e1, l4, l5]
    refine CallD.calm (refRow_rets hX.toXok W1 (by omega) u4 _ hu4) ?_
    rintro v G8 hx8 rfl
    have hn8 := hx8.next
    have hu4 := hu4.ext hx8
    have hu5 := hu5.ext hx8
    rw [w4]
    simp +decide (disch := first | assumption | (apply GH.ok_push; assumption) | exact cellV_int _ _ | exact cellV_bool _ | omega) only [go_sem, ↓reduceIte, Nat.reduceEqDiff, Nat.reduceAdd, Int.reduceToNat]
    refine Wk.loops (fun m e g' lo => g' = G8 ∧ g.next ≤ lo ∧ ∃ i : Nat, i + m = n ∧ (ev e (.s 13) = .int .i64 n ∧ ev e (.s 16) = .int .i64 a ∧ ev e (.s 17) = .int .i64 b ∧ ev e (.s 18) = u4 ∧ ev e (.s 19) = u5 ∧ ev e (.s 24) = .int .i64 i) ∧ W1.take i = W2.take i)
      (fun e g' lo => g' = G8 ∧ g.next ≤ lo ∧ (ev e (.s 16) = .int .i64 a ∧ ev e (.s 17) = .int .i64 b) ∧ W1 = W2) (n := n) ?_ ?_ ?_
    · exact ⟨rfl, by omega, 0, by omega, (by simp +decide (disch := first | assumption | (apply GH.ok_push; assumption) | exact cellV_int _ _ | exact cellV_bool _ | omega) only [go_sem, ↓reduceIte, Nat.reduceEqDiff, Nat.reduceAdd, Int.reduceToNat]; first | done | exact rfl), rfl⟩
    · rintro e g' lo - - ⟨rfl, hlo, he, h⟩
      have hab : a = b := by
        subst h
        have := w5.symm.trans y5
        simp at this
        omega
      subst hab
      have hd : decide ((a : Int) = a) = true := decide_eq_true rfl
      simp +decide (disch := first | assumption | (apply GH.ok_push; assumption) | exact cellV_int _ _ | exact cellV_bool _ | omega) only [go_sem, ↓reduceIte, Nat.reduceEqDiff, Nat.reduceAdd, Int.reduceToNat, he]
      refine CallD.calm (hX.alive _) ?_
      rintro v G9 hx9 rfl
      simp +decide (disch := first | assumption | (apply GH.ok_push; assumption) | exact cellV_int _ _ | exact cellV_bool _ | omega) only [go_sem, ↓reduceIte, Nat.reduceEqDiff, Nat.reduceAdd, Int.reduceToNat]
      intro hx0
      exact ⟨by omega, rfl⟩
    · rintro m e g' lo ho' hl' ih out ⟨rfl, hlo, i, hi, he, hp⟩
      by_cases c2 : i < n
      · obtain ⟨j1, o1, hj1, hp1, hp2⟩ := hu4.ptr (ints_get (D := W1) (i := i) (by omega))
        obtain ⟨j2, o2, hj2, hq1, hq2⟩ := hu5.ptr (ints_get (D := W2) (i := i) (by omega))
        have hp1 := hp1 (i : Int) rfl
        have hq1 := hq1 (i : Int) rfl
        by_cases d : W1.getD i 0 = W2.getD i 0
        · simp +decide (disch := first | assumption | (apply GH.ok_push; assumption) | exact cellV_int _ _ | exact cellV_bool _ | omega) only [go_sem, ↓reduceIte, Nat.reduceEqDiff, Nat.reduceAdd, Int.reduceToNat, he, hp1, hp2, hq1, hq2, d]
          refine ih (m - 1) _ _ _ (by omega) ⟨rfl, hlo, i + 1, by omega, (by simp +decide (disch := first | assumption | (apply GH.ok_push; assumption) | exact cellV_int _ _ | exact cellV_bool _ | omega) only [go_sem, ↓reduceIte, Nat.reduceEqDiff, Nat.reduceAdd, Int.reduceToNat, he]; first | done | exact rfl), ?_⟩
          rw [take_snoc W1 i (by omega), take_snoc W2 i (by omega), hp, d]
        · have hcm := cmp_rank hn10 haz hbz w2 y2 hp (by omega) d
          simp +decide (disch := first | assumption | (apply GH.ok_push; assumption) | exact cellV_int _ _ | exact cellV_bool _ | omega) only [go_sem, ↓reduceIte, Nat.reduceEqDiff, Nat.reduceAdd, Int.reduceToNat, he, hp1, hp2, hq1, hq2, hq]
          rw [hcm, beq_self_eq_true]
          simp +decide (disch := first | assumption | (apply GH.ok_push; assumption) | exact cellV_int _ _ | exact cellV_bool _ | omega) only [go_sem, ↓reduceIte, Nat.reduceEqDiff, Nat.reduceAdd, Int.reduceToNat]
          refine CallD.calm (hX.alive _) ?_
          rintro v G9 hx9 rfl
          simp +decide (disch := first | assumption | (apply GH.ok_push; assumption) | exact cellV_int _ _ | exact cellV_bool _ | omega) only [go_sem, ↓reduceIte, Nat.reduceEqDiff, Nat.reduceAdd, Int.reduceToNat]
          intro hx0
          exact ⟨by omega, rfl⟩
      · simp +decide (disch := first | assumption | (apply GH.ok_push; assumption) | exact cellV_int _ _ | exact cellV_bool _ | omega) only [go_sem, ↓reduceIte, Nat.reduceEqDiff, Nat.reduceAdd, Int.reduceToNat, he]
        refine out _ _ _ ⟨rfl, hlo, (by simp +decide (disch := first | assumption | (apply GH.ok_push; assumption) | exact cellV_int _ _ | exact cellV_bool _ | omega) only [go_sem, ↓reduceIte, Nat.reduceEqDiff, Nat.reduceAdd, Int.reduceToNat, he]; first | done | exact rfl), ?_⟩
        rw [List.take_of_length_le (by omega), List.take_of_length_le (by omega)] at hp
        exact hp
  case neg =>
    simp +decide (disch := first | assumption | (apply GH.ok_push; assumption) | exact cellV_int _ _ | exact cellV_bool _ | omega) only [go_sem, ↓reduceIte, Nat.reduceEqDiff, Nat.reduceAdd, Int.reduceToNat, e0, e1, ck, hn, hcv]
    refine CallD.calm (hX.count n hn10 _) ?_
    rintro v G3 hx3 rfl
    have hn3 := hx3.next
    simp +decide (disch := first | assumption | (apply GH.ok_push; assumption) | exact cellV_int _ _ | exact cellV_bool _ | omega) only [go_sem, ↓reduceIte, Nat.reduceEqDiff, Nat.reduceAdd, Int.reduceToNat, e0, e1, hn, hcv, cv1, cv2, ha, hb, hz0]
    refine CallD.calm (hAta _) ?_
    rintro v G4 hx4 ⟨u4, rfl, hu4⟩
    have hn4 := hx4.next
    simp +decide (disch := first | assumption | (apply GH.ok_push; assumption) | exact cellV_int _ _ | exact cellV_bool _ | omega) only [go_sem, ↓reduceIte, Nat.reduceEqDiff, Nat.reduceAdd, Int.reduceToNat, e0, e1]
    refine CallD.calm (hAtb _) ?_
    rintro v G5 hx5 ⟨u5, rfl, hu5⟩
    have hn5 := hx5.next
    have hu4' := hu4.ext hx5
    have h6 := Rank_rets hX.toXok W1 (by omega) u4 _ hu4'
    rw [w5] at h6
    simp +decide (disch := first | assumption | (apply GH.ok_push; assumption) | exact cellV_int _ _ | exact cellV_bool _ | omega) only [go_sem, ↓reduceIte, Nat.reduceEqDiff, Nat.reduceAdd, Int.reduceToNat, e0, e1]
    refine CallD.calm h6 ?_
    rintro v G6 hx6 rfl
    have hn6 := hx6.next
    have hu4 := hu4'.ext hx6
    have hu5 := hu5.ext hx6
    simp +decide (disch := first | assumption | (apply GH.ok_push; assumption) | exact cellV_int _ _ | exact cellV_bool _ | omega) only [go_sem, ↓reduceIte, Nat.reduceEqDiff, Nat.reduceAdd, Int.reduceToNat, e0, e1]
    refine CallD.calm (hAte _) ?_
    rintro v G7 hx7 ⟨u7, rfl, hu7⟩
    have hn7 := hx7.next
    have hu4 := hu4.ext hx7
    have hu5 := hu5.ext hx7
    have l4 := hu4.len
    have l5 := hu5.len
    rw [ints_len, w3] at l4
    rw [ints_len, y3] at l5
    simp +decide (disch := first | assumption | (apply GH.ok_push; assumption) | exact cellV_int _ _ | exact cellV_bool _ | omega) only [go_sem, ↓reduceIte, Nat.reduceEqDiff, Nat.reduceAdd, Int.reduceToNat, e0, e1, l4, l5]
    refine CallD.calm (refRow_rets hX.toXok W1 (by omega) u4 _ hu4) ?_
    rintro v G8 hx8 rfl
    have hn8 := hx8.next
    have hu4 := hu4.ext hx8
    have hu5 := hu5.ext hx8
    rw [w4]
    simp +decide (disch := first | assumption | (apply GH.ok_push; assumption) | exact cellV_int _ _ | exact cellV_bool _ | omega) only [go_sem, ↓reduceIte, Nat.reduceEqDiff, Nat.reduceAdd, Int.reduceToNat]
    refine Wk.loops (fun m e g' lo => g' = G8 ∧ g.next ≤ lo ∧ ∃ i : Nat, i + m = n ∧ (ev e (.s 13) = .int .i64 n ∧ ev e (.s 16) = .int .i64 a ∧ ev e (.s 17) = .int .i64 b ∧ ev e (.s 18) = u4 ∧ ev e (.s 19) = u5 ∧ ev e (.s 24) = .int .i64 i) ∧ W1.take i = W2.take i)
      (fun e g' lo => g' = G8 ∧ g.next ≤ lo ∧ (ev e (.s 16) = .int .i64 a ∧ ev e (.s 17) = .int .i64 b) ∧ W1 = W2) (n := n) ?_ ?_ ?_
    · exact ⟨rfl, by omega, 0, by omega, (by simp +decide (disch := first | assumption | (apply GH.ok_push; assumption) | exact cellV_int _ _ | exact cellV_bool _ | omega) only [go_sem, ↓reduceIte, Nat.reduceEqDiff, Nat.reduceAdd, Int.reduceToNat]; first | done | exact rfl), rfl⟩
    · rintro e g' lo - - ⟨rfl, hlo, he, h⟩
      have hab : a = b := by
        subst h
        have := w5.symm.trans y5
        simp at this
        omega
      subst hab
      have hd : decide ((a : Int) = a) = true := decide_eq_true rfl
      simp +decide (disch := first | assumption | (apply GH.ok_push; assumption) | exact cellV_int _ _ | exact cellV_bool _ | omega) only [go_sem, ↓reduceIte, Nat.reduceEqDiff, Nat.reduceAdd, Int.reduceToNat, he]
      refine CallD.calm (hX.alive _) ?_
      rintro v G9 hx9 rfl
      simp +decide (disch := first | assumption | (apply GH.ok_push; assumption) | exact cellV_int _ _ | exact cellV_bool _ | omega) only [go_sem, ↓reduceIte, Nat.reduceEqDiff, Nat.reduceAdd, Int.reduceToNat]
      intro hx0
      exact ⟨by omega, rfl⟩
    · rintro m e g' lo ho' hl' ih out ⟨rfl, hlo, i, hi, he, hp⟩
      by_cases c2 : i < n
      · obtain ⟨j1, o1, hj1, hp1, hp2⟩ := hu4.ptr (ints_get (D := W1) (i := i) (by omega))
        obtain ⟨j2, o2, hj2, hq1, hq2⟩ := hu5.ptr (ints_get (D := W2) (i := i) (by omega))
        have hp1 := hp1 (i : Int) rfl
        have hq1 := hq1 (i : Int) rfl
        by_cases d : W1.getD i 0 = W2.getD i 0
        · simp +decide (disch := first | assumption | (apply GH.ok_push; assumption) | exact cellV_int _ _ | exact cellV_bool _ | omega) only [go_sem, ↓reduceIte, Nat.reduceEqDiff, Nat.reduceAdd, Int.reduceToNat, he, hp1, hp2, hq1, hq2, d]
          refine ih (m - 1) _ _ _ (by omega) ⟨rfl, hlo, i + 1, by omega, (by simp +decide (disch := first | assumption | (apply GH.ok_push; assumption) | exact cellV_int _ _ | exact cellV_bool _ | omega) only [go_sem, ↓reduceIte, Nat.reduceEqDiff, Nat.reduceAdd, Int.reduceToNat, he]; first | done | exact rfl), ?_⟩
          rw [take_snoc W1 i (by omega), take_snoc W2 i (by omega), hp, d]
        · have hcm := cmp_rank hn10 haz hbz w2 y2 hp (by omega) d
          simp +decide (disch := first | assumption | (apply GH.ok_push; assumption) | exact cellV_int _ _ | exact cellV_bool _ | omega) only [go_sem, ↓reduceIte, Nat.reduceEqDiff, Nat.reduceAdd, Int.reduceToNat, he, hp1, hp2, hq1, hq2, hq]
          rw [hcm, beq_self_eq_true]
          simp +decide (disch := first | assumption | (apply GH.ok_push; assumption) | exact cellV_int _ _ | exact cellV_bool _ | omega) only [go_sem, ↓reduceIte, Nat.reduceEqDiff, Nat.reduceAdd, Int.reduceToNat]
          refine CallD.calm (hX.alive _) ?_
          rintro v G9 hx9 rfl
          simp +decide (disch := first | assumption | (apply GH.ok_push; assumption) | exact cellV_int _ _ | exact cellV_bool _ | omega) only [go_sem, ↓reduceIte, Nat.reduceEqDiff, Nat.reduceAdd, Int.reduceToNat]
          intro hx0
          exact ⟨by omega, rfl⟩
      · simp +decide (disch := first | assumption | (apply GH.ok_push; assumption) | exact cellV_int _ _ | exact cellV_bool _ | omega) only [go_sem, ↓reduceIte, Nat.reduceEqDiff, Nat.reduceAdd, Int.reduceToNat, he]
        refine out _ _ _ ⟨rfl, hlo, (by simp +decide (disch := first | assumption | (apply GH.ok_push; assumption) | exact cellV_int _ _ | exact cellV_bool _ | omega) only [go_sem, ↓reduceIte, Nat.reduceEqDiff, Nat.reduceAdd, Int.reduceToNat, he]; first | done | exact rfl), ?_⟩
        rw [List.take_of_length_le (by omega), List.take_of_length_le (by omega)] at hp
        exact hp
end Go.Proofs.Yteeelcmnlomgmaa
