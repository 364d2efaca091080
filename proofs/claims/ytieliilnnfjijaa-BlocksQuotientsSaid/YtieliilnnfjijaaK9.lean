import Derived.Test.YtieliilnnfjijaaK7
set_option linter.all false
set_option linter.unusedSimpArgs false
set_option linter.unnecessarySimpa false
set_option linter.unusedVariables false
set_option linter.unusedSectionVars false
set_option maxRecDepth 100000
set_option maxHeartbeats 8000000
set_option linter.unusedSimpArgs false
set_option linter.unusedVariables false
namespace Go.Proofs.Ytieliilnnfjijaa
open Go.Ds
/-! ## Rows of no blocks -/
def zeros (n : Nat) : List Int := List.replicate n 0
theorem pad_getD (L : List Int) (k i : Nat) : (L ++ zeros k).getD i 0 = L.getD i 0 := by
  rw [List.getD_eq_getElem?_getD, List.getD_eq_getElem?_getD]
  by_cases c : i < L.length
  · rw [List.getElem?_append_left c]
  · rw [List.getElem?_append_right (by omega), List.getElem?_eq_none (l := L) (by omega)]
    unfold zeros
    rw [List.getElem?_replicate]
    split <;> rfl
theorem pad_beads (L : List Int) (k : Nat) : beadsR (L ++ zeros k) (L ++ zeros k).length = beadsR L (L.length + k) := by
  have e : (L ++ zeros k).length = L.length + k := by simp [zeros]
  rw [e]
  unfold beadsR
  exact rng_congr fun i hi => by rw [pad_getD]
/-- So many rows: at least so many, and divisible. -/
def padN (T n least : Nat) : Nat := divU (max n least) T
theorem zeros_succ (k : Nat) : zeros (k + 1) = zeros k ++ [0] := by simp [zeros, List.replicate_succ']
theorem padded_rets {X : Caller} (hX : Xok X) (L : List Int) (hL : L.length ≤ 20) (T least : Nat) (hT : 2 ≤ T ∧ T ≤ 6) (hl : least ≤ 400) (s : Value) (g : GH) (hs : SlR g s (ints L)) :
    Rets Try.prog X 61 [s, .int .i64 T, .int .i64 least] g (fun v g' lo => g.next ≤ lo ∧ SlR g' v (ints (L ++ zeros (padN T L.length least - L.length)))) := by
  refine Rets.run hX.pres p61 (hX.free 61 (by decide) _ _) rfl fun ho => ?_
  have hlen := hs.len
  rw [ints_len] at hlen
  have hT0 : ¬ (T : Int) = 0 := by omega
  obtain ⟨d, hd⟩ : ∃ d, padN T L.length least = d := ⟨_, rfl⟩
  have hdf := divU_facts hT (max L.length least)
  have hdd : divU (max L.length least) T = d := hd
  rw [hdd] at hdf
  have hlt : d < max L.length least + T := by
    have := Nat.div_mul_le_self (max L.length least + T - 1) T
    have e : (max L.length least + T - 1) / T * T = d := hdd
    omega
  obtain ⟨h1, h2, qd, hq⟩ := hdf
  have hnm : L.length ≤ max L.length least := Nat.le_max_left _ _
  have hlm : least ≤ max L.length least := Nat.le_max_right _ _
  have hmm : max L.length least = L.length ∨ max L.length least = least := by omega
  rw [hd]
  obtain ⟨mx, hmx⟩ : ∃ m, max L.length least = m := ⟨_, rfl⟩
  rw [hmx] at h1 h2 hlt hnm hlm hmm
  have stop : ∀ k, L.length + k ≤ d → (least ≤ L.length + k ∧ (L.length + k) % T = 0) → k = d - L.length := by
    intro k hk ⟨h3, h4⟩
    have h5 : T ∣ L.length + k := Nat.dvd_of_mod_eq_zero h4
    have h6 : T ∣ d := ⟨qd, by rw [hq, Nat.mul_comm]⟩
    have h7 : T ∣ d - (L.length + k) := Nat.dvd_sub h6 h5
    by_cases c : d - (L.length + k) = 0
    · omega
    · have := Nat.le_of_dvd (by omega) h7
      omega
  have hmod : d % T = 0 := by rw [hq]; exact Nat.mul_mod_left _ _
  have loopA : ∀ (g0 : GH) (e0 : Env) (lo0 : Nat) (ks : List Fr) (o : Value), g0.ok → Kept g g0 → g.next ≤ lo0 → (ev e0 (.s 1) = .int .i64 T ∧ ev e0 (.s 2) = .int .i64 least) → ev e0 (.s 7) = o → Own g0 o (ints L) 3 g.next →
      (∀ e G lo, G.ok → lo ≤ G.next → g.next ≤ lo → (∃ o, ev e (.s 7) = o ∧ SlR G o (ints (L ++ zeros (d - L.length)))) → Wk Try.prog X (Qr r61 g (fun v g' lo => g.next ≤ lo ∧ SlR g' v (ints (L ++ zeros (d - L.length))))) (.O .normal ks e G lo)) →
      Wk Try.prog X (Qr r61 g (fun v g' lo => g.next ≤ lo ∧ SlR g' v (ints (L ++ zeros (d - L.length))))) (.C (.loop b61_0) (.blk 0 :: ks) e0 g0 lo0) := by
    intro g0 e0 lo0 ks o ho0 hk0 hlo0 he0 h70 hown0 hend
    refine Wk.loops (fun m e g' lo => g.next ≤ lo ∧ Kept g g' ∧ ∃ k : Nat, k + m = d - L.length ∧ (ev e (.s 1) = .int .i64 T ∧ ev e (.s 2) = .int .i64 least) ∧ ∃ o, ev e (.s 7) = o ∧ Own g' o (ints (L ++ zeros k)) 3 g.next)
      (fun e g' lo => g.next ≤ lo ∧ ∃ o, ev e (.s 7) = o ∧ SlR g' o (ints (L ++ zeros (d - L.length)))) (n := d - L.length) ?_ ?_ ?_
    · exact ⟨hlo0, hk0, 0, by omega, he0, o, h70, by rw [show L ++ zeros 0 = L by simp [zeros]]; exact hown0⟩
    · rintro e g' lo hoG hlG ⟨hlo, h⟩
      exact hend e g' lo hoG hlG hlo h
    · rintro m e g' lo ho' hl' ih out ⟨hlo, hk, k, hkm, he, o, h7, hown⟩
      have hgn := hk.next
      have hlk := hown.read.len
      rw [ints_len, show ((L ++ zeros k).length : Int) = (L.length : Int) + k by simp [zeros]] at hlk
      have er : ((L.length : Int) + k).tmod T = (((L.length + k) % T : Nat) : Int) := rfl
      obtain ⟨x, hx⟩ : ∃ x, (L.length + k) % T = x := ⟨_, rfl⟩
      rw [hx] at er
      have hgo : ∀ s' g3, Grew2 (g'.push (cellsOb [Value.int .i64 0] 3)) g3 s' (ints (L ++ zeros k) ++ [.int .i64 0]) 3 g.next → Own g3 s' (ints (L ++ zeros (k + 1))) 3 g.next := by
        intro s' g3 hgr
        have := hgr.own
        rw [zeros_succ, ← List.append_assoc, ints_app]
        exact this
      have hzl : (zeros k).length = k := by simp [zeros]
      by_cases c1 : L.length + k < least
      · simp +decide (disch := first | assumption | (apply GH.ok_push; assumption) | exact cellV_int _ _ | exact cellV_bool _ | omega) only [go_sem, ↓reduceIte, Nat.reduceEqDiff, Nat.reduceAdd, Int.reduceToNat, he, h7, hlk]
        refine AppD.own2 (lw := g.next) (hown.push ho' _) (SlR.one ho' _ _) (by simp) rfl (by rw [ints_len]; simp [hzl]; omega) (by simp [GH.push]; omega) hlo (by omega) (GH.ok_push ho') (fun s' g3 lo3 sp wr hgr hlo3 => ?_)
        simp +decide (disch := first | assumption | (apply GH.ok_push; assumption) | exact cellV_int _ _ | exact cellV_bool _ | omega) only [go_sem, ↓reduceIte, Nat.reduceEqDiff, Nat.reduceAdd, Int.reduceToNat, he]
        exact ih (m - 1) _ _ _ (by omega) ⟨hlo3, (hk.push ho' _).grew2 hgr (Nat.le_refl _), k + 1, by omega, (by simp +decide (disch := first | assumption | (apply GH.ok_push; assumption) | exact cellV_int _ _ | exact cellV_bool _ | omega) only [go_sem, ↓reduceIte, Nat.reduceEqDiff, Nat.reduceAdd, Int.reduceToNat, he]; first | done | exact rfl), s', (by simp +decide (disch := first | assumption | (apply GH.ok_push; assumption) | exact cellV_int _ _ | exact cellV_bool _ | omega) only [go_sem, ↓reduceIte, Nat.reduceEqDiff, Nat.reduceAdd, Int.reduceToNat]; first | done | exact rfl), hgo s' g3 hgr⟩
      · by_cases c2 : x = 0
        · have := stop k (by omega) ⟨by omega, by omega⟩
          subst this
          simp +decide (disch := first | assumption | (apply GH.ok_push; assumption) | exact cellV_int _ _ | exact cellV_bool _ | omega) only [go_sem, ↓reduceIte, Nat.reduceEqDiff, Nat.reduceAdd, Int.reduceToNat, he, h7, hlk, er, c2]
          exact out _ _ _ ⟨hlo, o, (by simp +decide (disch := first | assumption | (apply GH.ok_push; assumption) | exact cellV_int _ _ | exact cellV_bool _ | omega) only [go_sem, ↓reduceIte, Nat.reduceEqDiff, Nat.reduceAdd, Int.reduceToNat, h7]; first | done | exact rfl), hown.read⟩
        · have hc2 : ¬ (x : Int) = 0 := by omega
          have hkd : L.length + k ≠ d := fun h => c2 (by rw [← hx, h, hmod])
          simp +decide (disch := first | assumption | (apply GH.ok_push; assumption) | exact cellV_int _ _ | exact cellV_bool _ | omega) only [go_sem, ↓reduceIte, Nat.reduceEqDiff, Nat.reduceAdd, Int.reduceToNat, he, h7, hlk, er, hc2]
          refine AppD.own2 (lw := g.next) (hown.push ho' _) (SlR.one ho' _ _) (by simp) rfl (by rw [ints_len]; simp [hzl]; omega) (by simp [GH.push]; omega) hlo (by omega) (GH.ok_push ho') (fun s' g3 lo3 sp wr hgr hlo3 => ?_)
          simp +decide (disch := first | assumption | (apply GH.ok_push; assumption) | exact cellV_int _ _ | exact cellV_bool _ | omega) only [go_sem, ↓reduceIte, Nat.reduceEqDiff, Nat.reduceAdd, Int.reduceToNat, he]
          exact ih (m - 1) _ _ _ (by omega) ⟨hlo3, (hk.push ho' _).grew2 hgr (Nat.le_refl _), k + 1, by omega, (by simp +decide (disch := first | assumption | (apply GH.ok_push; assumption) | exact cellV_int _ _ | exact cellV_bool _ | omega) only [go_sem, ↓reduceIte, Nat.reduceEqDiff, Nat.reduceAdd, Int.reduceToNat, he]; first | done | exact rfl), s', (by simp +decide (disch := first | assumption | (apply GH.ok_push; assumption) | exact cellV_int _ _ | exact cellV_bool _ | omega) only [go_sem, ↓reduceIte, Nat.reduceEqDiff, Nat.reduceAdd, Int.reduceToNat]; first | done | exact rfl), hgo s' g3 hgr⟩
  by_cases cL : L = []
  · subst cL
    simp +decide (disch := first | assumption | (apply GH.ok_push; assumption) | exact cellV_int _ _ | exact cellV_bool _ | omega) only [go_sem, ↓reduceIte, Nat.reduceEqDiff, Nat.reduceAdd, Int.reduceToNat]
    refine AppD.none hs (by omega) ?_
    simp +decide (disch := first | assumption | (apply GH.ok_push; assumption) | exact cellV_int _ _ | exact cellV_bool _ | omega) only [go_sem, ↓reduceIte, Nat.reduceEqDiff, Nat.reduceAdd, Int.reduceToNat]
    refine loopA _ _ _ _ (.slice none 0 0) ho (Kept.refl _) (Nat.le_refl _) (by simp +decide (disch := first | assumption | (apply GH.ok_push; assumption) | exact cellV_int _ _ | exact cellV_bool _ | omega) only [go_sem, ↓reduceIte, Nat.reduceEqDiff, Nat.reduceAdd, Int.reduceToNat]; first | done | exact rfl) (by simp +decide (disch := first | assumption | (apply GH.ok_push; assumption) | exact cellV_int _ _ | exact cellV_bool _ | omega) only [go_sem, ↓reduceIte, Nat.reduceEqDiff, Nat.reduceAdd, Int.reduceToNat]; first | done | exact rfl) Own.nil ?_
    rintro e G lo hoG hlG hloG ⟨o, h7, hr⟩
    simp +decide (disch := first | assumption | (apply GH.ok_push; assumption) | exact cellV_int _ _ | exact cellV_bool _ | omega) only [go_sem, ↓reduceIte, Nat.reduceEqDiff, Nat.reduceAdd, Int.reduceToNat, h7]
    exact fun hx0 => ⟨hloG, hr⟩
  · simp +decide (disch := first | assumption | (apply GH.ok_push; assumption) | exact cellV_int _ _ | exact cellV_bool _ | omega) only [go_sem, ↓reduceIte, Nat.reduceEqDiff, Nat.reduceAdd, Int.reduceToNat]
    refine AppD.own2 (lw := g.next) (base := g.next) Own.nil hs (by simpa [ints] using cL) (ints_cell L) (by simp [ints_len]; omega) (Nat.le_refl _) (Nat.le_refl _) (Nat.le_refl _) ho (fun s' g3 lo3 sp wr hgr hlo3 => ?_)
    simp +decide (disch := first | assumption | (apply GH.ok_push; assumption) | exact cellV_int _ _ | exact cellV_bool _ | omega) only [go_sem, ↓reduceIte, Nat.reduceEqDiff, Nat.reduceAdd, Int.reduceToNat]
    refine loopA _ _ _ _ s' hgr.ok ((Kept.refl g).grew2 hgr (Nat.le_refl _)) hlo3 (by simp +decide (disch := first | assumption | (apply GH.ok_push; assumption) | exact cellV_int _ _ | exact cellV_bool _ | omega) only [go_sem, ↓reduceIte, Nat.reduceEqDiff, Nat.reduceAdd, Int.reduceToNat]; first | done | exact rfl) (by simp +decide (disch := first | assumption | (apply GH.ok_push; assumption) | exact cellV_int _ _ | exact cellV_bool _ | omega) only [go_sem, ↓reduceIte, Nat.reduceEqDiff, Nat.reduceAdd, Int.reduceToNat]; first | done | exact rfl) hgr.own ?_
    rintro e G lo hoG hlG hloG ⟨o, h7, hr⟩
    simp +decide (disch := first | assumption | (apply GH.ok_push; assumption) | exact cellV_int _ _ | exact cellV_bool _ | omega) only [go_sem, ↓reduceIte, Nat.reduceEqDiff, Nat.reduceAdd, Int.reduceToNat, h7]
    exact fun hx0 => ⟨hloG, hr⟩
end Go.Proofs.Ytieliilnnfjijaa
set_option maxRecDepth 100000
set_option maxHeartbeats 8000000
set_option linter.unusedSimpArgs false
set_option linter.unusedVariables false
namespace Go.Proofs.Ytieliilnnfjijaa
open Go.Ds
theorem pad_fits {L : List Int} (h : Fits L) (k : Nat) (hk : L.length + k ≤ 1000) : Fits (L ++ zeros k) := by
  refine ⟨by simp [zeros]; omega, fun x hx => ?_⟩
  rcases List.mem_append.1 hx with h1 | h1
  · exact h.2 x h1
  · have := List.eq_of_mem_replicate h1
    omega
theorem refQuot_rets {X : Caller} (hX : Xok X) (L : List Int) (hL : L.length < 1000000) (t : Int) (s : Value) (g : GH) (hs : SlR g s (ints L)) :
    Rets Try.prog X 34 [s, .int .i64 t] g (fun v g' lo => g.next ≤ lo ∧ Ret2 g' v (quotT L t)) := by
  refine Rets.run hX.pres p34 (hX.free 34 (by decide) _ _) rfl fun ho => ?_
  simp +decide (disch := first | assumption | (apply GH.ok_push; assumption) | exact cellV_int _ _ | exact cellV_bool _ | omega) only [go_sem, ↓reduceIte, Nat.reduceEqDiff, Nat.reduceAdd, Int.reduceToNat]
  refine CallD.calm (refIsShape_rets hX L hL s g hs) ?_
  rintro v G hx rfl
  have hn := hx.next
  by_cases c : isShape L = true
  case neg =>
    have c' : isShape L = false := by simpa using c
    have hT : quotT L t = ([], 2) := by rw [quotT, if_neg (fun h => c h.1)]
    simp +decide (disch := first | assumption | (apply GH.ok_push; assumption) | exact cellV_int _ _ | exact cellV_bool _ | omega) only [go_sem, ↓reduceIte, Nat.reduceEqDiff, Nat.reduceAdd, Int.reduceToNat, c']
    intro hx0
    exact ⟨by omega, _, by rw [hT], by rw [hT]; exact Sl2.nil⟩
  simp +decide (disch := first | assumption | (apply GH.ok_push; assumption) | exact cellV_int _ _ | exact cellV_bool _ | omega) only [go_sem, ↓reduceIte, Nat.reduceEqDiff, Nat.reduceAdd, Int.reduceToNat, c]
  refine CallD.calm (refWires_rets hX t G) ?_
  rintro v G1 hx1 rfl
  have hn1 := hx1.next
  by_cases d : isWires t = true
  case neg =>
    have d' : isWires t = false := by simpa using d
    have hT : quotT L t = ([], 2) := by rw [quotT, if_neg (fun h => d h.2)]
    simp +decide (disch := first | assumption | (apply GH.ok_push; assumption) | exact cellV_int _ _ | exact cellV_bool _ | omega) only [go_sem, ↓reduceIte, Nat.reduceEqDiff, Nat.reduceAdd, Int.reduceToNat, d']
    intro hx0
    exact ⟨by omega, _, by rw [hT], by rw [hT]; exact Sl2.nil⟩
  obtain ⟨T, hT1, hT2, hT⟩ := wires_nat d
  have hC : quotT L t = (quotM L T, 0) := by rw [quotT, if_pos ⟨c, d⟩, hT2]
  obtain ⟨c1, c2, c3⟩ := shape_facts c
  have hok1 := hx1.ok (hx.ok ho)
  have hp := padded_rets hX L (by omega) T 0 hT (by omega) s G1 ((hs.ext hx).ext hx1)
  rw [show ((0 : Nat) : Int) = 0 from rfl] at hp
  have hpn : padN T L.length 0 = divU L.length T := by unfold padN; rw [Nat.max_zero]
  rw [hpn] at hp
  have hdf := divU_facts hT L.length
  simp +decide (disch := first | assumption | (apply GH.ok_push; assumption) | exact cellV_int _ _ | exact cellV_bool _ | omega) only [go_sem, ↓reduceIte, Nat.reduceEqDiff, Nat.reduceAdd, Int.reduceToNat, d]
  rw [hT1] at *
  refine CallD.calm hp ?_
  rintro p G2 hx2 hpv
  have hn2 := hx2.next
  simp +decide (disch := first | assumption | (apply GH.ok_push; assumption) | exact cellV_int _ _ | exact cellV_bool _ | omega) only [go_sem, ↓reduceIte, Nat.reduceEqDiff, Nat.reduceAdd, Int.reduceToNat]
  refine CallD.calm (refBeads_rets hX _ (pad_fits (desc_fits c2 (by omega)) _ (by omega)) p G2 hpv) ?_
  rintro b G3 hx3 hb
  have hn3 := hx3.next
  have hok3 := hx3.ok (hx2.ok hok1)
  rw [pad_beads, show L.length + (divU L.length T - L.length) = divU L.length T by omega] at hb
  have hqM : quotM L T = quotL (beadsR L (divU L.length T)) T := rfl
  have hlt := beadsR_lt (n := divU L.length T) (by omega) c2
  have hD := beadsR_dsc (n := divU L.length T) c2
  rw [hC, hqM]
  obtain ⟨B, hB⟩ : ∃ B, beadsR L (divU L.length T) = B := ⟨_, rfl⟩
  have hBl : B.length ≤ 1000 := by rw [← hB, beadsR_len]; omega
  rw [hB] at hb hlt hD ⊢
  have hBb : ∀ x ∈ B, 0 ≤ x ∧ x ≤ 100000 := fun x hx => by have := hlt x hx; omega
  have hlb := hb.len
  rw [ints_len] at hlb
  have hT0 : ¬ (T : Int) = 0 := by omega
  have hfw : ∀ k, Fits (wireL B T k) := by
    intro k
    have h1 := wireL_len B T k
    refine ⟨by omega, fun x hx => ?_⟩
    simp only [wireL, List.mem_map, List.mem_filter] at hx
    obtain ⟨y, ⟨hy, _⟩, rfl⟩ := hx
    obtain ⟨k', _, _, q, hq, hle⟩ := tmod_bnd (b := y) (T := T) (hBb y hy).1 (by omega)
    have := hBb y hy
    omega
  simp +decide (disch := first | assumption | (apply GH.ok_push; assumption) | exact cellV_int _ _ | exact cellV_bool _ | omega) only [go_sem, ↓reduceIte, Nat.reduceEqDiff, Nat.reduceAdd, Int.reduceToNat]
  refine Wk.loops (fun m e g2 lo2 => g.next ≤ lo2 ∧ Kept G3 g2 ∧ ∃ k : Nat, k + m = T ∧ (ev e (.s 1) = .int .i64 T ∧ ev e (.s 6) = b ∧ ev e (.s 8) = .int .i64 k) ∧ ∃ o, ev e (.s 7) = o ∧ Own2 g2 o ((List.range k).map fun k => shapeL (wireL B T k)) G3.next)
    (fun e g2 lo2 => g.next ≤ lo2 ∧ ∃ o, ev e (.s 7) = o ∧ Sl2 g2 o (quotL B T)) (n := T) ?_ ?_ ?_
  · exact ⟨by omega, Kept.refl _, 0, by omega, (by simp +decide (disch := first | assumption | (apply GH.ok_push; assumption) | exact cellV_int _ _ | exact cellV_bool _ | omega) only [go_sem, ↓reduceIte, Nat.reduceEqDiff, Nat.reduceAdd, Int.reduceToNat]; first | done | exact rfl), .slice none 0 0, (by simp +decide (disch := first | assumption | (apply GH.ok_push; assumption) | exact cellV_int _ _ | exact cellV_bool _ | omega) only [go_sem, ↓reduceIte, Nat.reduceEqDiff, Nat.reduceAdd, Int.reduceToNat]; first | done | exact rfl), Own2.nil⟩
  · rintro e g2 lo2 - - ⟨hlo2, o, h7, hsl⟩
    simp +decide (disch := first | assumption | (apply GH.ok_push; assumption) | exact cellV_int _ _ | exact cellV_bool _ | omega) only [go_sem, ↓reduceIte, Nat.reduceEqDiff, Nat.reduceAdd, Int.reduceToNat, h7]
    intro hx0
    exact ⟨by omega, o, rfl, hsl⟩
  · rintro m e g2 lo2 ho2 hl2 ih out ⟨hlo2, hk2, k, hkm, he, o, h7, hown⟩
    have hgn2 := hk2.next
    by_cases ck : k < T
    · simp +decide (disch := first | assumption | (apply GH.ok_push; assumption) | exact cellV_int _ _ | exact cellV_bool _ | omega) only [go_sem, ↓reduceIte, Nat.reduceEqDiff, Nat.reduceAdd, Int.reduceToNat, he, h7]
      refine Wk.loops (fun m e g4 lo4 => g.next ≤ lo4 ∧ Kept g2 g4 ∧ ∃ i : Nat, i + m = B.length ∧ (ev e (.s 1) = .int .i64 T ∧ ev e (.s 6) = b ∧ ev e (.s 7) = o ∧ ev e (.s 8) = .int .i64 k ∧ ev e (.s 10) = .int .i64 i) ∧ ∃ w, ev e (.s 9) = w ∧ Own g4 w (ints (wireL (B.take i) T k)) 3 g2.next)
        (fun e g4 lo4 => g.next ≤ lo4 ∧ Kept g2 g4 ∧ (ev e (.s 1) = .int .i64 T ∧ ev e (.s 6) = b ∧ ev e (.s 7) = o ∧ ev e (.s 8) = .int .i64 k) ∧ ∃ w, ev e (.s 9) = w ∧ SlR g4 w (ints (wireL B T k))) (n := B.length) ?_ ?_ ?_
      · exact ⟨hlo2, Kept.refl _, 0, by omega, (by simp +decide (disch := first | assumption | (apply GH.ok_push; assumption) | exact cellV_int _ _ | exact cellV_bool _ | omega) only [go_sem, ↓reduceIte, Nat.reduceEqDiff, Nat.reduceAdd, Int.reduceToNat, he, h7]; first | done | exact rfl), .slice none 0 0, (by simp +decide (disch := first | assumption | (apply GH.ok_push; assumption) | exact cellV_int _ _ | exact cellV_bool _ | omega) only [go_sem, ↓reduceIte, Nat.reduceEqDiff, Nat.reduceAdd, Int.reduceToNat]; first | done | exact rfl), by simp [wireL, ints]; exact Own.nil⟩
      · rintro e g4 lo4 ho4 - ⟨hlo4, hk4, he, w, h9, hw⟩
        have hn4 := hk4.next
        simp +decide (disch := first | assumption | (apply GH.ok_push; assumption) | exact cellV_int _ _ | exact cellV_bool _ | omega) only [go_sem, ↓reduceIte, Nat.reduceEqDiff, Nat.reduceAdd, Int.reduceToNat, he, h9]
        refine CallD.calm (refShape_rets hX _ (hfw k) w g4 hw) ?_
        rintro u G5 hx5 hu
        have hn5 := hx5.next
        have hok5 := hx5.ok ho4
        have hcell := hu.cell
        simp +decide (disch := first | assumption | (apply GH.ok_push; assumption) | exact cellV_int _ _ | exact cellV_bool _ | omega) only [go_sem, ↓reduceIte, Nat.reduceEqDiff, Nat.reduceAdd, Int.reduceToNat, he, hcell]
        have hkp := (hk4.ext hx5).push hok5 (cellsOb [u] 22)
        obtain ⟨vs, q1, q2, q3⟩ := hown.kept hkp
        have hvl : vs.length ≤ 6 := by rw [q2]; simp; omega
        refine AppD.own2 (lw := g.next) q1 (SlR.one hok5 _ _) (by simp) (by simp [hcell]) (by simp; omega) (by simp [GH.push]; omega) hlo4 (by omega) (GH.ok_push hok5) (fun s' g3 lo3 sp wr hgr hlo3 => ?_)
        simp +decide (disch := first | assumption | (apply GH.ok_push; assumption) | exact cellV_int _ _ | exact cellV_bool _ | omega) only [go_sem, ↓reduceIte, Nat.reduceEqDiff, Nat.reduceAdd, Int.reduceToNat, he]
        refine ih (m - 1) _ _ _ (by omega) ⟨hlo3, (hk2.trans hkp).grew2 hgr (Nat.le_refl _), k + 1, by omega, (by simp +decide (disch := first | assumption | (apply GH.ok_push; assumption) | exact cellV_int _ _ | exact cellV_bool _ | omega) only [go_sem, ↓reduceIte, Nat.reduceEqDiff, Nat.reduceAdd, Int.reduceToNat, he]; first | done | exact rfl), s', (by simp +decide (disch := first | assumption | (apply GH.ok_push; assumption) | exact cellV_int _ _ | exact cellV_bool _ | omega) only [go_sem, ↓reduceIte, Nat.reduceEqDiff, Nat.reduceAdd, Int.reduceToNat]; first | done | exact rfl), ?_⟩
        rw [List.range_succ, List.map_append]
        exact Own2.grew q2 q3 (hu.push hok5 _) hgr
      · rintro m4 e g4 lo4 ho4 hl4 ih4 out4 ⟨hlo4, hk4, i, him, he, w, h9, hw⟩
        have hn4 := hk4.next
        by_cases ci : i < B.length
        · obtain ⟨q, hq1, hq2⟩ := (hb.kept (hk2.trans hk4)).at (ints_get (D := B) (i := i) ci)
          have hq1 := hq1 (i : Int) rfl
          have hbx := hBb _ (mem_getD ci)
          have hws := wireL_snoc (B.take i) (B.getD i 0) T k
          rw [← take_snoc B i ci] at hws
          have hwl := wireL_len (B.take i) T k
          have htl : (B.take i).length ≤ 1000 := by rw [List.length_take]; omega
          obtain ⟨r, hr0, hr1, qq, hqq, hle⟩ := tmod_bnd (b := B.getD i 0) (T := T) hbx.1 (by omega)
          obtain ⟨y, hy⟩ : ∃ y, B.getD i 0 = y := ⟨_, rfl⟩
          rw [hy] at hq2 hbx hws hr0 hqq hle
          by_cases z : y.tmod T = (k : Int)
          · rw [if_pos z] at hws
            simp +decide (disch := first | assumption | (apply GH.ok_push; assumption) | exact cellV_int _ _ | exact cellV_bool _ | omega) only [go_sem, ↓reduceIte, Nat.reduceEqDiff, Nat.reduceAdd, Int.reduceToNat, he, h9, hlb, hq1, hq2, z]
            refine AppD.own2 (lw := g.next) (hw.push ho4 _) (SlR.one ho4 _ _) (by simp) rfl (by rw [ints_len]; simp; omega) (by simp [GH.push]; omega) hlo4 (by omega) (GH.ok_push ho4) (fun s' g5 lo5 sp wr hgr hlo5 => ?_)
            simp +decide (disch := first | assumption | (apply GH.ok_push; assumption) | exact cellV_int _ _ | exact cellV_bool _ | omega) only [go_sem, ↓reduceIte, Nat.reduceEqDiff, Nat.reduceAdd, Int.reduceToNat, he]
            refine ih4 (m4 - 1) _ _ _ (by omega) ⟨hlo5, (hk4.push ho4 _).grew2 hgr (Nat.le_refl _), i + 1, by omega, (by simp +decide (disch := first | assumption | (apply GH.ok_push; assumption) | exact cellV_int _ _ | exact cellV_bool _ | omega) only [go_sem, ↓reduceIte, Nat.reduceEqDiff, Nat.reduceAdd, Int.reduceToNat, he]; first | done | exact rfl), s', (by simp +decide (disch := first | assumption | (apply GH.ok_push; assumption) | exact cellV_int _ _ | exact cellV_bool _ | omega) only [go_sem, ↓reduceIte, Nat.reduceEqDiff, Nat.reduceAdd, Int.reduceToNat]; first | done | exact rfl), ?_⟩
            rw [hws, ints_app]
            exact hgr.own
          · rw [if_neg z, List.append_nil] at hws
            simp +decide (disch := first | assumption | (apply GH.ok_push; assumption) | exact cellV_int _ _ | exact cellV_bool _ | omega) only [go_sem, ↓reduceIte, Nat.reduceEqDiff, Nat.reduceAdd, Int.reduceToNat, he, h9, hlb, hq1, hq2, z]
            refine ih4 (m4 - 1) _ _ _ (by omega) ⟨hlo4, hk4, i + 1, by omega, (by simp +decide (disch := first | assumption | (apply GH.ok_push; assumption) | exact cellV_int _ _ | exact cellV_bool _ | omega) only [go_sem, ↓reduceIte, Nat.reduceEqDiff, Nat.reduceAdd, Int.reduceToNat, he]; first | done | exact rfl), w, (by simp +decide (disch := first | assumption | (apply GH.ok_push; assumption) | exact cellV_int _ _ | exact cellV_bool _ | omega) only [go_sem, ↓reduceIte, Nat.reduceEqDiff, Nat.reduceAdd, Int.reduceToNat, h9]; first | done | exact rfl), ?_⟩
            rw [hws]
            exact hw
        · rw [List.take_of_length_le (by omega)] at hw
          simp +decide (disch := first | assumption | (apply GH.ok_push; assumption) | exact cellV_int _ _ | exact cellV_bool _ | omega) only [go_sem, ↓reduceIte, Nat.reduceEqDiff, Nat.reduceAdd, Int.reduceToNat, he, h9, hlb]
          exact out4 _ _ _ ⟨hlo4, hk4, (by simp +decide (disch := first | assumption | (apply GH.ok_push; assumption) | exact cellV_int _ _ | exact cellV_bool _ | omega) only [go_sem, ↓reduceIte, Nat.reduceEqDiff, Nat.reduceAdd, Int.reduceToNat, he]; first | done | exact rfl), w, (by simp +decide (disch := first | assumption | (apply GH.ok_push; assumption) | exact cellV_int _ _ | exact cellV_bool _ | omega) only [go_sem, ↓reduceIte, Nat.reduceEqDiff, Nat.reduceAdd, Int.reduceToNat, h9]; first | done | exact rfl), hw.read⟩
    · simp +decide (disch := first | assumption | (apply GH.ok_push; assumption) | exact cellV_int _ _ | exact cellV_bool _ | omega) only [go_sem, ↓reduceIte, Nat.reduceEqDiff, Nat.reduceAdd, Int.reduceToNat, he, h7]
      refine out _ _ _ ⟨hlo2, o, (by simp +decide (disch := first | assumption | (apply GH.ok_push; assumption) | exact cellV_int _ _ | exact cellV_bool _ | omega) only [go_sem, ↓reduceIte, Nat.reduceEqDiff, Nat.reduceAdd, Int.reduceToNat, h7]; first | done | exact rfl), ?_⟩
      rw [show k = T by omega] at hown
      exact hown.read
end Go.Proofs.Ytieliilnnfjijaa
set_option maxRecDepth 100000
set_option maxHeartbeats 8000000
set_option linter.unusedSimpArgs false
set_option linter.unusedVariables false
namespace Go.Proofs.Ytieliilnnfjijaa
open Go.Ds
/-! ## A shape of its core and its quotient -/
def addW (t : Int) (q : List Int) : Nat → List Int → List Int
  | _, [] => []
  | j, b :: bs => (b + t * q.getD j 0) :: addW t q (j + 1) bs
def selK (B : List Int) (t : Int) (k : Nat) : List Int := B.filter fun b => decide (b.tmod t = (k : Int))
def upK (B : List Int) (T : Nat) (Q : List (List Int)) (k : Nat) : List Int := (List.range k).flatMap fun k => addW T (Q.getD k []) 0 (selK B T k)
def ofR (C : List Int) (Q : List (List Int)) : List Int := shapeL (sortD (upK (beadsR C (Q.length * (13 + C.length))) Q.length Q Q.length))
def goodQ (C : List Int) (Q : List (List Int)) : Bool := isShape C && isWires Q.length && Q.all isShape && decide (stripsB (beadsR C C.length) Q.length = [])
def ofT (C : List Int) (Q : List (List Int)) : List Int × Int :=
  if goodQ C Q = true then (if 40 < sumL (ofR C Q) ∨ 12 < (ofR C Q).length then ([], 8) else (ofR C Q, 0)) else ([], 2)
theorem addW_len (t : Int) (q : List Int) : ∀ (j : Nat) (A : List Int), (addW t q j A).length = A.length
  | _, [] => rfl
  | j, b :: bs => by simp [addW, addW_len t q (j + 1) bs]
theorem addW_snoc (t : Int) (q : List Int) (b : Int) : ∀ (j : Nat) (A : List Int), addW t q j (A ++ [b]) = addW t q j A ++ [b + t * q.getD (j + A.length) 0]
  | _, [] => by simp [addW]
  | j, a :: A => by
    simp only [List.cons_append, addW, addW_snoc t q b (j + 1) A, List.length_cons]
    rw [show j + 1 + A.length = j + (A.length + 1) by omega]
theorem selK_snoc (A : List Int) (b t : Int) (k : Nat) : selK (A ++ [b]) t k = selK A t k ++ (if b.tmod t = (k : Int) then [b] else []) := by
  unfold selK
  rw [List.filter_append]
  congr 1
  simp only [List.filter_cons, List.filter_nil, decide_eq_true_eq]
theorem selK_len (B : List Int) (t : Int) (k : Nat) : (selK B t k).length ≤ B.length := List.length_filter_le _ _
theorem upK_succ (B : List Int) (T : Nat) (Q : List (List Int)) (k : Nat) : upK B T Q (k + 1) = upK B T Q k ++ addW T (Q.getD k []) 0 (selK B T k) := by
  unfold upK
  rw [List.range_succ, List.flatMap_append]; simp
theorem upK_len (B : List Int) (T : Nat) (Q : List (List Int)) : ∀ k, (upK B T Q k).length ≤ k * B.length
  | 0 => by simp [upK]
  | k + 1 => by
    rw [upK_succ, List.length_append, addW_len, Nat.succ_mul]
    exact Nat.add_le_add (upK_len B T Q k) (selK_len B T k)
theorem addW_bnd {T : Nat} (hT : 2 ≤ T ∧ T ≤ 6) {q : List Int} (hq : ∀ i, 0 ≤ q.getD i 0 ∧ q.getD i 0 ≤ 40) : ∀ (j : Nat) (A : List Int), (∀ x ∈ A, 0 ≤ x ∧ x ≤ 1000) → ∀ x ∈ addW T q j A, 0 ≤ x ∧ x ≤ 2000
  | _, [], _, x, h => by cases h
  | j, a :: A, hA, x, h => by
    rcases List.mem_cons.1 h with h | h
    · have h1 := hq j
      have h2 := hA a List.mem_cons_self
      rw [h]
      rcases five hT with rfl | rfl | rfl | rfl | rfl <;> omega
    · exact addW_bnd hT hq (j + 1) A (fun y hy => hA y (List.mem_cons_of_mem _ hy)) x h
theorem padN_mul {T : Nat} (hT : 2 ≤ T ∧ T ≤ 6) (c : Nat) : padN T c (T * (13 + c)) = T * (13 + c) := by
  unfold padN divU
  rcases five hT with rfl | rfl | rfl | rfl | rfl <;> omega
theorem shape_getD {q : List Int} (h : isShape q = true) (i : Nat) : 0 ≤ q.getD i 0 ∧ q.getD i 0 ≤ 40 := by
  by_cases c : i < q.length
  · have := desc_le (shape_facts h).2.1 _ (mem_getD c); omega
  · rw [List.getD_eq_getElem?_getD, List.getElem?_eq_none (by omega)]; decide
end Go.Proofs.Ytieliilnnfjijaa
set_option maxRecDepth 100000
set_option maxHeartbeats 8000000
set_option linter.unusedSimpArgs false
set_option linter.unusedVariables false
namespace Go.Proofs.Ytieliilnnfjijaa
open Go.Ds
theorem refOf_rets {X : Caller} (hX : Xok X) (C : List Int) (hC : C.length < 1000000) (Q : List (List Int)) (hQl : Q.length < 1000000) (hQ2 : ∀ q ∈ Q, q.length < 1000000) (s q : Value) (g : GH) (hs : SlR g s (ints C)) (hq : Sl2 g q Q) :
    Rets Try.prog X 36 [s, q] g (fun v g' lo => g.next ≤ lo ∧ Ret1 g' v (ofT C Q)) := by
  refine Rets.run hX.pres p36 (hX.free 36 (by decide) _ _) rfl fun ho => ?_
  have hlq := hq.len
  have hls := hs.len
  rw [ints_len] at hls
  simp +decide (disch := first | assumption | (apply GH.ok_push; assumption) | exact cellV_int _ _ | exact cellV_bool _ | omega) only [go_sem, ↓reduceIte, Nat.reduceEqDiff, Nat.reduceAdd, Int.reduceToNat, hlq]
  refine CallD.calm (refIsShape_rets hX C hC s g hs) ?_
  rintro v G hx rfl
  have hn := hx.next
  by_cases c : isShape C = true
  case neg =>
    have c' : isShape C = false := by simpa using c
    have hT : ofT C Q = ([], 2) := by rw [ofT, if_neg (by simp [goodQ, c'])]
    simp +decide (disch := first | assumption | (apply GH.ok_push; assumption) | exact cellV_int _ _ | exact cellV_bool _ | omega) only [go_sem, ↓reduceIte, Nat.reduceEqDiff, Nat.reduceAdd, Int.reduceToNat, c']
    intro hx0
    exact ⟨by omega, _, by rw [hT], by rw [hT]; exact SlR.nil⟩
  simp +decide (disch := first | assumption | (apply GH.ok_push; assumption) | exact cellV_int _ _ | exact cellV_bool _ | omega) only [go_sem, ↓reduceIte, Nat.reduceEqDiff, Nat.reduceAdd, Int.reduceToNat, c]
  refine CallD.calm (refWires_rets hX Q.length G) ?_
  rintro v G1 hx1 rfl
  have hn1 := hx1.next
  by_cases d : isWires (Q.length : Int) = true
  case neg =>
    have d' : isWires (Q.length : Int) = false := by simpa using d
    have hT : ofT C Q = ([], 2) := by rw [ofT, if_neg (by simp [goodQ, d'])]
    simp +decide (disch := first | assumption | (apply GH.ok_push; assumption) | exact cellV_int _ _ | exact cellV_bool _ | omega) only [go_sem, ↓reduceIte, Nat.reduceEqDiff, Nat.reduceAdd, Int.reduceToNat, d']
    intro hx0
    exact ⟨by omega, _, by rw [hT], by rw [hT]; exact SlR.nil⟩
  have hT : 2 ≤ Q.length ∧ Q.length ≤ 6 := by
    have : 2 ≤ (Q.length : Int) ∧ (Q.length : Int) ≤ 6 := by simpa [isWires] using d
    omega
  have hok1 := hx1.ok (hx.ok ho)
  have hq1 := (hq.kept hx.kept).kept hx1.kept
  have hs1 := (hs.ext hx).ext hx1
  obtain ⟨c1, c2, c3⟩ := shape_facts c
  simp +decide (disch := first | assumption | (apply GH.ok_push; assumption) | exact cellV_int _ _ | exact cellV_bool _ | omega) only [go_sem, ↓reduceIte, Nat.reduceEqDiff, Nat.reduceAdd, Int.reduceToNat, d]
  refine Wk.loops (fun m e g2 lo2 => g.next ≤ lo2 ∧ Kept G1 g2 ∧ ∃ i : Nat, i + m = Q.length ∧ (ev e (.s 0) = s ∧ ev e (.s 1) = q ∧ ev e (.s 6) = .int .i64 Q.length ∧ ev e (.s 7) = .int .i64 i) ∧ ∀ M ∈ Q.take i, isShape M = true)
    (fun e g2 lo2 => g.next ≤ lo2 ∧ Kept G1 g2 ∧ (ev e (.s 0) = s ∧ ev e (.s 1) = q ∧ ev e (.s 6) = .int .i64 Q.length) ∧ ∀ M ∈ Q, isShape M = true) (n := Q.length) ?_ ?_ ?_
  · exact ⟨by omega, Kept.refl _, 0, by omega, (by simp +decide (disch := first | assumption | (apply GH.ok_push; assumption) | exact cellV_int _ _ | exact cellV_bool _ | omega) only [go_sem, ↓reduceIte, Nat.reduceEqDiff, Nat.reduceAdd, Int.reduceToNat]; first | done | exact rfl), fun M hM => by simp at hM⟩
  · rintro e g2 lo2 ho2 - ⟨hlo2, hk2, he, hall⟩
    have hgn2 := hk2.next
    simp +decide (disch := first | assumption | (apply GH.ok_push; assumption) | exact cellV_int _ _ | exact cellV_bool _ | omega) only [go_sem, ↓reduceIte, Nat.reduceEqDiff, Nat.reduceAdd, Int.reduceToNat, he]
    refine CallD.calm (refStrips_rets hX C c Q.length (by omega) s g2 (hs1.kept hk2)) ?_
    rintro z G3 hx3 hz
    have hn3 := hx3.next
    have hlz := hz.len
    by_cases z0 : stripsB (beadsR C C.length) (Q.length : Int) = []
    case neg =>
      have hT2 : ofT C Q = ([], 2) := by rw [ofT, if_neg (by simp [goodQ, z0])]
      have hgt : (0 : Int) < ((stripsB (beadsR C C.length) (Q.length : Int)).length : Int) := by have := List.length_pos_iff.2 z0; omega
      obtain ⟨zl, hzl⟩ : ∃ n, (stripsB (beadsR C C.length) (Q.length : Int)).length = n := ⟨_, rfl⟩
      rw [hzl] at hlz hgt
      simp +decide (disch := first | assumption | (apply GH.ok_push; assumption) | exact cellV_int _ _ | exact cellV_bool _ | omega) only [go_sem, ↓reduceIte, Nat.reduceEqDiff, Nat.reduceAdd, Int.reduceToNat, he, hlz, hgt]
      intro hx0
      exact ⟨by omega, _, by rw [hT2], by rw [hT2]; exact SlR.nil⟩
    rw [z0] at hlz
    have hgood : goodQ C Q = true := by
      unfold goodQ
      rw [c, d, decide_eq_true z0, List.all_eq_true.2 hall]; rfl
    have em : ((Q.length : Nat) : Int) * (12 + (C.length : Int) + 1) = ((Q.length * (13 + C.length) : Nat) : Int) := by push_cast; congr 1; omega
    have hdl : Q.length * (13 + C.length) ≤ 6 * 25 := Nat.mul_le_mul hT.2 (by omega)
    have hpn := padN_mul hT C.length
    have hcd : C.length ≤ Q.length * (13 + C.length) := by
      have : 1 * (13 + C.length) ≤ Q.length * (13 + C.length) := Nat.mul_le_mul_right _ (by omega)
      omega
    have hof : ofR C Q = shapeL (sortD (upK (beadsR C (Q.length * (13 + C.length))) Q.length Q Q.length)) := rfl
    obtain ⟨D, hD⟩ : ∃ D, Q.length * (13 + C.length) = D := ⟨_, rfl⟩
    have hp := padded_rets hX C (by omega) Q.length D hT (by omega) s G3 (((hs1.kept hk2).ext hx3))
    rw [hD] at em hdl hpn hcd hof
    rw [hpn] at hp
    simp +decide (disch := first | assumption | (apply GH.ok_push; assumption) | exact cellV_int _ _ | exact cellV_bool _ | omega) only [go_sem, ↓reduceIte, Nat.reduceEqDiff, Nat.reduceAdd, Int.reduceToNat, he, hls, hlz, em]
    refine CallD.calm hp ?_
    rintro p G4 hx4 hpv
    have hn4 := hx4.next
    simp +decide (disch := first | assumption | (apply GH.ok_push; assumption) | exact cellV_int _ _ | exact cellV_bool _ | omega) only [go_sem, ↓reduceIte, Nat.reduceEqDiff, Nat.reduceAdd, Int.reduceToNat, he]
    refine CallD.calm (refBeads_rets hX _ (pad_fits (desc_fits c2 (by omega)) _ (by omega)) p G4 hpv) ?_
    rintro b G5 hx5 hb
    have hn5 := hx5.next
    have hok5 := hx5.ok (hx4.ok (hx3.ok ho2))
    have hk5 := ((hk2.ext hx3).ext hx4).ext hx5
    rw [pad_beads, show C.length + (D - C.length) = D by omega] at hb
    have hlt := beadsR_lt (n := D) (by omega) c2
    obtain ⟨B, hB⟩ : ∃ B, beadsR C D = B := ⟨_, rfl⟩
    have hBl : B.length ≤ 150 := by rw [← hB, beadsR_len]; omega
    rw [hB] at hb hlt hof
    have hBb : ∀ x ∈ B, 0 ≤ x ∧ x ≤ 1000 := fun x hx => by have := hlt x hx; omega
    have hlb := hb.len
    rw [ints_len] at hlb
    have hT0 : ¬ (Q.length : Int) = 0 := by omega
    have hq5 := hq1.kept hk5
    have hQs : ∀ k, k < Q.length → isShape (Q.getD k []) = true := fun k hk => hall _ (by rw [List.getD_eq_getElem?_getD, List.getElem?_eq_getElem hk]; exact List.getElem_mem _)
    have hupl : ∀ k, k ≤ Q.length → (upK B Q.length Q k).length ≤ 900 := fun k hk => Nat.le_trans (upK_len B Q.length Q k) (Nat.le_trans (Nat.mul_le_mul (show k ≤ 6 by omega) hBl) (by decide))
    have hupb : ∀ x ∈ upK B Q.length Q Q.length, 0 ≤ x ∧ x ≤ 2000 := by
      intro x hx
      unfold upK at hx
      rw [List.mem_flatMap] at hx
      obtain ⟨k, hk, hx⟩ := hx
      rw [List.mem_range] at hk
      exact addW_bnd hT (fun i => shape_getD (hQs k hk) i) 0 _ (fun y hy => hBb y (List.mem_filter.1 hy).1) x hx
    have hHts : Hts (sortD (upK B Q.length Q Q.length)) := by
      have hp := sortD_perm (upK B Q.length Q Q.length)
      have h9 := hupl Q.length (Nat.le_refl _)
      exact ⟨by rw [hp.length_eq]; omega, fun x hx => by have := hupb x (hp.mem_iff.1 hx); omega⟩
    have hfo := shapeL_bnd hHts
    rw [← hof] at hfo
    simp +decide (disch := first | assumption | (apply GH.ok_push; assumption) | exact cellV_int _ _ | exact cellV_bool _ | omega) only [go_sem, ↓reduceIte, Nat.reduceEqDiff, Nat.reduceAdd, Int.reduceToNat, he]
    refine Wk.loops (fun m e g2 lo2 => g.next ≤ lo2 ∧ Kept G5 g2 ∧ ∃ k : Nat, k + m = Q.length ∧ (ev e (.s 1) = q ∧ ev e (.s 6) = .int .i64 Q.length ∧ ev e (.s 8) = b ∧ ev e (.s 10) = .int .i64 k) ∧ ∃ o, ev e (.s 9) = o ∧ Own g2 o (ints (upK B Q.length Q k)) 3 G5.next)
      (fun e g2 lo2 => g.next ≤ lo2 ∧ Kept G5 g2 ∧ ∃ o, ev e (.s 9) = o ∧ SlR g2 o (ints (upK B Q.length Q Q.length))) (n := Q.length) ?_ ?_ ?_
    · exact ⟨by omega, Kept.refl _, 0, by omega, (by simp +decide (disch := first | assumption | (apply GH.ok_push; assumption) | exact cellV_int _ _ | exact cellV_bool _ | omega) only [go_sem, ↓reduceIte, Nat.reduceEqDiff, Nat.reduceAdd, Int.reduceToNat, he]; first | done | exact rfl), .slice none 0 0, (by simp +decide (disch := first | assumption | (apply GH.ok_push; assumption) | exact cellV_int _ _ | exact cellV_bool _ | omega) only [go_sem, ↓reduceIte, Nat.reduceEqDiff, Nat.reduceAdd, Int.reduceToNat]; first | done | exact rfl), by simp [upK, ints]; exact Own.nil⟩
    · rintro e g6 lo6 ho6 - ⟨hlo6, hk6, o, h9, hsl⟩
      have hgn6 := hk6.next
      simp +decide (disch := first | assumption | (apply GH.ok_push; assumption) | exact cellV_int _ _ | exact cellV_bool _ | omega) only [go_sem, ↓reduceIte, Nat.reduceEqDiff, Nat.reduceAdd, Int.reduceToNat, h9]
      refine CallD.calm (refDesc_rets hX _ (by have := hupl Q.length (Nat.le_refl _); omega) o g6 hsl) ?_
      rintro u G7 hx7 hu
      have hn7 := hx7.next
      simp +decide (disch := first | assumption | (apply GH.ok_push; assumption) | exact cellV_int _ _ | exact cellV_bool _ | omega) only [go_sem, ↓reduceIte, Nat.reduceEqDiff, Nat.reduceAdd, Int.reduceToNat]
      refine CallD.calm (refShape_rets hX _ (by have := hHts.1; exact ⟨by omega, fun x hx => by have := hHts.2 x hx; omega⟩) u G7 hu) ?_
      rintro w G8 hx8 hw
      have hn8 := hx8.next
      rw [← hof] at hw
      simp +decide (disch := first | assumption | (apply GH.ok_push; assumption) | exact cellV_int _ _ | exact cellV_bool _ | omega) only [go_sem, ↓reduceIte, Nat.reduceEqDiff, Nat.reduceAdd, Int.reduceToNat]
      refine CallD.calm (refSum_rets hX _ hfo.1 w G8 hw) ?_
      rintro v G9 hx9 rfl
      have hn9 := hx9.next
      have hw9 := hw.ext hx9
      have hlw := hw9.len
      rw [ints_len] at hlw
      have hbig : ofT C Q = (if 40 < sumL (ofR C Q) ∨ 12 < (ofR C Q).length then ([], 8) else (ofR C Q, 0)) := by rw [ofT, if_pos hgood]
      have hol : (ofR C Q).length ≤ 1000000 := hfo.1.1
      by_cases y1 : 40 < sumL (ofR C Q)
      · have hT2 : ofT C Q = ([], 8) := by rw [hbig, if_pos (.inl y1)]
        simp +decide (disch := first | assumption | (apply GH.ok_push; assumption) | exact cellV_int _ _ | exact cellV_bool _ | omega) only [go_sem, ↓reduceIte, Nat.reduceEqDiff, Nat.reduceAdd, Int.reduceToNat, y1]
        intro hx0
        exact ⟨by omega, _, by rw [hT2], by rw [hT2]; exact SlR.nil⟩
      · by_cases y2 : 12 < (ofR C Q).length
        · have hT2 : ofT C Q = ([], 8) := by rw [hbig, if_pos (.inr y2)]
          have hy2 : (12 : Int) < ((ofR C Q).length : Int) := by omega
          simp +decide (disch := first | assumption | (apply GH.ok_push; assumption) | exact cellV_int _ _ | exact cellV_bool _ | omega) only [go_sem, ↓reduceIte, Nat.reduceEqDiff, Nat.reduceAdd, Int.reduceToNat, y1, hlw, hy2]
          intro hx0
          exact ⟨by omega, _, by rw [hT2], by rw [hT2]; exact SlR.nil⟩
        · have hT2 : ofT C Q = (ofR C Q, 0) := by rw [hbig, if_neg (fun h => h.elim y1 y2)]
          have hy2 : ¬ (12 : Int) < ((ofR C Q).length : Int) := by omega
          simp +decide (disch := first | assumption | (apply GH.ok_push; assumption) | exact cellV_int _ _ | exact cellV_bool _ | omega) only [go_sem, ↓reduceIte, Nat.reduceEqDiff, Nat.reduceAdd, Int.reduceToNat, y1, hlw, hy2]
          intro hx0
          exact ⟨by omega, w, by rw [hT2], by rw [hT2]; exact hw9⟩
    · rintro m6 e g6 lo6 ho6 hl6 ih6 out6 ⟨hlo6, hk6, k, hkm, he, o, h9, hown⟩
      have hgn6 := hk6.next
      by_cases ck : k < Q.length
      · have hsucc := upK_succ B Q.length Q k
        have hul := hupl k (by omega)
        have hshk := hQs k ck
        have hQg : ∀ g', Kept G5 g' → ∃ v j o, j < g'.next ∧ (∀ n : Int, n = k → iaddrSF 1 q (.int .i64 n) = some (.pointer (some ⟨j, o, none⟩))) ∧ (∀ lo, loadF none (g'.at lo) (.pointer (some ⟨j, o, none⟩)) = some v) ∧ SlR g' v (ints (Q.getD k [])) := fun g' hk' => (hq5.kept hk').ptr ck
        obtain ⟨M, hM⟩ : ∃ M, Q.getD k [] = M := ⟨_, rfl⟩
        rw [hM] at hsucc hshk hQg
        have hMl := (shape_facts hshk).1
        have hMb := shape_getD hshk
        simp +decide (disch := first | assumption | (apply GH.ok_push; assumption) | exact cellV_int _ _ | exact cellV_bool _ | omega) only [go_sem, ↓reduceIte, Nat.reduceEqDiff, Nat.reduceAdd, Int.reduceToNat, he, h9]
        refine Wk.loops (fun m e g4 lo4 => g.next ≤ lo4 ∧ Kept G5 g4 ∧ ∃ i : Nat, i + m = B.length ∧ (ev e (.s 1) = q ∧ ev e (.s 6) = .int .i64 Q.length ∧ ev e (.s 8) = b ∧ ev e (.s 10) = .int .i64 k ∧ ev e (.s 11) = .int .i64 ((selK (B.take i) Q.length k).length : Int) ∧ ev e (.s 12) = .int .i64 i) ∧ ∃ o, ev e (.s 9) = o ∧ Own g4 o (ints (upK B Q.length Q k ++ addW Q.length M 0 (selK (B.take i) Q.length k))) 3 G5.next)
          (fun e g4 lo4 => g.next ≤ lo4 ∧ Kept G5 g4 ∧ (ev e (.s 1) = q ∧ ev e (.s 6) = .int .i64 Q.length ∧ ev e (.s 8) = b ∧ ev e (.s 10) = .int .i64 k) ∧ ∃ o, ev e (.s 9) = o ∧ Own g4 o (ints (upK B Q.length Q (k + 1))) 3 G5.next) (n := B.length) ?_ ?_ ?_
        · exact ⟨hlo6, hk6, 0, by omega, (by simp +decide (disch := first | assumption | (apply GH.ok_push; assumption) | exact cellV_int _ _ | exact cellV_bool _ | omega) only [go_sem, ↓reduceIte, Nat.reduceEqDiff, Nat.reduceAdd, Int.reduceToNat, he, h9]; first | done | exact rfl), o, (by simp +decide (disch := first | assumption | (apply GH.ok_push; assumption) | exact cellV_int _ _ | exact cellV_bool _ | omega) only [go_sem, ↓reduceIte, Nat.reduceEqDiff, Nat.reduceAdd, Int.reduceToNat, h9]; first | done | exact rfl), by simpa [selK, addW] using hown⟩
        · rintro e g4 lo4 - - ⟨hlo4, hk4, he, o, h9, hw⟩
          simp +decide (disch := first | assumption | (apply GH.ok_push; assumption) | exact cellV_int _ _ | exact cellV_bool _ | omega) only [go_sem, ↓reduceIte, Nat.reduceEqDiff, Nat.reduceAdd, Int.reduceToNat, he]
          exact ih6 (m6 - 1) _ _ _ (by omega) ⟨hlo4, hk4, k + 1, by omega, (by simp +decide (disch := first | assumption | (apply GH.ok_push; assumption) | exact cellV_int _ _ | exact cellV_bool _ | omega) only [go_sem, ↓reduceIte, Nat.reduceEqDiff, Nat.reduceAdd, Int.reduceToNat, he]; first | done | exact rfl), o, (by simp +decide (disch := first | assumption | (apply GH.ok_push; assumption) | exact cellV_int _ _ | exact cellV_bool _ | omega) only [go_sem, ↓reduceIte, Nat.reduceEqDiff, Nat.reduceAdd, Int.reduceToNat, h9]; first | done | exact rfl), hw⟩
        · rintro m4 e g4 lo4 ho4 hl4 ih4 out4 ⟨hlo4, hk4, i, him, he, o, h9, hw⟩
          have hn4 := hk4.next
          by_cases ci : i < B.length
          · obtain ⟨pq, hp1, hp2⟩ := (hb.kept hk4).at (ints_get (D := B) (i := i) ci)
            have hp1 := hp1 (i : Int) rfl
            have hbx := hBb _ (mem_getD ci)
            have hws := selK_snoc (B.take i) (B.getD i 0) Q.length k
            rw [← take_snoc B i ci] at hws
            have hwl := selK_len (B.take i) Q.length k
            have htl : (B.take i).length ≤ 150 := by rw [List.length_take]; omega
            obtain ⟨r, hr0, hr1, qq, hqq, hle⟩ := tmod_bnd (b := B.getD i 0) (T := Q.length) hbx.1 (by omega)
            obtain ⟨y, hy⟩ : ∃ y, B.getD i 0 = y := ⟨_, rfl⟩
            rw [hy] at hp2 hbx hws hr0 hqq hle
            by_cases z : y.tmod Q.length = (k : Int)
            · rw [if_pos z] at hws
              have hsn := addW_snoc (Q.length : Int) M y 0 (selK (B.take i) Q.length k)
              rw [← hws] at hsn
              obtain ⟨A, hA⟩ : ∃ A, selK (B.take i) (Q.length : Int) k = A := ⟨_, rfl⟩
              obtain ⟨A2, hA2⟩ : ∃ A, selK (B.take (i + 1)) (Q.length : Int) k = A := ⟨_, rfl⟩
              rw [hA] at hw he hwl hws hsn
              rw [hA2] at hws hsn
              have hal := addW_len (Q.length : Int) M 0 A
              obtain ⟨u, j1, o1, hj1, hr1, hr2, hu⟩ := hQg g4 hk4
              have hr1 := hr1 (k : Int) rfl
              have hlu := hu.len
              rw [ints_len] at hlu
              have hub := hMb A.length
              obtain ⟨x, hx⟩ : ∃ x, M.getD A.length 0 = x := ⟨_, rfl⟩
              rw [Nat.zero_add, hx] at hsn
              rw [hx] at hub
              obtain ⟨pr, hpr⟩ : ∃ p, (Q.length : Int) * x = p := ⟨_, rfl⟩
              have hprb : 0 ≤ pr ∧ pr ≤ 240 := by
                rw [← hpr]
                refine ⟨Int.mul_nonneg (by omega) hub.1, ?_⟩
                have h1 : (Q.length : Int) * x ≤ 6 * x := Int.mul_le_mul_of_nonneg_right (by omega) hub.1
                omega
              rw [hpr] at hsn
              have hA2l : (A2.length : Int) = (A.length : Int) + 1 := by rw [hws]; simp
              have fin : ∀ (s' : Value) (g5 : GH), Grew2 (g4.push (cellsOb [Value.int .i64 (y + pr)] 3)) g5 s' (ints (upK B Q.length Q k ++ addW Q.length M 0 A) ++ [.int .i64 (y + pr)]) 3 G5.next → Own g5 s' (ints (upK B Q.length Q k ++ addW Q.length M 0 (selK (B.take (i + 1)) Q.length k))) 3 G5.next := by
                intro s' g5 hgr
                have := hgr.own
                rw [hA2, hsn, ← List.append_assoc, ints_app]
                exact this
              by_cases cm : A.length < M.length
              · obtain ⟨pw, hw1, hw2⟩ := hu.at (ints_get (D := M) (i := A.length) cm)
                have hw1 := hw1 (A.length : Int) rfl
                rw [hx] at hw2
                simp +decide (disch := first | assumption | (apply GH.ok_push; assumption) | exact cellV_int _ _ | exact cellV_bool _ | omega) only [go_sem, ↓reduceIte, Nat.reduceEqDiff, Nat.reduceAdd, Int.reduceToNat, he, h9, hlb, hp1, hp2, z, hr1, hr2, hlu, hw1, hw2, hpr]
                refine AppD.own2 (lw := g.next) (hw.push ho4 _) (SlR.one ho4 _ _) (by simp) rfl (by rw [ints_len]; simp; omega) (by simp [GH.push]; omega) hlo4 (by omega) (GH.ok_push ho4) (fun s' g5 lo5 sp wr hgr hlo5 => ?_)
                simp +decide (disch := first | assumption | (apply GH.ok_push; assumption) | exact cellV_int _ _ | exact cellV_bool _ | omega) only [go_sem, ↓reduceIte, Nat.reduceEqDiff, Nat.reduceAdd, Int.reduceToNat, he]
                exact ih4 (m4 - 1) _ _ _ (by omega) ⟨hlo5, (hk4.push ho4 _).grew2 hgr (Nat.le_refl _), i + 1, by omega, by rw [hA2, hA2l]; exact (by simp +decide (disch := first | assumption | (apply GH.ok_push; assumption) | exact cellV_int _ _ | exact cellV_bool _ | omega) only [go_sem, ↓reduceIte, Nat.reduceEqDiff, Nat.reduceAdd, Int.reduceToNat, he]; first | done | exact rfl), s', (by simp +decide (disch := first | assumption | (apply GH.ok_push; assumption) | exact cellV_int _ _ | exact cellV_bool _ | omega) only [go_sem, ↓reduceIte, Nat.reduceEqDiff, Nat.reduceAdd, Int.reduceToNat]; first | done | exact rfl), fin s' g5 hgr⟩
              · have hx0 : x = 0 := by
                  rw [← hx, List.getD_eq_getElem?_getD, List.getElem?_eq_none (by omega)]; rfl
                have hpr0 : (Q.length : Int) * 0 = pr := by rw [← hpr, hx0]
                simp +decide (disch := first | assumption | (apply GH.ok_push; assumption) | exact cellV_int _ _ | exact cellV_bool _ | omega) only [go_sem, ↓reduceIte, Nat.reduceEqDiff, Nat.reduceAdd, Int.reduceToNat, he, h9, hlb, hp1, hp2, z, hr1, hr2, hlu, hpr0]
                refine AppD.own2 (lw := g.next) (hw.push ho4 _) (SlR.one ho4 _ _) (by simp) rfl (by rw [ints_len]; simp; omega) (by simp [GH.push]; omega) hlo4 (by omega) (GH.ok_push ho4) (fun s' g5 lo5 sp wr hgr hlo5 => ?_)
                simp +decide (disch := first | assumption | (apply GH.ok_push; assumption) | exact cellV_int _ _ | exact cellV_bool _ | omega) only [go_sem, ↓reduceIte, Nat.reduceEqDiff, Nat.reduceAdd, Int.reduceToNat, he]
                exact ih4 (m4 - 1) _ _ _ (by omega) ⟨hlo5, (hk4.push ho4 _).grew2 hgr (Nat.le_refl _), i + 1, by omega, by rw [hA2, hA2l]; exact (by simp +decide (disch := first | assumption | (apply GH.ok_push; assumption) | exact cellV_int _ _ | exact cellV_bool _ | omega) only [go_sem, ↓reduceIte, Nat.reduceEqDiff, Nat.reduceAdd, Int.reduceToNat, he]; first | done | exact rfl), s', (by simp +decide (disch := first | assumption | (apply GH.ok_push; assumption) | exact cellV_int _ _ | exact cellV_bool _ | omega) only [go_sem, ↓reduceIte, Nat.reduceEqDiff, Nat.reduceAdd, Int.reduceToNat]; first | done | exact rfl), fin s' g5 hgr⟩
            · rw [if_neg z, List.append_nil] at hws
              simp +decide (disch := first | assumption | (apply GH.ok_push; assumption) | exact cellV_int _ _ | exact cellV_bool _ | omega) only [go_sem, ↓reduceIte, Nat.reduceEqDiff, Nat.reduceAdd, Int.reduceToNat, he, h9, hlb, hp1, hp2, z]
              refine ih4 (m4 - 1) _ _ _ (by omega) ⟨hlo4, hk4, i + 1, by omega, by rw [hws]; exact (by simp +decide (disch := first | assumption | (apply GH.ok_push; assumption) | exact cellV_int _ _ | exact cellV_bool _ | omega) only [go_sem, ↓reduceIte, Nat.reduceEqDiff, Nat.reduceAdd, Int.reduceToNat, he]; first | done | exact rfl), o, (by simp +decide (disch := first | assumption | (apply GH.ok_push; assumption) | exact cellV_int _ _ | exact cellV_bool _ | omega) only [go_sem, ↓reduceIte, Nat.reduceEqDiff, Nat.reduceAdd, Int.reduceToNat, h9]; first | done | exact rfl), ?_⟩
              rw [hws]
              exact hw
          · rw [List.take_of_length_le (by omega), ← hsucc] at hw
            simp +decide (disch := first | assumption | (apply GH.ok_push; assumption) | exact cellV_int _ _ | exact cellV_bool _ | omega) only [go_sem, ↓reduceIte, Nat.reduceEqDiff, Nat.reduceAdd, Int.reduceToNat, he, h9, hlb]
            exact out4 _ _ _ ⟨hlo4, hk4, (by simp +decide (disch := first | assumption | (apply GH.ok_push; assumption) | exact cellV_int _ _ | exact cellV_bool _ | omega) only [go_sem, ↓reduceIte, Nat.reduceEqDiff, Nat.reduceAdd, Int.reduceToNat, he]; first | done | exact rfl), o, (by simp +decide (disch := first | assumption | (apply GH.ok_push; assumption) | exact cellV_int _ _ | exact cellV_bool _ | omega) only [go_sem, ↓reduceIte, Nat.reduceEqDiff, Nat.reduceAdd, Int.reduceToNat, h9]; first | done | exact rfl), hw⟩
      · simp +decide (disch := first | assumption | (apply GH.ok_push; assumption) | exact cellV_int _ _ | exact cellV_bool _ | omega) only [go_sem, ↓reduceIte, Nat.reduceEqDiff, Nat.reduceAdd, Int.reduceToNat, he, h9]
        refine out6 _ _ _ ⟨hlo6, hk6, o, (by simp +decide (disch := first | assumption | (apply GH.ok_push; assumption) | exact cellV_int _ _ | exact cellV_bool _ | omega) only [go_sem, ↓reduceIte, Nat.reduceEqDiff, Nat.reduceAdd, Int.reduceToNat, h9]; first | done | exact rfl), ?_⟩
        rw [show k = Q.length by omega] at hown
        exact hown.read
  · rintro m e g2 lo2 ho2 hl2 ih out ⟨hlo2, hk2, i, him, he, hall⟩
    have hgn2 := hk2.next
    by_cases ci : i < Q.length
    · obtain ⟨u, j1, o1, hj1, hp1, hp2, hu⟩ := (hq1.kept hk2).ptr ci
      have hp1 := hp1 (i : Int) rfl
      have hQi := List.getElem?_eq_getElem ci
      have hgd : Q.getD i [] = Q[i] := by rw [List.getD_eq_getElem?_getD, hQi]; rfl
      rw [hgd] at hu
      have hmem := List.getElem_mem ci
      obtain ⟨M, hM⟩ : ∃ M, Q[i] = M := ⟨_, rfl⟩
      rw [hM] at hu hQi hmem
      have htk := take_snoc' Q i M hQi
      simp +decide (disch := first | assumption | (apply GH.ok_push; assumption) | exact cellV_int _ _ | exact cellV_bool _ | omega) only [go_sem, ↓reduceIte, Nat.reduceEqDiff, Nat.reduceAdd, Int.reduceToNat, he, hp1, hp2]
      refine CallD.calm (refIsShape_rets hX M (hQ2 M hmem) u g2 hu) ?_
      rintro v G3 hx3 rfl
      have hn3 := hx3.next
      by_cases z : isShape M = true
      · simp +decide (disch := first | assumption | (apply GH.ok_push; assumption) | exact cellV_int _ _ | exact cellV_bool _ | omega) only [go_sem, ↓reduceIte, Nat.reduceEqDiff, Nat.reduceAdd, Int.reduceToNat, he, z]
        refine ih (m - 1) _ _ _ (by omega) ⟨hlo2, hk2.ext hx3, i + 1, by omega, (by simp +decide (disch := first | assumption | (apply GH.ok_push; assumption) | exact cellV_int _ _ | exact cellV_bool _ | omega) only [go_sem, ↓reduceIte, Nat.reduceEqDiff, Nat.reduceAdd, Int.reduceToNat, he]; first | done | exact rfl), ?_⟩
        rw [htk]
        intro N hN
        rcases List.mem_append.1 hN with h | h
        · exact hall N h
        · rw [List.mem_singleton] at h; rw [h]; exact z
      · have z' : isShape M = false := by simpa using z
        have hT2 : ofT C Q = ([], 2) := by
          rw [ofT, if_neg]
          intro h
          unfold goodQ at h
          simp only [Bool.and_eq_true] at h
          exact z (List.all_eq_true.1 h.1.2 M hmem)
        simp +decide (disch := first | assumption | (apply GH.ok_push; assumption) | exact cellV_int _ _ | exact cellV_bool _ | omega) only [go_sem, ↓reduceIte, Nat.reduceEqDiff, Nat.reduceAdd, Int.reduceToNat, he, z']
        intro hx0
        exact ⟨by omega, _, by rw [hT2], by rw [hT2]; exact SlR.nil⟩
    · rw [List.take_of_length_le (by omega)] at hall
      simp +decide (disch := first | assumption | (apply GH.ok_push; assumption) | exact cellV_int _ _ | exact cellV_bool _ | omega) only [go_sem, ↓reduceIte, Nat.reduceEqDiff, Nat.reduceAdd, Int.reduceToNat, he]
      exact out _ _ _ ⟨hlo2, hk2, (by simp +decide (disch := first | assumption | (apply GH.ok_push; assumption) | exact cellV_int _ _ | exact cellV_bool _ | omega) only [go_sem, ↓reduceIte, Nat.reduceEqDiff, Nat.reduceAdd, Int.reduceToNat, he]; first | done | exact rfl), hall⟩
end Go.Proofs.Ytieliilnnfjijaa
