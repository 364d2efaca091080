import Derived.Test.YtieliilnnfjijaaK1
set_option linter.all false
set_option linter.unusedSimpArgs false
set_option linter.unnecessarySimpa false
set_option linter.unusedVariables false
set_option linter.unusedSectionVars false
set_option maxRecDepth 100000
set_option maxHeartbeats 4000000
set_option linter.unusedSimpArgs false
set_option linter.unusedVariables false
namespace Go.Proofs.Ytieliilnnfjijaa
open Go.Ds
/-! ## Beads -/
def beadsR (L : List Int) (n : Nat) : List Int := rng n (fun r => L.getD r 0 + n - 1 - r)
theorem beadsR_len (L : List Int) (n : Nat) : (beadsR L n).length = n := rng_len _ _
theorem Fits.getD {L : List Int} (h : Fits L) (i : Nat) : -1000000 ≤ L.getD i 0 ∧ L.getD i 0 ≤ 1000000 := by
  by_cases c : i < L.length
  · exact h.2 _ (mem_getD c)
  · rw [List.getD_eq_getElem?_getD, List.getElem?_eq_none (by omega)]; decide
theorem refBeads_rets {X : Caller} (hX : Xok X) (L : List Int) (hf : Fits L) (s : Value) (g : GH) (hs : SlR g s (ints L)) :
    Rets Try.prog X 49 [s] g (fun v g' lo => g.next ≤ lo ∧ SlR g' v (ints (beadsR L L.length))) := by
  refine Rets.run hX.pres p49 (hX.free 49 (by decide) _ _) rfl fun ho => ?_
  have hl := hs.len
  rw [ints_len] at hl
  have hf0 := hf.1
  simp +decide (disch := first | assumption | (apply GH.ok_push; assumption) | exact cellV_int _ _ | exact cellV_bool _ | omega) only [go_sem, ↓reduceIte, Nat.reduceEqDiff, Nat.reduceAdd, Int.reduceToNat, hl]
  refine Wk.loops (fun m e g' lo => g.next ≤ lo ∧ Kept g g' ∧ ∃ i : Nat, i + m = L.length ∧ (ev e (.s 0) = s ∧ ev e (.s 4) = .int .i64 i) ∧ ∃ o, ev e (.s 3) = o ∧ Own g' o (ints (rng i (fun r => L.getD r 0 + L.length - 1 - r))) 3 g.next)
    (fun e g' lo => g.next ≤ lo ∧ ∃ o, ev e (.s 3) = o ∧ Own g' o (ints (beadsR L L.length)) 3 g.next) (n := L.length) ?_ ?_ ?_
  · exact ⟨Nat.le_refl _, Kept.refl _, 0, by omega, (by simp +decide (disch := first | assumption | (apply GH.ok_push; assumption) | exact cellV_int _ _ | exact cellV_bool _ | omega) only [go_sem, ↓reduceIte, Nat.reduceEqDiff, Nat.reduceAdd, Int.reduceToNat]; first | done | exact rfl), .slice none 0 0, (by simp +decide (disch := first | assumption | (apply GH.ok_push; assumption) | exact cellV_int _ _ | exact cellV_bool _ | omega) only [go_sem, ↓reduceIte, Nat.reduceEqDiff, Nat.reduceAdd, Int.reduceToNat]; first | done | exact rfl), Own.nil⟩
  · rintro e g' lo - - ⟨hlo, o, h3, hown⟩
    simp +decide (disch := first | assumption | (apply GH.ok_push; assumption) | exact cellV_int _ _ | exact cellV_bool _ | omega) only [go_sem, ↓reduceIte, Nat.reduceEqDiff, Nat.reduceAdd, Int.reduceToNat, h3]
    exact fun hx => ⟨hlo, hown.read⟩
  · rintro m e g' lo ho' hl' ih out ⟨hlo, hk, i, hi, he, o, h3, hown⟩
    by_cases c : i < L.length
    · obtain ⟨p, hp1, hp2⟩ := (hs.kept hk).at (ints_get (D := L) (i := i) c)
      have hp1 := hp1 (i : Int) rfl
      have hb := hf.getD i
      simp +decide (disch := first | assumption | (apply GH.ok_push; assumption) | exact cellV_int _ _ | exact cellV_bool _ | omega) only [go_sem, ↓reduceIte, Nat.reduceEqDiff, Nat.reduceAdd, Int.reduceToNat, he, h3, hl, hp1, hp2]
      refine AppD.own (hown.push ho' _) (SlR.one ho' _ _) (by simp) rfl (by simp [ints_len, rng_len]; omega) (by have := hk.next; simp [GH.push]; omega) hlo (GH.ok_push ho') (fun s' g2 lo2 sp wr hgr => ?_)
      simp +decide (disch := first | assumption | (apply GH.ok_push; assumption) | exact cellV_int _ _ | exact cellV_bool _ | omega) only [go_sem, ↓reduceIte, Nat.reduceEqDiff, Nat.reduceAdd, Int.reduceToNat, he]
      refine ih (m - 1) _ _ _ (by omega) ⟨hgr.low, (hk.push ho' _).grew hgr (Nat.le_refl _), i + 1, by omega, (by simp +decide (disch := first | assumption | (apply GH.ok_push; assumption) | exact cellV_int _ _ | exact cellV_bool _ | omega) only [go_sem, ↓reduceIte, Nat.reduceEqDiff, Nat.reduceAdd, Int.reduceToNat, he]; first | done | exact rfl), s', (by simp +decide (disch := first | assumption | (apply GH.ok_push; assumption) | exact cellV_int _ _ | exact cellV_bool _ | omega) only [go_sem, ↓reduceIte, Nat.reduceEqDiff, Nat.reduceAdd, Int.reduceToNat]; first | done | exact rfl), ?_⟩
      rw [rng_succ, ints_app]
      exact hgr.own
    · simp +decide (disch := first | assumption | (apply GH.ok_push; assumption) | exact cellV_int _ _ | exact cellV_bool _ | omega) only [go_sem, ↓reduceIte, Nat.reduceEqDiff, Nat.reduceAdd, Int.reduceToNat, he, h3, hl]
      refine out _ _ _ ⟨hlo, o, (by simp +decide (disch := first | assumption | (apply GH.ok_push; assumption) | exact cellV_int _ _ | exact cellV_bool _ | omega) only [go_sem, ↓reduceIte, Nat.reduceEqDiff, Nat.reduceAdd, Int.reduceToNat, h3]; first | done | exact rfl), ?_⟩
      rw [show i = L.length by omega] at hown; exact hown
theorem zeros_after (L : List Int) (n : Nat) (h : L.length ≤ n) : ints L ++ (ints (rng n fun _ => 0)).drop L.length = ints (rng n (fun r => L.getD r 0)) := by
  apply List.ext_getElem?
  intro i
  by_cases c : i < L.length
  · rw [List.getElem?_append_left (by rw [ints_len]; exact c), ints_get c, ints_get (by rw [rng_len]; omega), rng_get _ (by omega)]
  · rw [List.getElem?_append_right (by rw [ints_len]; omega), ints_len, List.getElem?_drop, show L.length + (i - L.length) = i by omega]
    by_cases d : i < n
    · rw [ints_get (by rw [rng_len]; omega), ints_get (by rw [rng_len]; omega), rng_get _ d, rng_get _ d]
      rw [List.getD_eq_getElem?_getD, List.getElem?_eq_none (by omega)]; rfl
    · rw [List.getElem?_eq_none (by rw [ints_len, rng_len]; omega), List.getElem?_eq_none (by rw [ints_len, rng_len]; omega)]
theorem beads_rets {X : Caller} (hX : Xok X) (L : List Int) (hf : Fits L) (n : Nat) (hn : L.length ≤ n) (hn2 : n ≤ 1000000) (s : Value) (g : GH) (hs : SlR g s (ints L)) :
    Rets Try.prog X 48 [s, .int .i64 n] g (fun v g' lo => g.next ≤ lo ∧ SlR g' v (ints (beadsR L n))) := by
  refine Rets.run hX.pres p48 (hX.free 48 (by decide) _ _) rfl fun ho => ?_
  simp +decide (disch := first | assumption | (apply GH.ok_push; assumption) | exact cellV_int _ _ | exact cellV_bool _ | omega) only [go_sem, ↓reduceIte, Nat.reduceEqDiff, Nat.reduceAdd, Int.reduceToNat]
  refine Wk.mkslice (n := n) (c := n) (by simp +decide (disch := first | assumption | (apply GH.ok_push; assumption) | exact cellV_int _ _ | exact cellV_bool _ | omega) only [go_sem, ↓reduceIte, Nat.reduceEqDiff, Nat.reduceAdd, Int.reduceToNat]; first | done | exact rfl) (by simp +decide (disch := first | assumption | (apply GH.ok_push; assumption) | exact cellV_int _ _ | exact cellV_bool _ | omega) only [go_sem, ↓reduceIte, Nat.reduceEqDiff, Nat.reduceAdd, Int.reduceToNat]; first | done | exact rfl) (Nat.le_refl _) (by omega) ?_
  simp +decide (disch := first | assumption | (apply GH.ok_push; assumption) | exact cellV_int _ _ | exact cellV_bool _ | omega) only [go_sem, ↓reduceIte, Nat.reduceEqDiff, Nat.reduceAdd, Int.reduceToNat]
  have hs1 := hs.push ho (cellsOb (repeatN [Value.int .i64 0] n) 3)
  refine Wk.cpy (j := g.next) (n := n) (c := n) (cells := ints (rng n fun _ => 0)) (new := ints L) (t := 3) (sv := s) (by simp +decide (disch := first | assumption | (apply GH.ok_push; assumption) | exact cellV_int _ _ | exact cellV_bool _ | omega) only [go_sem, ↓reduceIte, Nat.reduceEqDiff, Nat.reduceAdd, Int.reduceToNat]; first | done | exact rfl) (by simp +decide (disch := first | assumption | (apply GH.ok_push; assumption) | exact cellV_int _ _ | exact cellV_bool _ | omega) only [go_sem, ↓reduceIte, Nat.reduceEqDiff, Nat.reduceAdd, Int.reduceToNat]; first | done | exact rfl) hs1 (by rw [GH.get_push ho, if_pos rfl, repeat_rng]) (by rw [ints_len, rng_len]; omega) (Nat.lt_succ_self _) (ints_cell _) (by rw [ints_len]; exact hn) (GH.ok_push ho) ?_
  intro G lo sp wr hw hlo
  rw [ints_len, zeros_after L n hn] at hw
  have hkG := hw.kept ((Kept.refl g).push ho _) (Nat.le_refl _)
  have hnx : g.next < G.next := by rw [hw.next]; exact Nat.lt_succ_self _
  have hget := hw.get
  simp +decide (disch := first | assumption | (apply GH.ok_push; assumption) | exact cellV_int _ _ | exact cellV_bool _ | omega) only [go_sem, ↓reduceIte, Nat.reduceEqDiff, Nat.reduceAdd, Int.reduceToNat]
  refine Wk.loops (fun m e g' lo => g.next ≤ lo ∧ Kept g g' ∧ g.next < g'.next ∧ ∃ i : Nat, i + m = n ∧ (ev e (.s 1) = .int .i64 n ∧ ev e (.s 5) = .slice (some ⟨g.next, 0, none⟩) n n ∧ ev e (.s 13) = .int .i64 n ∧ ev e (.s 14) = .int .i64 i) ∧ g'.get g.next = cellsOb (ints (rng n (fun r => L.getD r 0 + if r < i then (n : Int) - 1 - r else 0))) 3)
    (fun e g' lo => g.next ≤ lo ∧ g.next < g'.next ∧ ev e (.s 5) = .slice (some ⟨g.next, 0, none⟩) n n ∧ g'.get g.next = cellsOb (ints (beadsR L n)) 3) (n := n) ?_ ?_ ?_
  · refine ⟨by omega, hkG, hnx, 0, by omega, (by simp +decide (disch := first | assumption | (apply GH.ok_push; assumption) | exact cellV_int _ _ | exact cellV_bool _ | omega) only [go_sem, ↓reduceIte, Nat.reduceEqDiff, Nat.reduceAdd, Int.reduceToNat, lenL_slice]; first | done | exact rfl), ?_⟩
    rw [hget]
    congr 2
    exact rng_congr fun k hk => by simp
  · rintro e g' lo - - ⟨hlo, hn, he, hget⟩
    simp +decide (disch := first | assumption | (apply GH.ok_push; assumption) | exact cellV_int _ _ | exact cellV_bool _ | omega) only [go_sem, ↓reduceIte, Nat.reduceEqDiff, Nat.reduceAdd, Int.reduceToNat, he]
    exact fun hx => ⟨hlo, SlR.whole hget hn (by rw [ints_len, beadsR_len])⟩
  · rintro m e g' lo ho' hl' ih out ⟨hlo, hk, hnx, i, hi, he, hget⟩
    by_cases c : i < n
    · have hia := iaddrS_at (j := g.next) (n := n) (c := n) (m := i) (x := (i : Int)) rfl c
      have hgc : (ints (rng n (fun r => L.getD r 0 + if r < i then (n : Int) - 1 - r else 0)))[i]? = some (.int .i64 (L.getD i 0)) := by
        rw [ints_get (by rw [rng_len]; exact c), rng_get _ c]; simp
      have hlen : (ints (rng n (fun r => L.getD r 0 + if r < i then (n : Int) - 1 - r else 0))).length = n := by rw [ints_len, rng_len]
      have hb := hf.getD i
      simp +decide (disch := first | assumption | (apply GH.ok_push; assumption) | exact cellV_int _ _ | exact cellV_bool _ | omega) only [go_sem, ↓reduceIte, Nat.reduceEqDiff, Nat.reduceAdd, Int.reduceToNat, he, hia, hget, hgc, hlen]
      have hw := Wrote.set (o := cellsOb (splice i (ints (rng n (fun r => L.getD r 0 + if r < i then (n : Int) - 1 - r else 0))) [.int .i64 (L.getD i 0 + ((n : Int) - 1 - i))]) 3) hget Nat.one_ne_zero ho'
      refine ih (m - 1) _ _ _ (by omega) ⟨by omega, hw.kept hk (Nat.le_refl _), hnx, i + 1, by omega, (by simp +decide (disch := first | assumption | (apply GH.ok_push; assumption) | exact cellV_int _ _ | exact cellV_bool _ | omega) only [go_sem, ↓reduceIte, Nat.reduceEqDiff, Nat.reduceAdd, Int.reduceToNat, he]; first | done | exact rfl), ?_⟩
      rw [hw.get, splice_set _ _ _ (by rw [hlen]; exact c), ints_set, rng_set]
      congr 2
      refine rng_congr fun k hk => ?_
      by_cases hkc : k = i
      · subst hkc; simp
      · rw [if_neg hkc]
        by_cases hkl : k < i
        · rw [if_pos hkl, if_pos (by omega)]
        · rw [if_neg hkl, if_neg (by omega)]
    · simp +decide (disch := first | assumption | (apply GH.ok_push; assumption) | exact cellV_int _ _ | exact cellV_bool _ | omega) only [go_sem, ↓reduceIte, Nat.reduceEqDiff, Nat.reduceAdd, Int.reduceToNat, he]
      refine out _ _ _ ⟨hlo, hnx, (by simp +decide (disch := first | assumption | (apply GH.ok_push; assumption) | exact cellV_int _ _ | exact cellV_bool _ | omega) only [go_sem, ↓reduceIte, Nat.reduceEqDiff, Nat.reduceAdd, Int.reduceToNat, he]; first | done | exact rfl), ?_⟩
      rw [hget]
      congr 2
      refine rng_congr fun k hk => ?_
      rw [if_pos (by omega)]; omega

/-! ## Hooks -/
def hookV (L : List Int) (r c : Nat) : Int := L.getD r 0 - c + cnt L c - r - 1
def hookRow (L : List Int) (r : Nat) : List Int := rng (L.getD r 0).toNat (hookV L r)
def hooksL (L : List Int) : List (List Int) := (List.range L.length).map (hookRow L)
theorem hooksL_len (L : List Int) : (hooksL L).length = L.length := by simp [hooksL]
theorem hooksL_get {L : List Int} {r : Nat} (h : r < L.length) : (hooksL L)[r]? = some (hookRow L r) := by simp [hooksL, h]
theorem colsL_get {L : List Int} {c : Nat} (h : c < head L) : (ints (colsL L))[c]? = some (.int .i64 (cnt L c)) := by
  rw [ints_get (by rw [colsL, rng_len]; exact h), colsL, rng_get _ h]
theorem snoc_vals {g : GH} {vs : List Value} {F : Nat → List Int} {r : Nat} {v : Value} (hlen : vs.length = r) (h : ∀ k u, vs[k]? = some u → SlR g u (ints (F k))) (hv : SlR g v (ints (F r))) : ∀ k u, (vs ++ [v])[k]? = some u → SlR g u (ints (F k)) := by
  intro k u hu
  by_cases c : k < r
  · rw [List.getElem?_append_left (by omega)] at hu
    exact h k u hu
  · rw [List.getElem?_append_right (by omega), hlen] at hu
    have hk : k = r := by
      have := (List.getElem?_eq_some_iff.1 hu).1
      simp at this; omega
    subst hk
    simp at hu
    subst hu
    exact hv
theorem refLengths_rets {X : Caller} (hX : Xok X) (L : List Int) (hL : L.length ≤ 1000) (hd : desc 40 L = true) (s : Value) (g : GH) (hs : SlR g s (ints L)) :
    Rets Try.prog X 47 [s] g (fun v g' lo => g.next ≤ lo ∧ Sl2 g' v (hooksL L)) := by
  refine Rets.run hX.pres p47 (hX.free 47 (by decide) _ _) rfl fun ho => ?_
  have hl := hs.len
  rw [ints_len] at hl
  have hh := head_le hd
  simp +decide (disch := first | assumption | (apply GH.ok_push; assumption) | exact cellV_int _ _ | exact cellV_bool _ | omega) only [go_sem, ↓reduceIte, Nat.reduceEqDiff, Nat.reduceAdd, Int.reduceToNat, hl]
  refine CallD.calm (refColumns_rets hX L hL hd s g hs) ?_
  rintro v G hx hcol
  have hoG := hx.ok ho
  have hkG := hx.kept
  simp +decide (disch := first | assumption | (apply GH.ok_push; assumption) | exact cellV_int _ _ | exact cellV_bool _ | omega) only [go_sem, ↓reduceIte, Nat.reduceEqDiff, Nat.reduceAdd, Int.reduceToNat]
  refine Wk.loops (fun m e g' lo => g.next ≤ lo ∧ Kept G g' ∧ ∃ i : Nat, i + m = L.length ∧ (ev e (.s 0) = s ∧ ev e (.s 3) = v ∧ ev e (.s 5) = .int .i64 i) ∧ ∃ o vs, ev e (.s 4) = o ∧ Own g' o vs 22 G.next ∧ vs.length = i ∧ ∀ k u, vs[k]? = some u → SlR g' u (ints (hookRow L k)))
    (fun e g' lo => g.next ≤ lo ∧ ∃ o, ev e (.s 4) = o ∧ Sl2 g' o (hooksL L)) (n := L.length) ?_ ?_ ?_
  · exact ⟨Nat.le_refl _, Kept.refl _, 0, by omega, (by simp +decide (disch := first | assumption | (apply GH.ok_push; assumption) | exact cellV_int _ _ | exact cellV_bool _ | omega) only [go_sem, ↓reduceIte, Nat.reduceEqDiff, Nat.reduceAdd, Int.reduceToNat]; first | done | exact rfl), .slice none 0 0, [], (by simp +decide (disch := first | assumption | (apply GH.ok_push; assumption) | exact cellV_int _ _ | exact cellV_bool _ | omega) only [go_sem, ↓reduceIte, Nat.reduceEqDiff, Nat.reduceAdd, Int.reduceToNat]; first | done | exact rfl), Own.nil, rfl, fun k u h => by simp at h⟩
  · rintro e g' lo - - ⟨hlo, o, h3, hown⟩
    simp +decide (disch := first | assumption | (apply GH.ok_push; assumption) | exact cellV_int _ _ | exact cellV_bool _ | omega) only [go_sem, ↓reduceIte, Nat.reduceEqDiff, Nat.reduceAdd, Int.reduceToNat, h3]
    exact fun hx => ⟨hlo, hown⟩
  · rintro m e g' lo ho' hl' ih out ⟨hlo, hk, i, hi, he, o, vs, h4, hown, hvl, hvs⟩
    have hs' := hs.kept (hkG.trans hk)
    have hcol' := hcol.kept hk
    have hgn := hkG.next
    have hgn2 := hk.next
    by_cases ci : i < L.length
    · obtain ⟨j1, o1, hj1, hp1, hp2⟩ := hs'.ptr (ints_get (D := L) (i := i) ci)
      have hp1 := hp1 (i : Int) rfl
      have hrow := desc_getD hd ci
      have hrh := desc_head hd ci
      simp +decide (disch := first | assumption | (apply GH.ok_push; assumption) | exact cellV_int _ _ | exact cellV_bool _ | omega) only [go_sem, ↓reduceIte, Nat.reduceEqDiff, Nat.reduceAdd, Int.reduceToNat, he, hl]
      refine Wk.loops (fun m e g2 lo2 => g.next ≤ lo2 ∧ Kept g' g2 ∧ ∃ c : Nat, (c : Int) + m = L.getD i 0 ∧ (ev e (.s 0) = s ∧ ev e (.s 3) = v ∧ ev e (.s 4) = o ∧ ev e (.s 5) = .int .i64 i ∧ ev e (.s 7) = .int .i64 c) ∧ ∃ u, ev e (.s 6) = u ∧ Own g2 u (ints (rng c (hookV L i))) 3 g'.next)
        (fun e g2 lo2 => g.next ≤ lo2 ∧ Kept g' g2 ∧ (ev e (.s 0) = s ∧ ev e (.s 3) = v ∧ ev e (.s 4) = o ∧ ev e (.s 5) = .int .i64 i) ∧ ∃ u, ev e (.s 6) = u ∧ SlR g2 u (ints (hookRow L i))) (n := (L.getD i 0).toNat) ?_ ?_ ?_
      · exact ⟨hlo, Kept.refl _, 0, by omega, (by simp +decide (disch := first | assumption | (apply GH.ok_push; assumption) | exact cellV_int _ _ | exact cellV_bool _ | omega) only [go_sem, ↓reduceIte, Nat.reduceEqDiff, Nat.reduceAdd, Int.reduceToNat, he, h4]; first | done | exact rfl), .slice none 0 0, (by simp +decide (disch := first | assumption | (apply GH.ok_push; assumption) | exact cellV_int _ _ | exact cellV_bool _ | omega) only [go_sem, ↓reduceIte, Nat.reduceEqDiff, Nat.reduceAdd, Int.reduceToNat]; first | done | exact rfl), Own.nil⟩
      · rintro e g2 lo2 ho2 - ⟨hlo2, hk2, he, u, h6, hu⟩
        have hcell := hu.cell
        have hn2 := hk2.next
        have hkp := hk2.push ho2 (cellsOb [u] 22)
        simp +decide (disch := first | assumption | (apply GH.ok_push; assumption) | exact cellV_int _ _ | exact cellV_bool _ | omega) only [go_sem, ↓reduceIte, Nat.reduceEqDiff, Nat.reduceAdd, Int.reduceToNat, he, h6, hcell]
        refine AppD.own2 (hown.kept hkp) (SlR.one ho2 _ _) (by simp) (by simp [hcell]) (by simp [hvl]; omega) (by simp [GH.push]; omega) hlo2 hgn (GH.ok_push ho2) (fun s' g3 lo3 sp wr hgr hlo3 => ?_)
        simp +decide (disch := first | assumption | (apply GH.ok_push; assumption) | exact cellV_int _ _ | exact cellV_bool _ | omega) only [go_sem, ↓reduceIte, Nat.reduceEqDiff, Nat.reduceAdd, Int.reduceToNat, he]
        refine ih (m - 1) _ _ _ (by omega) ⟨hlo3, (hk.trans hkp).grew2 hgr (Nat.le_refl _), i + 1, by omega, (by simp +decide (disch := first | assumption | (apply GH.ok_push; assumption) | exact cellV_int _ _ | exact cellV_bool _ | omega) only [go_sem, ↓reduceIte, Nat.reduceEqDiff, Nat.reduceAdd, Int.reduceToNat, he]; first | done | exact rfl), s', vs ++ [u], (by simp +decide (disch := first | assumption | (apply GH.ok_push; assumption) | exact cellV_int _ _ | exact cellV_bool _ | omega) only [go_sem, ↓reduceIte, Nat.reduceEqDiff, Nat.reduceAdd, Int.reduceToNat]; first | done | exact rfl), hgr.own, by simp [hvl], ?_⟩
        refine snoc_vals hvl (fun k w hw => ?_) ?_
        · exact hgr.read _ _ ((hvs k w hw).kept hkp)
        · exact hgr.read _ _ (hu.push ho2 _)
      · rintro m2 e g2 lo2 ho2 hl2 ih2 out2 ⟨hlo2, hk2, c, hc, he, u, h6, hu⟩
        have hn2 := hk2.next
        by_cases cc : (c : Int) < L.getD i 0
        · obtain ⟨j2, o2, hj2, hq1, hq2⟩ := (hs'.kept hk2).ptr (ints_get (D := L) (i := i) ci)
          have hq1 := hq1 (i : Int) rfl
          obtain ⟨j3, o3, hj3, hr1, hr2⟩ := (hcol'.kept hk2).ptr (colsL_get (L := L) (c := c) (by omega))
          have hr1 := hr1 (c : Int) rfl
          have hcb := cnt_bnd L c
          have hkp := hk2.push ho2 (cellsOb [.int .i64 (hookV L i c)] 3)
          have hval : L.getD i 0 - c + cnt L c - i - 1 = hookV L i c := rfl
          simp +decide (disch := first | assumption | (apply GH.ok_push; assumption) | exact cellV_int _ _ | exact cellV_bool _ | omega) only [go_sem, ↓reduceIte, Nat.reduceEqDiff, Nat.reduceAdd, Int.reduceToNat, he, h6, hq1, hq2, hr1, hr2, hval]
          refine AppD.own2 (hu.push ho2 _) (SlR.one ho2 _ _) (by simp) rfl (by simp [ints_len, rng_len]; omega) (by simp [GH.push]; omega) hlo2 (by omega) (GH.ok_push ho2) (fun s' g3 lo3 sp wr hgr hlo3 => ?_)
          simp +decide (disch := first | assumption | (apply GH.ok_push; assumption) | exact cellV_int _ _ | exact cellV_bool _ | omega) only [go_sem, ↓reduceIte, Nat.reduceEqDiff, Nat.reduceAdd, Int.reduceToNat, he]
          refine ih2 (m2 - 1) _ _ _ (by omega) ⟨hlo3, hkp.grew2 hgr (Nat.le_refl _), c + 1, by omega, (by simp +decide (disch := first | assumption | (apply GH.ok_push; assumption) | exact cellV_int _ _ | exact cellV_bool _ | omega) only [go_sem, ↓reduceIte, Nat.reduceEqDiff, Nat.reduceAdd, Int.reduceToNat, he]; first | done | exact rfl), s', (by simp +decide (disch := first | assumption | (apply GH.ok_push; assumption) | exact cellV_int _ _ | exact cellV_bool _ | omega) only [go_sem, ↓reduceIte, Nat.reduceEqDiff, Nat.reduceAdd, Int.reduceToNat]; first | done | exact rfl), ?_⟩
          rw [rng_succ, ints_app]
          exact hgr.own
        · obtain ⟨j2, o2, hj2, hq1, hq2⟩ := (hs'.kept hk2).ptr (ints_get (D := L) (i := i) ci)
          have hq1 := hq1 (i : Int) rfl
          simp +decide (disch := first | assumption | (apply GH.ok_push; assumption) | exact cellV_int _ _ | exact cellV_bool _ | omega) only [go_sem, ↓reduceIte, Nat.reduceEqDiff, Nat.reduceAdd, Int.reduceToNat, he, h6, hq1, hq2]
          refine out2 _ _ _ ⟨hlo2, hk2, (by simp +decide (disch := first | assumption | (apply GH.ok_push; assumption) | exact cellV_int _ _ | exact cellV_bool _ | omega) only [go_sem, ↓reduceIte, Nat.reduceEqDiff, Nat.reduceAdd, Int.reduceToNat, he]; first | done | exact rfl), u, (by simp +decide (disch := first | assumption | (apply GH.ok_push; assumption) | exact cellV_int _ _ | exact cellV_bool _ | omega) only [go_sem, ↓reduceIte, Nat.reduceEqDiff, Nat.reduceAdd, Int.reduceToNat, h6]; first | done | exact rfl), ?_⟩
          rw [hookRow, show (L.getD i 0).toNat = c by omega]
          exact hu.read
    · simp +decide (disch := first | assumption | (apply GH.ok_push; assumption) | exact cellV_int _ _ | exact cellV_bool _ | omega) only [go_sem, ↓reduceIte, Nat.reduceEqDiff, Nat.reduceAdd, Int.reduceToNat, he, h4, hl]
      refine out _ _ _ ⟨hlo, o, (by simp +decide (disch := first | assumption | (apply GH.ok_push; assumption) | exact cellV_int _ _ | exact cellV_bool _ | omega) only [go_sem, ↓reduceIte, Nat.reduceEqDiff, Nat.reduceAdd, Int.reduceToNat, h4]; first | done | exact rfl), vs, hown.read, by rw [hooksL_len]; omega, ?_⟩
      intro k u M hu hM
      have hkl : k < L.length := by have := (List.getElem?_eq_some_iff.1 hM).1; rwa [hooksL_len] at this
      rw [hooksL_get hkl] at hM
      cases hM
      exact hvs k u hu
end Go.Proofs.Ytieliilnnfjijaa
set_option maxRecDepth 100000
set_option maxHeartbeats 4000000
set_option linter.unusedSimpArgs false
set_option linter.unusedVariables false
namespace Go.Proofs.Ytieliilnnfjijaa
open Go.Ds
def rowAt (L : List Int) (g : GH) (J : Nat) (vs : List Value) (k top : Nat) : Prop := ∃ jk n, vs[k]? = some (.slice (some ⟨jk, 0, none⟩) n n) ∧ n = (L.getD k 0).toNat ∧ J < jk ∧ jk < top ∧ g.get jk = cellsOb (ints (hookRow L k)) 3
theorem hooks_rets {X : Caller} (hX : Xok X) (L : List Int) (hL : L.length ≤ 1000) (hd : desc 40 L = true) (s : Value) (g : GH) (hs : SlR g s (ints L)) :
    Rets Try.prog X 46 [s] g (fun v g' lo => g.next ≤ lo ∧ Sl2 g' v (hooksL L)) := by
  refine Rets.run hX.pres p46 (hX.free 46 (by decide) _ _) rfl fun ho => ?_
  have hl := hs.len
  rw [ints_len] at hl
  have hh := head_le hd
  simp +decide (disch := first | assumption | (apply GH.ok_push; assumption) | exact cellV_int _ _ | exact cellV_bool _ | omega) only [go_sem, ↓reduceIte, Nat.reduceEqDiff, Nat.reduceAdd, Int.reduceToNat, hl]
  refine CallD.calm (columns_rets hX L hL hd s g hs) ?_
  rintro v G hx hcol
  have hoG := hx.ok ho
  have hkG := hx.kept
  have hgn := hkG.next
  simp +decide (disch := first | assumption | (apply GH.ok_push; assumption) | exact cellV_int _ _ | exact cellV_bool _ | omega) only [go_sem, ↓reduceIte, Nat.reduceEqDiff, Nat.reduceAdd, Int.reduceToNat, hl]
  refine Wk.mkslice (n := L.length) (c := L.length) (by simp +decide (disch := first | assumption | (apply GH.ok_push; assumption) | exact cellV_int _ _ | exact cellV_bool _ | omega) only [go_sem, ↓reduceIte, Nat.reduceEqDiff, Nat.reduceAdd, Int.reduceToNat]; first | done | exact rfl) (by simp +decide (disch := first | assumption | (apply GH.ok_push; assumption) | exact cellV_int _ _ | exact cellV_bool _ | omega) only [go_sem, ↓reduceIte, Nat.reduceEqDiff, Nat.reduceAdd, Int.reduceToNat]; first | done | exact rfl) (Nat.le_refl _) (by omega) ?_
  simp +decide (disch := first | assumption | (apply GH.ok_push; assumption) | exact cellV_int _ _ | exact cellV_bool _ | omega) only [go_sem, ↓reduceIte, Nat.reduceEqDiff, Nat.reduceAdd, Int.reduceToNat, hl]
  refine Wk.loops (fun m e g' lo => g.next ≤ lo ∧ Kept G g' ∧ G.next < g'.next ∧ ∃ i : Nat, i + m = L.length ∧ (ev e (.s 3) = v ∧ ev e (.s 4) = .slice (some ⟨G.next, 0, none⟩) L.length L.length ∧ ev e (.s 15) = s ∧ ev e (.s 16) = .int .i64 L.length ∧ ev e (.s 17) = .int .i64 i) ∧ ∃ vs, g'.get G.next = cellsOb vs 22 ∧ vs.length = L.length ∧ ∀ k, k < i → rowAt L g' G.next vs k g'.next)
    (fun e g' lo => g.next ≤ lo ∧ ∃ o, ev e (.s 4) = o ∧ Sl2 g' o (hooksL L)) (n := L.length) ?_ ?_ ?_
  · refine ⟨Nat.le_refl _, (Kept.refl G).push hoG _, Nat.lt_succ_self _, 0, by omega, (by simp +decide (disch := first | assumption | (apply GH.ok_push; assumption) | exact cellV_int _ _ | exact cellV_bool _ | omega) only [go_sem, ↓reduceIte, Nat.reduceEqDiff, Nat.reduceAdd, Int.reduceToNat]; first | done | exact rfl), List.replicate L.length (.slice none 0 0), ?_, by simp, fun k hk => by omega⟩
    rw [GH.get_push hoG, if_pos rfl, repeatN_replicate]
  · rintro e g' lo - - ⟨hlo, o, h3, hown⟩
    simp +decide (disch := first | assumption | (apply GH.ok_push; assumption) | exact cellV_int _ _ | exact cellV_bool _ | omega) only [go_sem, ↓reduceIte, Nat.reduceEqDiff, Nat.reduceAdd, Int.reduceToNat, h3]
    exact fun hx => ⟨hlo, hown⟩
  · rintro m e g' lo ho' hl' ih out ⟨hlo, hk, hnx, i, hi, he, vs, hget, hvl, hvs⟩
    have hs' := hs.kept (hkG.trans hk)
    have hcol' := hcol.kept hk
    by_cases ci : i < L.length
    · obtain ⟨j1, o1, hj1, hp1, hp2⟩ := hs'.ptr (ints_get (D := L) (i := i) ci)
      have hp1 := hp1 (i : Int) rfl
      have hrow := desc_getD hd ci
      have hrh := desc_head hd ci
      have hrn : ∃ n : Nat, L.getD i 0 = n ∧ (L.getD i 0).toNat = n := ⟨(L.getD i 0).toNat, by omega, rfl⟩
      obtain ⟨n, hn1, hn2⟩ := hrn
      rw [hn1] at hp2
      simp +decide (disch := first | assumption | (apply GH.ok_push; assumption) | exact cellV_int _ _ | exact cellV_bool _ | omega) only [go_sem, ↓reduceIte, Nat.reduceEqDiff, Nat.reduceAdd, Int.reduceToNat, he, hp1, hp2]
      refine Wk.mkslice (n := n) (c := n) (by simp +decide (disch := first | assumption | (apply GH.ok_push; assumption) | exact cellV_int _ _ | exact cellV_bool _ | omega) only [go_sem, ↓reduceIte, Nat.reduceEqDiff, Nat.reduceAdd, Int.reduceToNat]; first | done | exact rfl) (by simp +decide (disch := first | assumption | (apply GH.ok_push; assumption) | exact cellV_int _ _ | exact cellV_bool _ | omega) only [go_sem, ↓reduceIte, Nat.reduceEqDiff, Nat.reduceAdd, Int.reduceToNat]; first | done | exact rfl) (Nat.le_refl _) (by omega) ?_
      have hgp : (g'.push (cellsOb (repeatN [Value.int .i64 0] n) 3)).get G.next = cellsOb vs 22 := by rw [GH.get_push ho', if_neg (by omega)]; exact hget
      have hia := iaddrS_at (j := G.next) (n := L.length) (c := L.length) (m := i) (x := (i : Int)) rfl ci
      simp +decide (disch := first | assumption | (apply GH.ok_push; assumption) | exact cellV_int _ _ | exact cellV_bool _ | omega) only [go_sem, ↓reduceIte, Nat.reduceEqDiff, Nat.reduceAdd, Int.reduceToNat, he, hia, hgp, hvl]
      have hw := Wrote.set (o := cellsOb (splice i vs [.slice (some ⟨g'.next, 0, none⟩) n n]) 22) hgp Nat.one_ne_zero (GH.ok_push ho')
      rw [splice_set _ _ _ (by omega)] at hw ⊢
      have hk1 := hw.kept (hk.push ho' _) (Nat.le_refl _)
      have hnew := hw.others g'.next (by omega)
      rw [GH.get_push ho', if_pos rfl] at hnew
      have hnx1 : g'.next + 1 = ((g'.push (cellsOb (repeatN [Value.int .i64 0] n) 3)).set G.next (cellsOb (vs.set i (.slice (some ⟨g'.next, 0, none⟩) n n)) 22)).next := rfl
      refine Wk.loops (fun m e g2 lo2 => g.next ≤ lo2 ∧ Kept G g2 ∧ g2.next = g'.next + 1 ∧ ∃ c : Nat, c + m = n ∧ (ev e (.s 3) = v ∧ ev e (.s 4) = .slice (some ⟨G.next, 0, none⟩) L.length L.length ∧ ev e (.s 5) = .int .i64 i ∧ ev e (.s 6) = .int .i64 n ∧ ev e (.s 15) = s ∧ ev e (.s 16) = .int .i64 L.length ∧ ev e (.s 17) = .int .i64 i ∧ ev e (.s 27) = .int .i64 n ∧ ev e (.s 28) = .int .i64 c) ∧
            g2.get G.next = cellsOb (vs.set i (.slice (some ⟨g'.next, 0, none⟩) n n)) 22 ∧ g2.get g'.next = cellsOb (ints (rng n (fun k => if k < c then hookV L i k else 0))) 3 ∧ ∀ k, k < i → rowAt L g2 G.next vs k g'.next)
        (fun e g2 lo2 => g.next ≤ lo2 ∧ Kept G g2 ∧ g2.next = g'.next + 1 ∧ (ev e (.s 3) = v ∧ ev e (.s 4) = .slice (some ⟨G.next, 0, none⟩) L.length L.length ∧ ev e (.s 15) = s ∧ ev e (.s 16) = .int .i64 L.length ∧ ev e (.s 17) = .int .i64 i) ∧
            g2.get G.next = cellsOb (vs.set i (.slice (some ⟨g'.next, 0, none⟩) n n)) 22 ∧ g2.get g'.next = cellsOb (ints (hookRow L i)) 3 ∧ ∀ k, k < i → rowAt L g2 G.next vs k g'.next) (n := n) ?_ ?_ ?_
      · refine ⟨by omega, hk1, rfl, 0, by omega, (by simp +decide (disch := first | assumption | (apply GH.ok_push; assumption) | exact cellV_int _ _ | exact cellV_bool _ | omega) only [go_sem, ↓reduceIte, Nat.reduceEqDiff, Nat.reduceAdd, Int.reduceToNat, he]; first | done | exact rfl), hw.get, ?_, fun k hk => ?_⟩
        · rw [hnew, repeat_rng]; congr 2
        · obtain ⟨jk, n', q1, q2, q3, q4, q5⟩ := hvs k hk
          exact ⟨jk, n', q1, q2, q3, q4, by rw [hw.others jk (by omega), GH.get_push ho', if_neg (by omega)]; exact q5⟩
      · rintro e g2 lo2 ho2 - ⟨hlo2, hk2, hnx2, he, hgJ, hgR, hrs⟩
        simp +decide (disch := first | assumption | (apply GH.ok_push; assumption) | exact cellV_int _ _ | exact cellV_bool _ | omega) only [go_sem, ↓reduceIte, Nat.reduceEqDiff, Nat.reduceAdd, Int.reduceToNat, he]
        refine ih (m - 1) _ _ _ (by omega) ⟨hlo2, hk2, by omega, i + 1, by omega, (by simp +decide (disch := first | assumption | (apply GH.ok_push; assumption) | exact cellV_int _ _ | exact cellV_bool _ | omega) only [go_sem, ↓reduceIte, Nat.reduceEqDiff, Nat.reduceAdd, Int.reduceToNat, he]; first | done | exact rfl), _, hgJ, by simp [hvl], fun k hk => ?_⟩
        by_cases hki : k = i
        · subst hki
          exact ⟨g'.next, n, by rw [List.getElem?_set_self (by omega)], hn2.symm, by omega, by omega, hgR⟩
        · obtain ⟨jk, n', q1, q2, q3, q4, q5⟩ := hrs k (by omega)
          exact ⟨jk, n', by rw [List.getElem?_set_ne (Ne.symm hki)]; exact q1, q2, q3, by omega, q5⟩
      · rintro m2 e g2 lo2 ho2 hl2 ih2 out2 ⟨hlo2, hk2, hnx2, c, hc, he, hgJ, hgR, hrs⟩
        by_cases cc : c < n
        · have hia2 := iaddrS_at (j := g'.next) (n := n) (c := n) (m := c) (x := (c : Int)) rfl cc
          obtain ⟨j3, o3, hj3, hr1, hr2⟩ := (hcol.kept hk2).ptr (colsL_get (L := L) (c := c) (by omega))
          have hr1 := hr1 (c : Int) rfl
          have hcb := cnt_bnd L c
          have hlen : (ints (rng n (fun k => if k < c then hookV L i k else 0))).length = n := by rw [ints_len, rng_len]
          have hgi : (vs.set i (.slice (some ⟨g'.next, 0, none⟩) n n))[i]? = some (.slice (some ⟨g'.next, 0, none⟩) n n) := by rw [List.getElem?_set_self (by omega)]
          have hval : 1 + ((n : Int) - c - 1) + (cnt L c - i - 1) = hookV L i c := by unfold hookV; omega
          simp +decide (disch := first | assumption | (apply GH.ok_push; assumption) | exact cellV_int _ _ | exact cellV_bool _ | omega) only [go_sem, ↓reduceIte, Nat.reduceEqDiff, Nat.reduceAdd, Int.reduceToNat, he, hia, hia2, hgJ, hgi, hgR, hlen, hr1, hr2, hval]
          have hw := Wrote.set (o := cellsOb (splice c (ints (rng n (fun k => if k < c then hookV L i k else 0))) [.int .i64 (hookV L i c)]) 3) hgR Nat.one_ne_zero ho2
          refine ih2 (m2 - 1) _ _ _ (by omega) ⟨by omega, hw.kept hk2 (by omega), hnx2, c + 1, by omega, (by simp +decide (disch := first | assumption | (apply GH.ok_push; assumption) | exact cellV_int _ _ | exact cellV_bool _ | omega) only [go_sem, ↓reduceIte, Nat.reduceEqDiff, Nat.reduceAdd, Int.reduceToNat, he]; first | done | exact rfl), by rw [hw.others G.next (by omega)]; exact hgJ, ?_, fun k hk => ?_⟩
          · rw [hw.get, splice_set _ _ _ (by omega), ints_set, rng_set]
            congr 2
            refine rng_congr fun k hk => ?_
            by_cases hkc : k = c
            · subst hkc; simp
            · rw [if_neg hkc]
              by_cases hkl : k < c
              · rw [if_pos hkl, if_pos (by omega)]
              · rw [if_neg hkl, if_neg (by omega)]
          · obtain ⟨jk, n', q1, q2, q3, q4, q5⟩ := hrs k hk
            exact ⟨jk, n', q1, q2, q3, q4, by rw [hw.others jk (by omega)]; exact q5⟩
        · simp +decide (disch := first | assumption | (apply GH.ok_push; assumption) | exact cellV_int _ _ | exact cellV_bool _ | omega) only [go_sem, ↓reduceIte, Nat.reduceEqDiff, Nat.reduceAdd, Int.reduceToNat, he]
          refine out2 _ _ _ ⟨hlo2, hk2, hnx2, (by simp +decide (disch := first | assumption | (apply GH.ok_push; assumption) | exact cellV_int _ _ | exact cellV_bool _ | omega) only [go_sem, ↓reduceIte, Nat.reduceEqDiff, Nat.reduceAdd, Int.reduceToNat, he]; first | done | exact rfl), hgJ, ?_, hrs⟩
          rw [hgR, hookRow, hn2]
          congr 2
          exact rng_congr fun k hk => by rw [if_pos (by omega)]
    · simp +decide (disch := first | assumption | (apply GH.ok_push; assumption) | exact cellV_int _ _ | exact cellV_bool _ | omega) only [go_sem, ↓reduceIte, Nat.reduceEqDiff, Nat.reduceAdd, Int.reduceToNat, he]
      refine out _ _ _ ⟨hlo, _, (by simp +decide (disch := first | assumption | (apply GH.ok_push; assumption) | exact cellV_int _ _ | exact cellV_bool _ | omega) only [go_sem, ↓reduceIte, Nat.reduceEqDiff, Nat.reduceAdd, Int.reduceToNat, he]; first | done | exact rfl), vs, SlR.whole hget hnx hvl.symm, by rw [hooksL_len]; omega, ?_⟩
      intro k u M hu hM
      have hkl : k < L.length := by have := (List.getElem?_eq_some_iff.1 hM).1; rwa [hooksL_len] at this
      rw [hooksL_get hkl] at hM
      cases hM
      obtain ⟨jk, n', q1, q2, q3, q4, q5⟩ := hvs k (by omega)
      rw [hu] at q1
      cases q1
      exact SlR.whole q5 q4 (by rw [ints_len, hookRow, rng_len, q2])
end Go.Proofs.Ytieliilnnfjijaa
set_option maxRecDepth 100000
set_option maxHeartbeats 4000000
set_option linter.unusedSimpArgs false
set_option linter.unusedVariables false
namespace Go.Proofs.Ytieliilnnfjijaa
open Go.Ds
theorem shape_facts {L : List Int} (h : isShape L = true) : L.length ≤ 12 ∧ desc 40 L = true ∧ sumL L ≤ 40 := by
  simp only [isShape, Bool.and_eq_true, decide_eq_true_eq] at h
  exact ⟨h.1.1, h.1.2, h.2⟩
def hooksT (L : List Int) : List (List Int) × Int := if isShape L = true then (hooksL L, 0) else ([], 2)
def beadsT (L : List Int) : List Int × Int := if isShape L = true then (beadsR L L.length, 0) else ([], 2)
def turnedT (L : List Int) : List Int × Int := if isShape L = true then (if 12 < head L then ([], 8) else (colsL L, 0)) else ([], 2)
def Ret2 (g : GH) (v : Value) (r : List (List Int) × Int) : Prop := ∃ u, v = .tuple #[u, .int .i64 r.2] ∧ Sl2 g u r.1
def Ret1 (g : GH) (v : Value) (r : List Int × Int) : Prop := ∃ u, v = .tuple #[u, .int .i64 r.2] ∧ SlR g u (ints r.1)
section
variable {X : Caller} (hX : Xok X) (L : List Int) (hL : L.length < 1000000) (s : Value) (g : GH) (hs : SlR g s (ints L))
include hX hL hs
theorem hooksT_rets : Rets Try.prog X 19 [s] g (fun v g' lo => g.next ≤ lo ∧ Ret2 g' v (hooksT L)) := by
  refine Rets.run hX.pres p19 (hX.free 19 (by decide) _ _) rfl fun ho => ?_
  simp +decide (disch := first | assumption | (apply GH.ok_push; assumption) | exact cellV_int _ _ | exact cellV_bool _ | omega) only [go_sem, ↓reduceIte, Nat.reduceEqDiff, Nat.reduceAdd, Int.reduceToNat]
  refine CallD.calm (isShape_rets hX L hL s g hs) ?_
  rintro v G hx rfl
  have hn := hx.next
  by_cases c : isShape L = true
  · obtain ⟨c1, c2, c3⟩ := shape_facts c
    simp +decide (disch := first | assumption | (apply GH.ok_push; assumption) | exact cellV_int _ _ | exact cellV_bool _ | omega) only [go_sem, ↓reduceIte, Nat.reduceEqDiff, Nat.reduceAdd, Int.reduceToNat, c]
    refine CallD.calm (hooks_rets hX L (by omega) c2 s G (hs.ext hx)) ?_
    rintro v G2 hx2 h
    have hn2 := hx2.next
    simp +decide (disch := first | assumption | (apply GH.ok_push; assumption) | exact cellV_int _ _ | exact cellV_bool _ | omega) only [go_sem, ↓reduceIte, Nat.reduceEqDiff, Nat.reduceAdd, Int.reduceToNat]
    intro hx0
    exact ⟨by omega, v, by rw [hooksT, if_pos c], by rw [hooksT, if_pos c]; exact h⟩
  · have c' : isShape L = false := by simpa using c
    simp +decide (disch := first | assumption | (apply GH.ok_push; assumption) | exact cellV_int _ _ | exact cellV_bool _ | omega) only [go_sem, ↓reduceIte, Nat.reduceEqDiff, Nat.reduceAdd, Int.reduceToNat, c']
    intro hx0
    exact ⟨by omega, _, by rw [hooksT, if_neg c], by rw [hooksT, if_neg c]; exact Sl2.nil⟩
theorem refHooksT_rets : Rets Try.prog X 20 [s] g (fun v g' lo => g.next ≤ lo ∧ Ret2 g' v (hooksT L)) := by
  refine Rets.run hX.pres p20 (hX.free 20 (by decide) _ _) rfl fun ho => ?_
  simp +decide (disch := first | assumption | (apply GH.ok_push; assumption) | exact cellV_int _ _ | exact cellV_bool _ | omega) only [go_sem, ↓reduceIte, Nat.reduceEqDiff, Nat.reduceAdd, Int.reduceToNat]
  refine CallD.calm (refIsShape_rets hX L hL s g hs) ?_
  rintro v G hx rfl
  have hn := hx.next
  by_cases c : isShape L = true
  · obtain ⟨c1, c2, c3⟩ := shape_facts c
    simp +decide (disch := first | assumption | (apply GH.ok_push; assumption) | exact cellV_int _ _ | exact cellV_bool _ | omega) only [go_sem, ↓reduceIte, Nat.reduceEqDiff, Nat.reduceAdd, Int.reduceToNat, c]
    refine CallD.calm (refLengths_rets hX L (by omega) c2 s G (hs.ext hx)) ?_
    rintro v G2 hx2 h
    have hn2 := hx2.next
    simp +decide (disch := first | assumption | (apply GH.ok_push; assumption) | exact cellV_int _ _ | exact cellV_bool _ | omega) only [go_sem, ↓reduceIte, Nat.reduceEqDiff, Nat.reduceAdd, Int.reduceToNat]
    intro hx0
    exact ⟨by omega, v, by rw [hooksT, if_pos c], by rw [hooksT, if_pos c]; exact h⟩
  · have c' : isShape L = false := by simpa using c
    simp +decide (disch := first | assumption | (apply GH.ok_push; assumption) | exact cellV_int _ _ | exact cellV_bool _ | omega) only [go_sem, ↓reduceIte, Nat.reduceEqDiff, Nat.reduceAdd, Int.reduceToNat, c']
    intro hx0
    exact ⟨by omega, _, by rw [hooksT, if_neg c], by rw [hooksT, if_neg c]; exact Sl2.nil⟩
theorem beadsT_rets : Rets Try.prog X 22 [s] g (fun v g' lo => g.next ≤ lo ∧ Ret1 g' v (beadsT L)) := by
  refine Rets.run hX.pres p22 (hX.free 22 (by decide) _ _) rfl fun ho => ?_
  have hl := hs.len
  rw [ints_len] at hl
  simp +decide (disch := first | assumption | (apply GH.ok_push; assumption) | exact cellV_int _ _ | exact cellV_bool _ | omega) only [go_sem, ↓reduceIte, Nat.reduceEqDiff, Nat.reduceAdd, Int.reduceToNat]
  refine CallD.calm (isShape_rets hX L hL s g hs) ?_
  rintro v G hx rfl
  have hn := hx.next
  by_cases c : isShape L = true
  · obtain ⟨c1, c2, c3⟩ := shape_facts c
    simp +decide (disch := first | assumption | (apply GH.ok_push; assumption) | exact cellV_int _ _ | exact cellV_bool _ | omega) only [go_sem, ↓reduceIte, Nat.reduceEqDiff, Nat.reduceAdd, Int.reduceToNat, c, hl]
    refine CallD.calm (beads_rets hX L (desc_fits c2 (by omega)) L.length (Nat.le_refl _) (by omega) s G (hs.ext hx)) ?_
    rintro v G2 hx2 h
    have hn2 := hx2.next
    simp +decide (disch := first | assumption | (apply GH.ok_push; assumption) | exact cellV_int _ _ | exact cellV_bool _ | omega) only [go_sem, ↓reduceIte, Nat.reduceEqDiff, Nat.reduceAdd, Int.reduceToNat]
    intro hx0
    exact ⟨by omega, v, by rw [beadsT, if_pos c], by rw [beadsT, if_pos c]; exact h⟩
  · have c' : isShape L = false := by simpa using c
    simp +decide (disch := first | assumption | (apply GH.ok_push; assumption) | exact cellV_int _ _ | exact cellV_bool _ | omega) only [go_sem, ↓reduceIte, Nat.reduceEqDiff, Nat.reduceAdd, Int.reduceToNat, c']
    intro hx0
    exact ⟨by omega, _, by rw [beadsT, if_neg c], by rw [beadsT, if_neg c]; exact SlR.nil⟩
theorem refBeadsT_rets : Rets Try.prog X 23 [s] g (fun v g' lo => g.next ≤ lo ∧ Ret1 g' v (beadsT L)) := by
  refine Rets.run hX.pres p23 (hX.free 23 (by decide) _ _) rfl fun ho => ?_
  simp +decide (disch := first | assumption | (apply GH.ok_push; assumption) | exact cellV_int _ _ | exact cellV_bool _ | omega) only [go_sem, ↓reduceIte, Nat.reduceEqDiff, Nat.reduceAdd, Int.reduceToNat]
  refine CallD.calm (refIsShape_rets hX L hL s g hs) ?_
  rintro v G hx rfl
  have hn := hx.next
  by_cases c : isShape L = true
  · obtain ⟨c1, c2, c3⟩ := shape_facts c
    simp +decide (disch := first | assumption | (apply GH.ok_push; assumption) | exact cellV_int _ _ | exact cellV_bool _ | omega) only [go_sem, ↓reduceIte, Nat.reduceEqDiff, Nat.reduceAdd, Int.reduceToNat, c]
    refine CallD.calm (refBeads_rets hX L (desc_fits c2 (by omega)) s G (hs.ext hx)) ?_
    rintro v G2 hx2 h
    have hn2 := hx2.next
    simp +decide (disch := first | assumption | (apply GH.ok_push; assumption) | exact cellV_int _ _ | exact cellV_bool _ | omega) only [go_sem, ↓reduceIte, Nat.reduceEqDiff, Nat.reduceAdd, Int.reduceToNat]
    intro hx0
    exact ⟨by omega, v, by rw [beadsT, if_pos c], by rw [beadsT, if_pos c]; exact h⟩
  · have c' : isShape L = false := by simpa using c
    simp +decide (disch := first | assumption | (apply GH.ok_push; assumption) | exact cellV_int _ _ | exact cellV_bool _ | omega) only [go_sem, ↓reduceIte, Nat.reduceEqDiff, Nat.reduceAdd, Int.reduceToNat, c']
    intro hx0
    exact ⟨by omega, _, by rw [beadsT, if_neg c], by rw [beadsT, if_neg c]; exact SlR.nil⟩
theorem turnedT_rets : Rets Try.prog X 25 [s] g (fun v g' lo => g.next ≤ lo ∧ Ret1 g' v (turnedT L)) := by
  refine Rets.run hX.pres p25 (hX.free 25 (by decide) _ _) rfl fun ho => ?_
  simp +decide (disch := first | assumption | (apply GH.ok_push; assumption) | exact cellV_int _ _ | exact cellV_bool _ | omega) only [go_sem, ↓reduceIte, Nat.reduceEqDiff, Nat.reduceAdd, Int.reduceToNat]
  refine CallD.calm (isShape_rets hX L hL s g hs) ?_
  rintro v G hx rfl
  have hn := hx.next
  by_cases c : isShape L = true
  · obtain ⟨c1, c2, c3⟩ := shape_facts c
    simp +decide (disch := first | assumption | (apply GH.ok_push; assumption) | exact cellV_int _ _ | exact cellV_bool _ | omega) only [go_sem, ↓reduceIte, Nat.reduceEqDiff, Nat.reduceAdd, Int.reduceToNat, c]
    refine CallD.calm (columns_rets hX L (by omega) c2 s G (hs.ext hx)) ?_
    rintro v G2 hx2 h
    have hn2 := hx2.next
    have hlv := h.len
    rw [ints_len, colsL, rng_len] at hlv
    by_cases d : 12 < head L
    · simp +decide (disch := first | assumption | (apply GH.ok_push; assumption) | exact cellV_int _ _ | exact cellV_bool _ | omega) only [go_sem, ↓reduceIte, Nat.reduceEqDiff, Nat.reduceAdd, Int.reduceToNat, hlv]
      intro hx0
      exact ⟨by omega, _, by rw [turnedT, if_pos c, if_pos d], by rw [turnedT, if_pos c, if_pos d]; exact SlR.nil⟩
    · simp +decide (disch := first | assumption | (apply GH.ok_push; assumption) | exact cellV_int _ _ | exact cellV_bool _ | omega) only [go_sem, ↓reduceIte, Nat.reduceEqDiff, Nat.reduceAdd, Int.reduceToNat, hlv]
      intro hx0
      exact ⟨by omega, v, by rw [turnedT, if_pos c, if_neg d], by rw [turnedT, if_pos c, if_neg d]; exact h⟩
  · have c' : isShape L = false := by simpa using c
    simp +decide (disch := first | assumption | (apply GH.ok_push; assumption) | exact cellV_int _ _ | exact cellV_bool _ | omega) only [go_sem, ↓reduceIte, Nat.reduceEqDiff, Nat.reduceAdd, Int.reduceToNat, c']
    intro hx0
    exact ⟨by omega, _, by rw [turnedT, if_neg c], by rw [turnedT, if_neg c]; exact SlR.nil⟩
theorem refTurnedT_rets : Rets Try.prog X 26 [s] g (fun v g' lo => g.next ≤ lo ∧ Ret1 g' v (turnedT L)) := by
  refine Rets.run hX.pres p26 (hX.free 26 (by decide) _ _) rfl fun ho => ?_
  simp +decide (disch := first | assumption | (apply GH.ok_push; assumption) | exact cellV_int _ _ | exact cellV_bool _ | omega) only [go_sem, ↓reduceIte, Nat.reduceEqDiff, Nat.reduceAdd, Int.reduceToNat]
  refine CallD.calm (refIsShape_rets hX L hL s g hs) ?_
  rintro v G hx rfl
  have hn := hx.next
  by_cases c : isShape L = true
  · obtain ⟨c1, c2, c3⟩ := shape_facts c
    simp +decide (disch := first | assumption | (apply GH.ok_push; assumption) | exact cellV_int _ _ | exact cellV_bool _ | omega) only [go_sem, ↓reduceIte, Nat.reduceEqDiff, Nat.reduceAdd, Int.reduceToNat, c]
    refine CallD.calm (refColumns_rets hX L (by omega) c2 s G (hs.ext hx)) ?_
    rintro v G2 hx2 h
    have hn2 := hx2.next
    have hlv := h.len
    rw [ints_len, colsL, rng_len] at hlv
    by_cases d : 12 < head L
    · simp +decide (disch := first | assumption | (apply GH.ok_push; assumption) | exact cellV_int _ _ | exact cellV_bool _ | omega) only [go_sem, ↓reduceIte, Nat.reduceEqDiff, Nat.reduceAdd, Int.reduceToNat, hlv]
      intro hx0
      exact ⟨by omega, _, by rw [turnedT, if_pos c, if_pos d], by rw [turnedT, if_pos c, if_pos d]; exact SlR.nil⟩
    · simp +decide (disch := first | assumption | (apply GH.ok_push; assumption) | exact cellV_int _ _ | exact cellV_bool _ | omega) only [go_sem, ↓reduceIte, Nat.reduceEqDiff, Nat.reduceAdd, Int.reduceToNat, hlv]
      intro hx0
      exact ⟨by omega, v, by rw [turnedT, if_pos c, if_neg d], by rw [turnedT, if_pos c, if_neg d]; exact h⟩
  · have c' : isShape L = false := by simpa using c
    simp +decide (disch := first | assumption | (apply GH.ok_push; assumption) | exact cellV_int _ _ | exact cellV_bool _ | omega) only [go_sem, ↓reduceIte, Nat.reduceEqDiff, Nat.reduceAdd, Int.reduceToNat, c']
    intro hx0
    exact ⟨by omega, _, by rw [turnedT, if_neg c], by rw [turnedT, if_neg c]; exact SlR.nil⟩
end
theorem hooksT_small (L : List Int) : (hooksT L).1.length < 1000000 ∧ ∀ M ∈ (hooksT L).1, M.length < 1000000 := by
  unfold hooksT
  split
  · rename_i c
    obtain ⟨c1, c2, c3⟩ := shape_facts c
    refine ⟨by rw [hooksL_len]; omega, fun M hM => ?_⟩
    simp only [hooksL, List.mem_map, List.mem_range] at hM
    obtain ⟨r, hr, rfl⟩ := hM
    have := desc_getD c2 hr
    rw [hookRow, rng_len]; omega
  · simp
theorem beadsT_small (L : List Int) : (beadsT L).1.length < 1000000 := by
  unfold beadsT
  split
  · rename_i c
    obtain ⟨c1, c2, c3⟩ := shape_facts c
    rw [beadsR_len]; omega
  · simp
theorem turnedT_small (L : List Int) : (turnedT L).1.length < 1000000 := by
  unfold turnedT
  split
  · split
    · simp
    · rw [colsL, rng_len]; omega
  · simp
theorem ext0 (u w : Value) : extF (.tuple #[u, w]) 0 = some u := rfl
theorem ext1 (u w : Value) : extF (.tuple #[u, w]) 1 = some w := rfl
/-- The law of the shapes. -/
theorem shapesLaw_rets {X : Caller} (hX : Xok X) (L : List Int) (s : Value) (g : GH) (hs : SlR g s (ints L)) :
    Rets Try.prog X 3 [s] g (fun v g' lo => g.next ≤ lo ∧ v = .bool true) := by
  refine Rets.run hX.pres p3 (hX.free 3 (by decide) _ _) rfl fun ho => ?_
  have hl := hs.len
  rw [ints_len] at hl
  simp +decide (disch := first | assumption | (apply GH.ok_push; assumption) | exact cellV_int _ _ | exact cellV_bool _ | omega) only [go_sem, ↓reduceIte, Nat.reduceEqDiff, Nat.reduceAdd, Int.reduceToNat]
  refine CallD.calm (few_rets hX L [] s _ g hs Sl2.nil) ?_
  rintro v G hx rfl
  have hn := hx.next
  have hok := hx.ok ho
  have hs1 := hs.ext hx
  by_cases c : L.length ≤ 60
  · have hf : fewB L [] = true := by simp [fewB, c]
    simp +decide (disch := first | assumption | (apply GH.ok_push; assumption) | exact cellV_int _ _ | exact cellV_bool _ | omega) only [go_sem, ↓reduceIte, Nat.reduceEqDiff, Nat.reduceAdd, Int.reduceToNat, hf]
    refine AppD.copy (vs := []) (new := ints L) (j := G.next) (cells := []) (t' := 3) (by rw [GH.get_push hok, if_pos rfl]) rfl (Nat.le_refl _) (Nat.lt_succ_self _) (hs1.push hok _) (by rw [ints_len]; simp; omega) (GH.ok_push hok) ?_
    intro own G1 sp wr hk1 hok1 hown
    rw [List.nil_append] at hown
    have hk1 := ((Kept.refl G).push hok _).trans hk1
    have hn1 := hk1.next
    have hs2 := hs1.kept hk1
    simp +decide (disch := first | assumption | (apply GH.ok_push; assumption) | exact cellV_int _ _ | exact cellV_bool _ | omega) only [go_sem, ↓reduceIte, Nat.reduceEqDiff, Nat.reduceAdd, Int.reduceToNat]
    refine CallD.calm (isShape_rets hX L (by omega) own G1 hown) ?_
    rintro v G2 hx2 rfl
    have hn2 := hx2.next
    simp +decide (disch := first | assumption | (apply GH.ok_push; assumption) | exact cellV_int _ _ | exact cellV_bool _ | omega) only [go_sem, ↓reduceIte, Nat.reduceEqDiff, Nat.reduceAdd, Int.reduceToNat]
    refine CallD.calm (refIsShape_rets hX L (by omega) s G2 (hs2.ext hx2)) ?_
    rintro v G3 hx3 rfl
    have hn3 := hx3.next
    have hk3 := (hx2.kept.ext hx3)
    have heq : eqBF true (.bool (isShape L)) (.bool (isShape L)) = some (.bool false) := by cases isShape L <;> rfl
    simp +decide (disch := first | assumption | (apply GH.ok_push; assumption) | exact cellV_int _ _ | exact cellV_bool _ | omega) only [go_sem, ↓reduceIte, Nat.reduceEqDiff, Nat.reduceAdd, Int.reduceToNat, heq]
    refine CallD.calm (hooksT_rets hX L (by omega) own G3 (hown.kept hk3)) ?_
    rintro v G4 hx4 ⟨a, rfl, ha⟩
    have hn4 := hx4.next
    have hk4 := hk3.ext hx4
    simp +decide (disch := first | assumption | (apply GH.ok_push; assumption) | exact cellV_int _ _ | exact cellV_bool _ | omega) only [go_sem, ↓reduceIte, Nat.reduceEqDiff, Nat.reduceAdd, Int.reduceToNat, ext0, ext1]
    refine CallD.calm (refHooksT_rets hX L (by omega) s G4 (hs2.kept hk4)) ?_
    rintro v G5 hx5 ⟨b, rfl, hb⟩
    have hn5 := hx5.next
    have hk5 := hk4.ext hx5
    simp +decide (disch := first | assumption | (apply GH.ok_push; assumption) | exact cellV_int _ _ | exact cellV_bool _ | omega) only [go_sem, ↓reduceIte, Nat.reduceEqDiff, Nat.reduceAdd, Int.reduceToNat, ext0, ext1]
    obtain ⟨m1, m2⟩ := hooksT_small L
    refine CallD.calm (shapes_rets hX _ _ m1 m1 m2 m2 a b G5 (ha.kept hx5.kept) hb) ?_
    rintro v G6 hx6 rfl
    have hn6 := hx6.next
    have hk6 := hk5.ext hx6
    rw [decide_eq_true rfl]
    simp +decide (disch := first | assumption | (apply GH.ok_push; assumption) | exact cellV_int _ _ | exact cellV_bool _ | omega) only [go_sem, ↓reduceIte, Nat.reduceEqDiff, Nat.reduceAdd, Int.reduceToNat]
    refine CallD.calm (beadsT_rets hX L (by omega) own G6 (hown.kept hk6)) ?_
    rintro v G7 hx7 ⟨a2, rfl, ha2⟩
    have hn7 := hx7.next
    have hk7 := hk6.ext hx7
    simp +decide (disch := first | assumption | (apply GH.ok_push; assumption) | exact cellV_int _ _ | exact cellV_bool _ | omega) only [go_sem, ↓reduceIte, Nat.reduceEqDiff, Nat.reduceAdd, Int.reduceToNat, ext0, ext1]
    refine CallD.calm (refBeadsT_rets hX L (by omega) s G7 (hs2.kept hk7)) ?_
    rintro v G8 hx8 ⟨b2, rfl, hb2⟩
    have hn8 := hx8.next
    have hk8 := hk7.ext hx8
    simp +decide (disch := first | assumption | (apply GH.ok_push; assumption) | exact cellV_int _ _ | exact cellV_bool _ | omega) only [go_sem, ↓reduceIte, Nat.reduceEqDiff, Nat.reduceAdd, Int.reduceToNat, ext0, ext1]
    refine CallD.calm (same_rets hX _ _ (beadsT_small L) (beadsT_small L) a2 b2 G8 (ha2.kept hx8.kept) hb2) ?_
    rintro v G9 hx9 rfl
    have hn9 := hx9.next
    have hk9 := hk8.ext hx9
    rw [decide_eq_true rfl]
    simp +decide (disch := first | assumption | (apply GH.ok_push; assumption) | exact cellV_int _ _ | exact cellV_bool _ | omega) only [go_sem, ↓reduceIte, Nat.reduceEqDiff, Nat.reduceAdd, Int.reduceToNat]
    refine CallD.calm (turnedT_rets hX L (by omega) own G9 (hown.kept hk9)) ?_
    rintro v G10 hx10 ⟨a3, rfl, ha3⟩
    have hn10 := hx10.next
    have hk10 := hk9.ext hx10
    simp +decide (disch := first | assumption | (apply GH.ok_push; assumption) | exact cellV_int _ _ | exact cellV_bool _ | omega) only [go_sem, ↓reduceIte, Nat.reduceEqDiff, Nat.reduceAdd, Int.reduceToNat, ext0, ext1]
    refine CallD.calm (refTurnedT_rets hX L (by omega) s G10 (hs2.kept hk10)) ?_
    rintro v G11 hx11 ⟨b3, rfl, hb3⟩
    have hn11 := hx11.next
    have hk11 := hk10.ext hx11
    simp +decide (disch := first | assumption | (apply GH.ok_push; assumption) | exact cellV_int _ _ | exact cellV_bool _ | omega) only [go_sem, ↓reduceIte, Nat.reduceEqDiff, Nat.reduceAdd, Int.reduceToNat, ext0, ext1]
    refine CallD.calm (same_rets hX _ _ (turnedT_small L) (turnedT_small L) a3 b3 G11 (ha3.kept hx11.kept) hb3) ?_
    rintro v G12 hx12 rfl
    have hn12 := hx12.next
    have hk12 := hk11.ext hx12
    rw [decide_eq_true rfl]
    simp +decide (disch := first | assumption | (apply GH.ok_push; assumption) | exact cellV_int _ _ | exact cellV_bool _ | omega) only [go_sem, ↓reduceIte, Nat.reduceEqDiff, Nat.reduceAdd, Int.reduceToNat]
    refine CallD.calm (same_rets hX L L (by omega) (by omega) own s G12 (hown.kept hk12) (hs2.kept hk12)) ?_
    rintro v G13 hx13 rfl
    have hn13 := hx13.next
    rw [decide_eq_true rfl]
    simp +decide (disch := first | assumption | (apply GH.ok_push; assumption) | exact cellV_int _ _ | exact cellV_bool _ | omega) only [go_sem, ↓reduceIte, Nat.reduceEqDiff, Nat.reduceAdd, Int.reduceToNat]
    refine CallD.calm (hX.alive G13) ?_
    rintro v G14 hx14 rfl
    have hn14 := hx14.next
    simp +decide (disch := first | assumption | (apply GH.ok_push; assumption) | exact cellV_int _ _ | exact cellV_bool _ | omega) only [go_sem, ↓reduceIte, Nat.reduceEqDiff, Nat.reduceAdd, Int.reduceToNat]
    intro hx0
    exact ⟨by omega, rfl⟩
  · have hf : fewB L [] = false := by simp [fewB, c]
    simp +decide (disch := first | assumption | (apply GH.ok_push; assumption) | exact cellV_int _ _ | exact cellV_bool _ | omega) only [go_sem, ↓reduceIte, Nat.reduceEqDiff, Nat.reduceAdd, Int.reduceToNat, hf]
    refine CallD.calm (hX.alive G) ?_
    rintro v G1 hx1 rfl
    have hn1 := hx1.next
    simp +decide (disch := first | assumption | (apply GH.ok_push; assumption) | exact cellV_int _ _ | exact cellV_bool _ | omega) only [go_sem, ↓reduceIte, Nat.reduceEqDiff, Nat.reduceAdd, Int.reduceToNat]
    intro hx0
    exact ⟨by omega, rfl⟩
end Go.Proofs.Ytieliilnnfjijaa
