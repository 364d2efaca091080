import Derived.Test.YtdanjjhgfkfghaaK3
import Derived.Test.YtdanjjhgfkfghaaKd
import Derived.Test.YtdanjjhgfkfghaaDtO
set_option linter.all false
set_option linter.unusedSimpArgs false
set_option linter.unnecessarySimpa false
set_option linter.unusedVariables false
set_option linter.unusedSectionVars false
set_option maxRecDepth 100000
set_option maxHeartbeats 8000000
set_option linter.unusedSimpArgs false
set_option linter.unusedVariables false
namespace Go.Proofs.Ytdanjjhgfkfghaa
open Go.Ds
/-! ## The greatest bend, and the root -/
/-- Where the greatest of the first numbers stands, the last one of several. -/
def greN (Q : List Int) : Nat → Nat
  | 0 => 0
  | k + 1 => if Q.getD (greN Q k) 0 ≤ Q.getD k 0 then k else greN Q k
def gre (Q : List Int) : Nat := greN Q 4
theorem greN_lt (Q : List Int) : ∀ k, greN Q (k + 1) < k + 1
  | 0 => by unfold greN; split <;> simp [greN]
  | k + 1 => by
    have := greN_lt Q k
    rw [greN]; split <;> omega
theorem greN_one (Q : List Int) : greN Q 1 = 0 := Nat.lt_one_iff.1 (greN_lt Q 0)
theorem gre_lt (Q : List Int) : gre Q < 4 := greN_lt Q 3
theorem greN_le (Q : List Int) : ∀ k i, i < k → Q.getD i 0 ≤ Q.getD (greN Q k) 0
  | 0, i, h => by omega
  | k + 1, i, h => by
    rw [greN]
    by_cases c : i = k
    · subst c; split
      · exact Int.le_refl _
      · omega
    · have := greN_le Q k i (by omega)
      split <;> omega
theorem idx_quad {Q : List Int} (h : Q.length = 4) {k : Nat} (hk : k < 4) : idxAF 4 1 false (.agg (ints Q).toArray) (.int .i64 (k : Int)) = some (.int .i64 (Q.getD k 0)) := by
  match Q, h, k, hk with
  | [a, b, c, d], _, 0, _ => rfl
  | [a, b, c, d], _, 1, _ => rfl
  | [a, b, c, d], _, 2, _ => rfl
  | [a, b, c, d], _, 3, _ => rfl
theorem greatest_rets {X : Caller} (hX : Xok X) (Q : List Int) (hQl : Q.length = 4) (g : GH) :
    Rets Try.prog X 74 [.agg (ints Q).toArray] g (fun v g' lo => g.next ≤ lo ∧ v = .int .i64 (gre Q : Nat)) := by
  refine Rets.run hX.pres p74 (hX.free 74 (by decide) (by decide) (by decide) _ _) rfl fun ho => ?_
  simp +decide only [dseq, dreg, dbox, dalloc, nV_eq, cellsOf, tick, ev_put, ev_fill, ev_fill0, ev_none, ↓reduceIte, Nat.reduceEqDiff, Nat.reduceAdd]
  obtain ⟨hk0, hok, hnx, g1⟩ := boxQ ho Q 23
  generalize g.push (cellsOb (ints Q) 23) = G at *
  simp +decide (disch := first | assumption | (apply GH.ok_push; assumption) | exact cellV_int _ _ | exact cellV_bool _ | omega) only [go_sem, ↓reduceIte, Nat.reduceEqDiff, Nat.reduceAdd, Int.reduceToNat, g1]
  refine Wk.loops (fun m e g' lo => g' = G ∧ g.next ≤ lo ∧ ∃ k : Nat, k + m = 4 ∧ (ev e (.s 1) = ptrTo g.next ∧ ev e (.s 3) = .int .i64 (greN Q k : Nat) ∧ ev e (.s 6) = .agg (ints Q).toArray ∧ ev e (.s 7) = .int .i64 k))
    (fun e g' lo => g' = G ∧ g.next ≤ lo ∧ ev e (.s 3) = .int .i64 (gre Q : Nat)) (n := 4) ?_ ?_ ?_
  · exact ⟨rfl, Nat.le_refl _, 0, rfl, (by simp +decide (disch := first | assumption | (apply GH.ok_push; assumption) | exact cellV_int _ _ | exact cellV_bool _ | omega) only [go_sem, ↓reduceIte, Nat.reduceEqDiff, Nat.reduceAdd, Int.reduceToNat, greN]; first | done | exact rfl)⟩
  · rintro e g' lo - - ⟨rfl, hlo, h⟩
    simp +decide (disch := first | assumption | (apply GH.ok_push; assumption) | exact cellV_int _ _ | exact cellV_bool _ | omega) only [go_sem, ↓reduceIte, Nat.reduceEqDiff, Nat.reduceAdd, Int.reduceToNat, h]
    intro hx
    exact ⟨hlo, rfl⟩
  · rintro m e g' lo ho' hl' ih out ⟨rfl, hlo, k, hk, he⟩
    by_cases c : k < 4
    · have hx : idxAF 4 1 false (.agg (ints Q).toArray) (.int .i64 (k : Int)) = some (.int .i64 (Q.getD k 0)) := idx_quad hQl c
      have hgl : greN Q k < 4 := by
        cases k with
        | zero => exact Nat.zero_lt_succ _
        | succ k => have := greN_lt Q k; omega
      have xk := iaddrA_at (j := g.next) (n := 4) (m := greN Q k) (x := ((greN Q k : Nat) : Int)) rfl hgl
      have lk := fun lo => load_one (lo := lo) g1 (ints_get (D := Q) (i := greN Q k) (by omega))
      by_cases d : Q.getD (greN Q k) 0 ≤ Q.getD k 0
      · simp +decide (disch := first | assumption | (apply GH.ok_push; assumption) | exact cellV_int _ _ | exact cellV_bool _ | omega) only [go_sem, ↓reduceIte, Nat.reduceEqDiff, Nat.reduceAdd, Int.reduceToNat, he, hx, xk, lk]
        refine ih (m - 1) _ _ _ (by omega) ⟨rfl, hlo, k + 1, by omega, ?_⟩
        rw [greN, if_pos d]
        simp +decide (disch := first | assumption | (apply GH.ok_push; assumption) | exact cellV_int _ _ | exact cellV_bool _ | omega) only [go_sem, ↓reduceIte, Nat.reduceEqDiff, Nat.reduceAdd, Int.reduceToNat, he]
      · simp +decide (disch := first | assumption | (apply GH.ok_push; assumption) | exact cellV_int _ _ | exact cellV_bool _ | omega) only [go_sem, ↓reduceIte, Nat.reduceEqDiff, Nat.reduceAdd, Int.reduceToNat, he, hx, xk, lk]
        refine ih (m - 1) _ _ _ (by omega) ⟨rfl, hlo, k + 1, by omega, ?_⟩
        rw [greN, if_neg d]
        simp +decide (disch := first | assumption | (apply GH.ok_push; assumption) | exact cellV_int _ _ | exact cellV_bool _ | omega) only [go_sem, ↓reduceIte, Nat.reduceEqDiff, Nat.reduceAdd, Int.reduceToNat, he]
    · simp +decide (disch := first | assumption | (apply GH.ok_push; assumption) | exact cellV_int _ _ | exact cellV_bool _ | omega) only [go_sem, ↓reduceIte, Nat.reduceEqDiff, Nat.reduceAdd, Int.reduceToNat, he]
      refine out _ _ _ ⟨rfl, hlo, ?_⟩
      rw [gre, show 4 = k by omega]
      simp +decide (disch := first | assumption | (apply GH.ok_push; assumption) | exact cellV_int _ _ | exact cellV_bool _ | omega) only [go_sem, ↓reduceIte, Nat.reduceEqDiff, Nat.reduceAdd, Int.reduceToNat, he]
end Go.Proofs.Ytdanjjhgfkfghaa
set_option maxRecDepth 100000
set_option maxHeartbeats 8000000
set_option linter.unusedSimpArgs false
set_option linter.unusedVariables false
namespace Go.Proofs.Ytdanjjhgfkfghaa
open Go.Ds
/-! ## What a turn does to a quad, and the root -/
theorem pair_nonneg (a b c d : Int) (hs : 0 < a + b + c + d) (h : (a + b + c + d) * (a + b + c + d) = 2 * (a * a + b * b + c * c + d * d)) : 0 ≤ a + b := by
  rcases Int.lt_or_le (a + b) 0 with hn | hn
  · exfalso
    have h1 := sq_nonneg' (a - b)
    have h2 := sq_nonneg' (c - d)
    have h3 : (a + b) * (c + d) < 0 := Int.mul_neg_of_neg_of_pos hn (by omega)
    have e : (a - b) * (a - b) + (c - d) * (c - d) = 2 * ((a + b) * (c + d)) := by grind
    omega
  · exact hn
theorem turn_pair (x y z q : Int) (hs : 0 < x + y + z + q) (h : (x + y + z + q) * (x + y + z + q) = 2 * (x * x + y * y + z * z + q * q)) : 0 ≤ (2 * (x + y + z) - q) + x := by
  have p := still_pos (x + y + z) q (2 * (x + y + z) - q) (x * x + y * y + z * z) x y z rfl rfl hs h rfl
  have e := both (x + y + z) q (2 * (x + y + z) - q) (x * x + y * y + z * z) 0 h rfl
  exact pair_nonneg (2 * (x + y + z) - q) x y z (by omega) (by grind)
theorem turned_inR {Q : List Int} (hl : Q.length = 4) (hq : isQ Q = true) {k : Nat} (hk : k < 4) (hle : turned Q k ≤ Q.getD k 0) : inR (turned Q k) = true := by
  have hall := isQ_all hq
  have b0 := inR_getD hall 0
  have b1 := inR_getD hall 1
  have b2 := inR_getD hall 2
  have b3 := inR_getD hall 3
  have bk := inR_getD hall k
  rw [inR_iff]
  refine ⟨?_, by omega⟩
  simp only [isQ, Bool.and_eq_true, decide_eq_true_eq] at hq
  obtain ⟨_, hs, he⟩ := hq
  match Q, hl with
  | [a, b, c, d], _ =>
    have hk4 : k = 0 ∨ k = 1 ∨ k = 2 ∨ k = 3 := by omega
    simp only [sum1, sum2] at hs he
    simp only [List.getD_cons_zero, List.getD_cons_succ] at b0 b1 b2 b3
    rcases hk4 with rfl | rfl | rfl | rfl <;> simp only [turned, sum1, List.getD_cons_zero, List.getD_cons_succ]
    · have := turn_pair b c d a (by omega) (by grind)
      omega
    · have := turn_pair a c d b (by omega) (by grind)
      omega
    · have := turn_pair a b d c (by omega) (by grind)
      omega
    · have := turn_pair a b c d (by omega) (by grind)
      omega
theorem sum1_set : ∀ (Q : List Int) (k : Nat) (x : Int), k < Q.length → sum1 (Q.set k x) = sum1 Q - Q.getD k 0 + x
  | [], k, x, h => by simp at h
  | a :: Q, 0, x, _ => by simp [sum1]; omega
  | a :: Q, k + 1, x, h => by
    have := sum1_set Q k x (by simpa using h)
    simp only [List.set_cons_succ, sum1, List.getD_cons_succ]
    omega
/-- The greatest bend is turned as long as this makes it less; how often. -/
def rootL (Q : List Int) : List Int × Nat :=
  if h : Q.length = 4 ∧ 0 < sum1 Q ∧ turned Q (gre Q) < Q.getD (gre Q) 0 then ((rootL (Q.set (gre Q) (turned Q (gre Q)))).1, (rootL (Q.set (gre Q) (turned Q (gre Q)))).2 + 1) else (Q, 0)
termination_by (sum1 Q).toNat
decreasing_by
  all_goals
    have hg := gre_lt Q
    rw [sum1_set Q (gre Q) _ (by omega)]
    omega
theorem isQ_pos {Q : List Int} (hq : isQ Q = true) : 0 < sum1 Q := by
  simp only [isQ, Bool.and_eq_true, decide_eq_true_eq] at hq
  exact hq.2.1
theorem rootL_stop {Q : List Int} (h : Q.getD (gre Q) 0 ≤ turned Q (gre Q)) : rootL Q = (Q, 0) := by
  rw [rootL, dif_neg (by omega)]
theorem rootL_step {Q : List Int} (hl : Q.length = 4) (hq : isQ Q = true) (h : turned Q (gre Q) < Q.getD (gre Q) 0) : rootL Q = ((rootL (Q.set (gre Q) (turned Q (gre Q)))).1, (rootL (Q.set (gre Q) (turned Q (gre Q)))).2 + 1) := by
  rw [rootL, dif_pos ⟨hl, isQ_pos hq, h⟩]
end Go.Proofs.Ytdanjjhgfkfghaa
set_option maxRecDepth 100000
set_option maxHeartbeats 8000000
set_option linter.unusedSimpArgs false
set_option linter.unusedVariables false
namespace Go.Proofs.Ytdanjjhgfkfghaa
open Go.Ds
/-! ## Sorting a short row -/
def Srt (L : List Int) : Prop := ∀ p q, p < q → q < L.length → L.getD p 0 ≤ L.getD q 0
theorem getD_get {L : List Int} {i : Nat} (h : i < L.length) : L.getD i 0 = L[i] := by simp [h]
theorem Srt.pairwise {L : List Int} (h : Srt L) : L.Pairwise (· ≤ ·) := by
  rw [List.pairwise_iff_getElem]
  intro i j hi hj hij
  have := h i j hij hj
  rw [getD_get hi, getD_get hj] at this
  exact this
theorem Srt.unique {A B : List Int} (ha : Srt A) (hb : Srt B) (hp : A.Perm B) : A = B :=
  List.Perm.eq_of_pairwise (le := (· ≤ ·)) (fun a b _ _ h1 h2 => Int.le_antisymm h1 h2) ha.pairwise hb.pairwise hp
/-- The numbers at two places exchanged. -/
def swp (L : List Int) (i j : Nat) : List Int := (L.set i (L.getD j 0)).set j (L.getD i 0)
theorem swp_len (L : List Int) (i j : Nat) : (swp L i j).length = L.length := by simp [swp]
theorem getD_set' {L : List Int} {i k : Nat} {x : Int} (h : i < L.length) : (L.set i x).getD k 0 = if k = i then x else L.getD k 0 := by
  rw [List.getD_eq_getElem?_getD, List.getElem?_set, List.getD_eq_getElem?_getD]
  by_cases c : k = i
  · subst c; simp [h]
  · rw [if_neg (Ne.symm c), if_neg c]
theorem swp_get {L : List Int} {i j : Nat} (hi : i < L.length) (hj : j < L.length) (k : Nat) : (swp L i j).getD k 0 = if k = j then L.getD i 0 else if k = i then L.getD j 0 else L.getD k 0 := by
  rw [swp, getD_set' (by simpa using hj), getD_set' hi]
theorem swp_perm {L : List Int} {i j : Nat} (hi : i < L.length) (hj : j < L.length) (hne : i ≠ j) : (swp L i j).Perm L := by
  rw [List.perm_iff_count]
  intro a
  have hj' : j < (L.set i (L.getD j 0)).length := by simpa using hj
  rw [swp, List.count_set hj', List.count_set hi]
  have e1 : (L.set i (L.getD j 0))[j]'hj' = L[j] := by rw [List.getElem_set_ne hne]
  rw [e1, getD_get hi, getD_get hj]
  have c1 : L[i] ∈ L := List.getElem_mem hi
  have p1 : L[i] = a → 0 < List.count a L := fun h => List.count_pos_iff.2 (h ▸ c1)
  by_cases a1 : L[i] = a
  · have := p1 a1
    by_cases a2 : L[j] = a <;> simp [a1, a2] <;> omega
  · by_cases a2 : L[j] = a <;> simp [a1, a2]
theorem splice_ints {L : List Int} {i : Nat} {x : Int} (h : i < L.length) : splice i (ints L) [.int .i64 x] = ints (L.set i x) := by
  rw [splice_set _ _ _ (by rw [ints_len]; exact h), ints_set]
theorem isNaN_rets {X : Caller} (hX : Xok X) (x : Int) (g : GH) : Rets Try.prog X 85 [.int .i64 x] g (fun v g' lo => g.next ≤ lo ∧ v = .bool false) := by
  refine Rets.run hX.pres p85 (hX.free 85 (by decide) (by decide) (by decide) _ _) rfl fun ho => ?_
  simp +decide (disch := first | assumption | (apply GH.ok_push; assumption) | exact cellV_int _ _ | exact cellV_bool _ | omega) only [go_sem, ↓reduceIte, Nat.reduceEqDiff, Nat.reduceAdd, Int.reduceToNat, eq_self]
  intro hx
  exact ⟨Nat.le_refl _, rfl⟩
theorem cmpLess_rets {X : Caller} (hX : Xok X) (x y : Int) (g : GH) : Rets Try.prog X 72 [.int .i64 x, .int .i64 y] g (fun v g' lo => g.next ≤ lo ∧ v = .bool (decide (x < y))) := by
  refine Rets.run hX.pres p72 (hX.free 72 (by decide) (by decide) (by decide) _ _) rfl fun ho => ?_
  simp +decide (disch := first | assumption | (apply GH.ok_push; assumption) | exact cellV_int _ _ | exact cellV_bool _ | omega) only [go_sem, ↓reduceIte, Nat.reduceEqDiff, Nat.reduceAdd, Int.reduceToNat]
  refine CallD.calm (isNaN_rets hX x g) ?_
  rintro v G hx rfl
  have hn := hx.next
  by_cases c : x < y
  · simp +decide (disch := first | assumption | (apply GH.ok_push; assumption) | exact cellV_int _ _ | exact cellV_bool _ | omega) only [go_sem, ↓reduceIte, Nat.reduceEqDiff, Nat.reduceAdd, Int.reduceToNat]
    intro hx0
    exact ⟨by omega, by first | rfl | simp [c]⟩
  · simp +decide (disch := first | assumption | (apply GH.ok_push; assumption) | exact cellV_int _ _ | exact cellV_bool _ | omega) only [go_sem, ↓reduceIte, Nat.reduceEqDiff, Nat.reduceAdd, Int.reduceToNat]
    intro hx0
    exact ⟨by omega, by first | rfl | simp [c]⟩
/-- A prefix is sorted but for one place. -/
def Ins (L : List Int) (i j : Nat) : Prop := ∀ p q, p < q → q ≤ i → q ≠ j → L.getD p 0 ≤ L.getD q 0
theorem Ins.done {L : List Int} {i j : Nat} (h : Ins L i j) (hj : j = 0 ∨ L.getD (j - 1) 0 ≤ L.getD j 0) : ∀ p q, p < q → q ≤ i → L.getD p 0 ≤ L.getD q 0 := by
  intro p q hpq hq
  by_cases c : q = j
  · subst c
    rcases hj with hj | hj
    · omega
    · by_cases c2 : p = q - 1
      · rw [c2]; exact hj
      · have := h p (q - 1) (by omega) (by omega) (by omega)
        omega
  · exact h p q hpq hq c
theorem Ins.step {L : List Int} {i j : Nat} (h : Ins L i j) (hj : 0 < j) (hji : j ≤ i) (hi : i < L.length) (hlt : L.getD j 0 < L.getD (j - 1) 0) : Ins (swp L j (j - 1)) i (j - 1) := by
  intro p q hpq hq hne
  have e := swp_get (L := L) (i := j) (j := j - 1) (by omega) (by omega)
  rw [e, e, if_neg hne]
  by_cases cq : q = j
  · rw [if_pos cq]
    by_cases cp : p = j - 1
    · rw [if_pos cp]; omega
    · rw [if_neg cp, if_neg (by omega)]
      exact h p (j - 1) (by omega) (by omega) (by omega)
  · rw [if_neg cq]
    by_cases cp : p = j - 1
    · rw [if_pos cp]
      exact h j q (by omega) hq cq
    · rw [if_neg cp]
      by_cases cp2 : p = j
      · rw [if_pos cp2]; exact h (j - 1) q (by omega) hq cq
      · rw [if_neg cp2]; exact h p q hpq hq cq
structure SortSt (g : GH) (j0 : Nat) (t : TypeId) (L0 L : List Int) (g' : GH) (lo : Nat) : Prop where
  low : min g.next j0 ≤ lo
  next : g.next ≤ g'.next
  ok : g'.ok
  get : g'.get j0 = cellsOb (ints L) t
  others : ∀ i, i < g.next → i ≠ j0 → g'.get i = g.get i
  perm : L.Perm L0
theorem SortSt.calm {g : GH} {j0 : Nat} {t : TypeId} {L0 L : List Int} {G G' : GH} {lo : Nat} (h : SortSt g j0 t L0 L G lo) (hj : j0 < g.next) (hx : GExt G G' G.next) : SortSt g j0 t L0 L G' lo :=
  ⟨h.low, Nat.le_trans h.next hx.next, hx.ok h.ok, (hx.gets _ (Nat.lt_of_lt_of_le hj h.next)).trans h.get, fun i hi hne => (hx.gets _ (Nat.lt_of_lt_of_le hi h.next)).trans (h.others i hi hne), h.perm⟩
theorem insort_rets {X : Caller} (hX : Xok X) (L0 : List Int) (hn : L0.length < 1000000) (j0 cap : Nat) (t : TypeId) (g : GH) (hj : j0 < g.next) (hg : g.get j0 = cellsOb (ints L0) t) :
    Rets Try.prog X 97 [.slice (some ⟨j0, 0, none⟩) L0.length cap, .int .i64 0, .int .i64 L0.length] g (fun v g' lo => ∃ R, SortSt g j0 t L0 R g' lo ∧ Srt R) := by
  refine Rets.run hX.pres p97 (hX.free 97 (by decide) (by decide) (by decide) _ _) rfl fun ho => ?_
  simp +decide (disch := first | assumption | (apply GH.ok_push; assumption) | exact cellV_int _ _ | exact cellV_bool _ | omega) only [go_sem, ↓reduceIte, Nat.reduceEqDiff, Nat.reduceAdd, Int.reduceToNat]
  refine Wk.loops (fun m e g' lo => ∃ (L : List Int) (i : Nat), SortSt g j0 t L0 L g' lo ∧ i + m = max L0.length 1 ∧ 1 ≤ i ∧ (ev e (.s 0) = .slice (some ⟨j0, 0, none⟩) L0.length cap ∧ ev e (.s 1) = .int .i64 0 ∧ ev e (.s 2) = .int .i64 L0.length ∧ ev e (.s 6) = .int .i64 i) ∧ ∀ p q, p < q → q < i → L.getD p 0 ≤ L.getD q 0)
    (fun e g' lo => ∃ L, SortSt g j0 t L0 L g' lo ∧ Srt L) (n := max L0.length 1 - 1) ?_ ?_ ?_
  · exact ⟨L0, 1, ⟨Nat.min_le_left _ _, Nat.le_refl _, ho, hg, fun _ _ _ => rfl, List.Perm.refl _⟩, by omega, Nat.le_refl _, (by simp +decide (disch := first | assumption | (apply GH.ok_push; assumption) | exact cellV_int _ _ | exact cellV_bool _ | omega) only [go_sem, ↓reduceIte, Nat.reduceEqDiff, Nat.reduceAdd, Int.reduceToNat]; first | done | exact rfl), fun p q h1 h2 => by omega⟩
  · rintro e g' lo - - ⟨L, hs, hr⟩
    simp +decide (disch := first | assumption | (apply GH.ok_push; assumption) | exact cellV_int _ _ | exact cellV_bool _ | omega) only [go_sem, ↓reduceIte, Nat.reduceEqDiff, Nat.reduceAdd, Int.reduceToNat]
    intro hx
    exact ⟨L, hs, hr⟩
  · rintro m e g' lo ho' hl' ih out ⟨L, i, hs, him, hi1, he, hsr⟩
    have hLl : L.length = L0.length := hs.perm.length_eq
    by_cases c : i < L0.length
    · simp +decide (disch := first | assumption | (apply GH.ok_push; assumption) | exact cellV_int _ _ | exact cellV_bool _ | omega) only [go_sem, ↓reduceIte, Nat.reduceEqDiff, Nat.reduceAdd, Int.reduceToNat, he]
      refine Wk.loops (fun m e g' lo => ∃ (L : List Int) (j : Nat), j = m ∧ SortSt g j0 t L0 L g' lo ∧ j ≤ i ∧ (ev e (.s 0) = .slice (some ⟨j0, 0, none⟩) L0.length cap ∧ ev e (.s 1) = .int .i64 0 ∧ ev e (.s 2) = .int .i64 L0.length ∧ ev e (.s 6) = .int .i64 i ∧ ev e (.s 7) = .int .i64 j) ∧ Ins L i j)
        (fun e g' lo => ∃ (L : List Int), SortSt g j0 t L0 L g' lo ∧ (ev e (.s 0) = .slice (some ⟨j0, 0, none⟩) L0.length cap ∧ ev e (.s 1) = .int .i64 0 ∧ ev e (.s 2) = .int .i64 L0.length ∧ ev e (.s 6) = .int .i64 i) ∧ ∀ p q, p < q → q ≤ i → L.getD p 0 ≤ L.getD q 0) (n := i) ?_ ?_ ?_
      · exact ⟨L, i, rfl, hs, Nat.le_refl _, (by simp +decide (disch := first | assumption | (apply GH.ok_push; assumption) | exact cellV_int _ _ | exact cellV_bool _ | omega) only [go_sem, ↓reduceIte, Nat.reduceEqDiff, Nat.reduceAdd, Int.reduceToNat, he]; first | done | exact rfl), fun p q h1 h2 h3 => hsr p q h1 (by omega)⟩
      · rintro e g' lo - - ⟨L, hs, he, hr⟩
        simp +decide (disch := first | assumption | (apply GH.ok_push; assumption) | exact cellV_int _ _ | exact cellV_bool _ | omega) only [go_sem, ↓reduceIte, Nat.reduceEqDiff, Nat.reduceAdd, Int.reduceToNat, he]
        exact ih (m - 1) _ _ _ (by omega) ⟨L, i + 1, hs, by omega, by omega, (by simp +decide (disch := first | assumption | (apply GH.ok_push; assumption) | exact cellV_int _ _ | exact cellV_bool _ | omega) only [go_sem, ↓reduceIte, Nat.reduceEqDiff, Nat.reduceAdd, Int.reduceToNat, he]; first | done | exact rfl), fun p q h1 h2 => hr p q h1 (by omega)⟩
      · rintro m2 e g' lo ho' hl' ih2 out2 ⟨L, j, rfl, hs, hji, he, hins⟩
        have hLl : L.length = L0.length := hs.perm.length_eq
        have hnx := hs.next
        by_cases cj : 0 < j
        · have x1 := iaddrS_at (j := j0) (n := L0.length) (c := cap) (m := j) (x := (j : Int)) rfl (by omega)
          have x2 := iaddrS_at (j := j0) (n := L0.length) (c := cap) (m := j - 1) (x := (j : Int) - 1) (by omega) (by omega)
          have l1 := fun lo => load_one (lo := lo) hs.get (ints_get (D := L) (i := j) (by omega))
          have l2 := fun lo => load_one (lo := lo) hs.get (ints_get (D := L) (i := j - 1) (by omega))
          simp +decide (disch := first | assumption | (apply GH.ok_push; assumption) | exact cellV_int _ _ | exact cellV_bool _ | omega) only [go_sem, ↓reduceIte, Nat.reduceEqDiff, Nat.reduceAdd, Int.reduceToNat, he, x1, x2, l1, l2]
          refine CallD.calm (cmpLess_rets hX (L.getD j 0) (L.getD (j - 1) 0) g') ?_
          rintro v G hx rfl
          have hs := hs.calm hj hx
          have hn1 := hx.next
          by_cases d : L.getD j 0 < L.getD (j - 1) 0
          · rw [decide_eq_true d]
            have l1 := fun lo => load_one (lo := lo) hs.get (ints_get (D := L) (i := j) (by omega))
            have l2 := fun lo => load_one (lo := lo) hs.get (ints_get (D := L) (i := j - 1) (by omega))
            have gg := hs.get
            have s1 := fun o => GH.get_set_same gg Nat.one_ne_zero o
            have p1 : splice j (ints L) [.int .i64 (L.getD (j - 1) 0)] = ints (L.set j (L.getD (j - 1) 0)) := splice_ints (by omega)
            have p2 : splice (j - 1) (ints (L.set j (L.getD (j - 1) 0))) [.int .i64 (L.getD j 0)] = ints (swp L j (j - 1)) := splice_ints (by simp; omega)
            have len1 : (L.set j (L.getD (j - 1) 0)).length = L0.length := by simp [hLl]
            simp +decide (disch := first | assumption | (apply GH.ok_push; assumption) | exact cellV_int _ _ | exact cellV_bool _ | omega) only [go_sem, ↓reduceIte, Nat.reduceEqDiff, Nat.reduceAdd, Int.reduceToNat, he, x1, x2, l1, l2, gg, s1, p1, p2, ints_len, len1]
            refine ih2 (j - 1) _ _ _ (by omega) ⟨swp L j (j - 1), j - 1, rfl, ⟨?_, hs.next, hs.ok, ?_, fun q hq hne => ?_, (swp_perm (by omega) (by omega) (by omega)).trans hs.perm⟩, by omega, ?_, hins.step cj hji (by omega) d⟩
            · have := hs.low; omega
            · rw [p1, p2]; exact GH.get_set_same (s1 _) Nat.one_ne_zero _
            · rw [p1, GH.get_set_ne (s1 _) Nat.one_ne_zero _ (Ne.symm hne), GH.get_set_ne gg Nat.one_ne_zero _ (Ne.symm hne)]
              exact hs.others q hq hne
            · simp +decide (disch := first | assumption | (apply GH.ok_push; assumption) | exact cellV_int _ _ | exact cellV_bool _ | omega) only [go_sem, ↓reduceIte, Nat.reduceEqDiff, Nat.reduceAdd, Int.reduceToNat, he]
              congr 1; omega
          · rw [decide_eq_false d]
            simp +decide (disch := first | assumption | (apply GH.ok_push; assumption) | exact cellV_int _ _ | exact cellV_bool _ | omega) only [go_sem, ↓reduceIte, Nat.reduceEqDiff, Nat.reduceAdd, Int.reduceToNat, he]
            exact out2 _ _ _ ⟨L, hs, (by simp +decide (disch := first | assumption | (apply GH.ok_push; assumption) | exact cellV_int _ _ | exact cellV_bool _ | omega) only [go_sem, ↓reduceIte, Nat.reduceEqDiff, Nat.reduceAdd, Int.reduceToNat, he]; first | done | exact rfl), hins.done (.inr (by omega))⟩
        · simp +decide (disch := first | assumption | (apply GH.ok_push; assumption) | exact cellV_int _ _ | exact cellV_bool _ | omega) only [go_sem, ↓reduceIte, Nat.reduceEqDiff, Nat.reduceAdd, Int.reduceToNat, he]
          exact out2 _ _ _ ⟨L, hs, (by simp +decide (disch := first | assumption | (apply GH.ok_push; assumption) | exact cellV_int _ _ | exact cellV_bool _ | omega) only [go_sem, ↓reduceIte, Nat.reduceEqDiff, Nat.reduceAdd, Int.reduceToNat, he]; first | done | exact rfl), hins.done (.inl (by omega))⟩
    · simp +decide (disch := first | assumption | (apply GH.ok_push; assumption) | exact cellV_int _ _ | exact cellV_bool _ | omega) only [go_sem, ↓reduceIte, Nat.reduceEqDiff, Nat.reduceAdd, Int.reduceToNat, he]
      exact out _ _ _ ⟨L, hs, fun p q h1 h2 => hsr p q h1 (by omega)⟩
end Go.Proofs.Ytdanjjhgfkfghaa
set_option maxRecDepth 100000
set_option maxHeartbeats 8000000
set_option linter.unusedSimpArgs false
set_option linter.unusedVariables false
namespace Go.Proofs.Ytdanjjhgfkfghaa
open Go.Ds
abbrev lenTab : ByteArray := ⟨#[0, 1, 2, 2, 3, 3, 3, 3, 4, 4, 4, 4, 4, 4, 4, 4, 5, 5, 5, 5, 5, 5, 5, 5, 5, 5, 5, 5, 5, 5, 5, 5, 6, 6, 6, 6, 6, 6, 6, 6, 6, 6, 6, 6, 6, 6, 6, 6, 6, 6, 6, 6, 6, 6, 6, 6, 6, 6, 6, 6, 6, 6, 6, 6, 7, 7, 7, 7, 7, 7, 7, 7, 7, 7, 7, 7, 7, 7, 7, 7, 7, 7, 7, 7, 7, 7, 7, 7, 7, 7, 7, 7, 7, 7, 7, 7, 7, 7, 7, 7, 7, 7, 7, 7, 7, 7, 7, 7, 7, 7, 7, 7, 7, 7, 7, 7, 7, 7, 7, 7, 7, 7, 7, 7, 7, 7, 7, 7, 8, 8, 8, 8, 8, 8, 8, 8, 8, 8, 8, 8, 8, 8, 8, 8, 8, 8, 8, 8, 8, 8, 8, 8, 8, 8, 8, 8, 8, 8, 8, 8, 8, 8, 8, 8, 8, 8, 8, 8, 8, 8, 8, 8, 8, 8, 8, 8, 8, 8, 8, 8, 8, 8, 8, 8, 8, 8, 8, 8, 8, 8, 8, 8, 8, 8, 8, 8, 8, 8, 8, 8, 8, 8, 8, 8, 8, 8, 8, 8, 8, 8, 8, 8, 8, 8, 8, 8, 8, 8, 8, 8, 8, 8, 8, 8, 8, 8, 8, 8, 8, 8, 8, 8, 8, 8, 8, 8, 8, 8, 8, 8, 8, 8, 8, 8, 8, 8, 8, 8, 8, 8, 8, 8, 8, 8, 8, 8]⟩
theorem lenTab4 : idxSF (.string lenTab) (.int .u8 4) = some (.int .u8 3) := by kernel_rfl
theorem len64_rets {X : Caller} (hX : Xok X) (g : GH) : Rets Try.prog X 96 [.int .u64 4] g (fun v g' lo => g.next ≤ lo ∧ v = .int .i64 3) := by
  refine Rets.run hX.pres p96 (hX.free 96 (by decide) (by decide) (by decide) _ _) rfl fun ho => ?_
  have h1 : convF .u8 (.int .u64 4) = some (.int .u8 4) := by kernel_rfl
  have h2 : convF .i64 (.int .u8 3) = some (.int .i64 3) := by kernel_rfl
  simp +decide (disch := first | assumption | (apply GH.ok_push; assumption) | exact cellV_int _ _ | exact cellV_bool _ | omega) only [go_sem, ↓reduceIte, Nat.reduceEqDiff, Nat.reduceAdd, Int.reduceToNat, h1, h2, lenTab4]
  intro hx
  exact ⟨Nat.le_refl _, rfl⟩
theorem len_rets {X : Caller} (hX : Xok X) (g : GH) : Rets Try.prog X 79 [.int .u64 4] g (fun v g' lo => g.next ≤ lo ∧ v = .int .i64 3) := by
  refine Rets.run hX.pres p79 (hX.free 79 (by decide) (by decide) (by decide) _ _) rfl fun ho => ?_
  simp +decide (disch := first | assumption | (apply GH.ok_push; assumption) | exact cellV_int _ _ | exact cellV_bool _ | omega) only [go_sem, ↓reduceIte, Nat.reduceEqDiff, Nat.reduceAdd, Int.reduceToNat]
  refine CallD.calm (len64_rets hX g) ?_
  rintro v G hx rfl
  simp +decide (disch := first | assumption | (apply GH.ok_push; assumption) | exact cellV_int _ _ | exact cellV_bool _ | omega) only [go_sem, ↓reduceIte, Nat.reduceEqDiff, Nat.reduceAdd, Int.reduceToNat]
  intro hx0
  exact ⟨Nat.le_refl _, rfl⟩
theorem pdq_rets {X : Caller} (hX : Xok X) (L0 : List Int) (hn : L0.length = 4) (j0 cap : Nat) (t : TypeId) (g : GH) (hj : j0 < g.next) (hg : g.get j0 = cellsOb (ints L0) t) :
    Rets Try.prog X 86 [.slice (some ⟨j0, 0, none⟩) 4 cap, .int .i64 0, .int .i64 4, .int .i64 3] g (fun v g' lo => ∃ R, SortSt g j0 t L0 R g' lo ∧ Srt R) := by
  refine Rets.run hX.pres p86 (hX.free 86 (by decide) (by decide) (by decide) _ _) rfl fun ho => ?_
  simp +decide (disch := first | assumption | (apply GH.ok_push; assumption) | exact cellV_int _ _ | exact cellV_bool _ | omega) only [go_sem, ↓reduceIte, Nat.reduceEqDiff, Nat.reduceAdd, Int.reduceToNat]
  refine Wk.once ?_
  simp +decide (disch := first | assumption | (apply GH.ok_push; assumption) | exact cellV_int _ _ | exact cellV_bool _ | omega) only [go_sem, ↓reduceIte, Nat.reduceEqDiff, Nat.reduceAdd, Int.reduceToNat]
  have h := insort_rets hX L0 (by omega) j0 cap t g hj hg
  rw [hn] at h
  refine CallD.call h ?_
  rintro v G lo hx ⟨R, h1, h2⟩
  simp +decide (disch := first | assumption | (apply GH.ok_push; assumption) | exact cellV_int _ _ | exact cellV_bool _ | omega) only [go_sem, ↓reduceIte, Nat.reduceEqDiff, Nat.reduceAdd, Int.reduceToNat]
  intro hx0
  exact ⟨R, ⟨by have := h1.low; omega, h1.next, h1.ok, h1.get, h1.others, h1.perm⟩, h2⟩
theorem sort_rets {X : Caller} (hX : Xok X) (L0 : List Int) (hn : L0.length = 4) (j0 cap : Nat) (t : TypeId) (g : GH) (hj : j0 < g.next) (hg : g.get j0 = cellsOb (ints L0) t) :
    Rets Try.prog X 75 [.slice (some ⟨j0, 0, none⟩) 4 cap] g (fun v g' lo => ∃ R, SortSt g j0 t L0 R g' lo ∧ Srt R) := by
  refine Rets.run hX.pres p75 (hX.free 75 (by decide) (by decide) (by decide) _ _) rfl fun ho => ?_
  have h1 : convF .u64 (.int .i64 4) = some (.int .u64 4) := by kernel_rfl
  have h0 : ((4 : Nat) : Int) = 4 := rfl
  simp +decide (disch := first | assumption | (apply GH.ok_push; assumption) | exact cellV_int _ _ | exact cellV_bool _ | omega) only [go_sem, ↓reduceIte, Nat.reduceEqDiff, Nat.reduceAdd, Int.reduceToNat, h0, h1]
  refine CallD.calm (len_rets hX g) ?_
  rintro v G hx rfl
  have hn1 := hx.next
  simp +decide (disch := first | assumption | (apply GH.ok_push; assumption) | exact cellV_int _ _ | exact cellV_bool _ | omega) only [go_sem, ↓reduceIte, Nat.reduceEqDiff, Nat.reduceAdd, Int.reduceToNat]
  refine CallD.call (pdq_rets hX L0 hn j0 cap t G (by omega) ((hx.gets _ hj).trans hg)) ?_
  rintro v G2 lo hx2 ⟨R, h1, h2⟩
  simp +decide (disch := first | assumption | (apply GH.ok_push; assumption) | exact cellV_int _ _ | exact cellV_bool _ | omega) only [go_sem, ↓reduceIte, Nat.reduceEqDiff, Nat.reduceAdd, Int.reduceToNat]
  intro hx0
  exact ⟨R, ⟨by have := h1.low; omega, by have := h1.next; omega, h1.ok, h1.get, fun i hi hne => (h1.others i (by omega) hne).trans (hx.gets _ hi), h1.perm⟩, h2⟩
end Go.Proofs.Ytdanjjhgfkfghaa
set_option maxRecDepth 100000
set_option maxHeartbeats 8000000
set_option linter.unusedSimpArgs false
set_option linter.unusedVariables false
namespace Go.Proofs.Ytdanjjhgfkfghaa
open Go.Ds
/-- The numbers, ascending. -/
def srt4 (Q : List Int) : List Int := Q.mergeSort (· ≤ ·)
theorem srt4_of {Q R : List Int} (hp : R.Perm Q) (hs : Srt R) : R = srt4 Q := by
  have h1 : (srt4 Q).Pairwise (fun a b => (decide (a ≤ b)) = true) := List.pairwise_mergeSort (fun a b c h1 h2 => by simp at *; omega) (fun a b => by simp; omega) Q
  have h1 : (srt4 Q).Pairwise (· ≤ ·) := h1.imp fun h => by simpa using h
  exact List.Perm.eq_of_pairwise (le := (· ≤ ·)) (fun a b _ _ h1 h2 => Int.le_antisymm h1 h2) hs.pairwise h1 (hp.trans (List.mergeSort_perm Q _).symm)
theorem srt4_len (Q : List Int) : (srt4 Q).length = Q.length := (List.mergeSort_perm Q _).length_eq
theorem isQ_step {Q : List Int} (hl : Q.length = 4) (hq : isQ Q = true) (h : turned Q (gre Q) < Q.getD (gre Q) 0) : isQ (Q.set (gre Q) (turned Q (gre Q))) = true :=
  quad_turn hl hq (gre_lt Q) (turned_inR hl hq (gre_lt Q) (by omega))
theorem sum_step {Q : List Int} (hl : Q.length = 4) (h : turned Q (gre Q) < Q.getD (gre Q) 0) : sum1 (Q.set (gre Q) (turned Q (gre Q))) < sum1 Q := by
  have := gre_lt Q
  rw [sum1_set _ _ _ (by omega)]; omega
/-- On the way to the root: what is left, and how often it was turned. -/
structure Way (Q0 Q : List Int) (n : Nat) : Prop where
  len : Q.length = 4
  quad : isQ Q = true
  eq : rootL Q0 = ((rootL Q).1, n + (rootL Q).2)
  sum : (n : Int) + sum1 Q ≤ sum1 Q0
theorem Way.start {Q : List Int} (hl : Q.length = 4) (hq : isQ Q = true) : Way Q Q 0 := ⟨hl, hq, by simp, by omega⟩
theorem Way.step {Q0 Q : List Int} {n : Nat} (h : Way Q0 Q n) (hlt : turned Q (gre Q) < Q.getD (gre Q) 0) : Way Q0 (Q.set (gre Q) (turned Q (gre Q))) (n + 1) :=
  ⟨by simpa using h.len, isQ_step h.len h.quad hlt, by rw [h.eq, rootL_step h.len h.quad hlt, Nat.add_assoc, Nat.add_comm 1], by have := sum_step h.len hlt; have := h.sum; omega⟩
theorem Way.stop {Q0 Q : List Int} {n : Nat} (h : Way Q0 Q n) (hle : Q.getD (gre Q) 0 ≤ turned Q (gre Q)) : rootL Q0 = (Q, n) := by
  rw [h.eq, rootL_stop hle]; rfl
theorem Way.bound {Q0 Q : List Int} {n : Nat} (h0 : Q0.all inR = true) (hl : Q0.length = 4) (h : Way Q0 Q n) : (n : Int) < 4398046511105 := by
  have h1 := sums_bound Q0 h0
  rw [hl] at h1
  have h2 := isQ_pos h.quad
  have h3 := h.sum
  omega
theorem rootOf_rets {X : Caller} (hX : Xall X) (Q0 : List Int) (hQl : Q0.length = 4) (hq0 : isQ Q0 = true) (g : GH) :
    Rets Try.prog X 54 [.agg (ints Q0).toArray] g (fun v g' lo => g.next ≤ lo ∧ v = .tuple #[.agg (ints (srt4 (rootL Q0).1)).toArray, .int .i64 ((rootL Q0).2 : Nat)]) := by
  have hXX := hX
  have hX := hX.toXok
  have hz4 := z4len
  refine Rets.run hX.pres p54 (hX.free 54 (by decide) (by decide) (by decide) _ _) rfl fun ho => ?_
  simp +decide only [dseq, dreg, dbox, dalloc, nV_eq, cellsOf, tick, ev_put, ev_fill, ev_fill0, ev_none, ↓reduceIte, Nat.reduceEqDiff, Nat.reduceAdd]
  obtain ⟨hk, hok, hnx, g1, g2⟩ := two ho (cellsOb (ints Q0) 23) (cellsOb [Value.int .i64 0, .int .i64 0, .int .i64 0, .int .i64 0] 23)
  generalize (g.push (cellsOb (ints Q0) 23)).push (cellsOb [Value.int .i64 0, .int .i64 0, .int .i64 0, .int .i64 0] 23) = G at *
  have g2 : G.get (g.next + 1) = cellsOb (ints Z4) 23 := g2
  simp +decide (disch := first | assumption | (apply GH.ok_push; assumption) | exact cellV_int _ _ | exact cellV_bool _ | omega) only [go_sem, ↓reduceIte, Nat.reduceEqDiff, Nat.reduceAdd, Int.reduceToNat]
  refine Wk.loops (fun m e g' lo => ∃ (Q : List Int) (n : Nat), m = (sum1 Q).toNat ∧ Way Q0 Q n ∧ g.next ≤ lo ∧ g.next + 2 ≤ g'.next ∧ g'.get g.next = cellsOb (ints Q) 23 ∧ g'.get (g.next + 1) = cellsOb (ints Z4) 23 ∧ (ev e (.s 1) = ptrTo g.next ∧ ev e (.s 2) = ptrTo (g.next + 1) ∧ ev e (.s 4) = .int .i64 n))
    (fun e g' lo => ∃ (Q : List Int) (n : Nat), rootL Q0 = (Q, n) ∧ Q.length = 4 ∧ g.next ≤ lo ∧ g.next + 2 ≤ g'.next ∧ g'.get g.next = cellsOb (ints Q) 23 ∧ g'.get (g.next + 1) = cellsOb (ints Z4) 23 ∧ (ev e (.s 1) = ptrTo g.next ∧ ev e (.s 2) = ptrTo (g.next + 1) ∧ ev e (.s 4) = .int .i64 n)) (n := (sum1 Q0).toNat) ?_ ?_ ?_
  · exact ⟨Q0, 0, rfl, Way.start hQl hq0, by omega, by omega, g1, g2, (by simp +decide (disch := first | assumption | (apply GH.ok_push; assumption) | exact cellV_int _ _ | exact cellV_bool _ | omega) only [go_sem, ↓reduceIte, Nat.reduceEqDiff, Nat.reduceAdd, Int.reduceToNat]; first | done | exact rfl)⟩
  · rintro e G lo ho' hl' ⟨Q, n, hr, hl4, hlo, hn, gq, gz, he⟩
    have hslc : slcAF 4 1 (.pointer (some ⟨g.next, 0, none⟩)) none none = some (.slice (some ⟨g.next, 0, none⟩) 4 4) := rfl
    simp +decide (disch := first | assumption | (apply GH.ok_push; assumption) | exact cellV_int _ _ | exact cellV_bool _ | omega) only [go_sem, ↓reduceIte, Nat.reduceEqDiff, Nat.reduceAdd, Int.reduceToNat, he, hslc]
    refine CallD.call (sort_rets hX Q hl4 g.next 4 23 G (by omega) gq) ?_
    rintro v G1 lo1 hx1 ⟨R, hs, hR⟩
    have hn1 := hs.next
    have hlow := hs.low
    have gq1 := hs.get
    have gz1 := (hs.others (g.next + 1) (by omega) (by omega)).trans gz
    have hRl : R.length = 4 := hs.perm.length_eq.trans hl4
    have hRs : R = srt4 (rootL Q0).1 := by rw [hr]; exact srt4_of hs.perm hR
    have s1 := fun o => GH.get_set_same gz1 Nat.one_ne_zero o
    simp +decide (disch := first | assumption | (apply GH.ok_push; assumption) | exact cellV_int _ _ | exact cellV_bool _ | omega) only [go_sem, ↓reduceIte, Nat.reduceEqDiff, Nat.reduceAdd, Int.reduceToNat, he, gq1, gz1, s1]
    intro hx0
    exact ⟨by omega, by rw [hr] at hRs ⊢; rw [hRs]⟩
  · rintro m e G lo ho' hl' ih out ⟨Q, n, rfl, hw, hlo, hn, gq, gz, he⟩
    have hl4 := hw.len
    have hall := isQ_all hw.quad
    have hg4 := gre_lt Q
    have hb := hw.bound (isQ_all hq0) hQl
    simp +decide (disch := first | assumption | (apply GH.ok_push; assumption) | exact cellV_int _ _ | exact cellV_bool _ | omega) only [go_sem, ↓reduceIte, Nat.reduceEqDiff, Nat.reduceAdd, Int.reduceToNat, he, gq]
    refine CallD.calm (greatest_rets hX Q hl4 G) ?_
    rintro v G1 hx1 rfl
    have hn1 := hx1.next
    have gq1 := (hx1.gets _ (by omega)).trans gq
    have gz1 := (hx1.gets _ (by omega)).trans gz
    simp +decide (disch := first | assumption | (apply GH.ok_push; assumption) | exact cellV_int _ _ | exact cellV_bool _ | omega) only [go_sem, ↓reduceIte, Nat.reduceEqDiff, Nat.reduceAdd, Int.reduceToNat, he, gq1]
    refine CallD.calm (opposite_rets hXX Q hl4 hall (gre Q) hg4 G1) ?_
    rintro v G2 hx2 rfl
    have hn2 := hx2.next
    have gq2 := (hx2.gets _ (by omega)).trans gq1
    have gz2 := (hx2.gets _ (by omega)).trans gz1
    have xk := iaddrA_at (j := g.next) (n := 4) (m := gre Q) (x := ((gre Q : Nat) : Int)) rfl hg4
    have lk := fun lo => load_one (lo := lo) gq2 (ints_get (D := Q) (i := gre Q) (by omega))
    by_cases d : Q.getD (gre Q) 0 ≤ turned Q (gre Q)
    · simp +decide (disch := first | assumption | (apply GH.ok_push; assumption) | exact cellV_int _ _ | exact cellV_bool _ | omega) only [go_sem, ↓reduceIte, Nat.reduceEqDiff, Nat.reduceAdd, Int.reduceToNat, he, xk, lk]
      exact out _ _ _ ⟨Q, n, hw.stop d, hl4, hlo, by omega, gq2, gz2, (by simp +decide (disch := first | assumption | (apply GH.ok_push; assumption) | exact cellV_int _ _ | exact cellV_bool _ | omega) only [go_sem, ↓reduceIte, Nat.reduceEqDiff, Nat.reduceAdd, Int.reduceToNat, he]; first | done | exact rfl)⟩
    · have hsp : splice (gre Q) (ints Q) [.int .i64 (turned Q (gre Q))] = ints (Q.set (gre Q) (turned Q (gre Q))) := splice_ints (by omega)
      have s1 := fun o => GH.get_set_same gq2 Nat.one_ne_zero o
      simp +decide (disch := first | assumption | (apply GH.ok_push; assumption) | exact cellV_int _ _ | exact cellV_bool _ | omega) only [go_sem, ↓reduceIte, Nat.reduceEqDiff, Nat.reduceAdd, Int.reduceToNat, he, xk, lk, gq2, ints_len, hl4]
      rw [hsp]
      have hsum := sum_step hl4 (show turned Q (gre Q) < Q.getD (gre Q) 0 by omega)
      have hpos := isQ_pos hw.quad
      refine ih (sum1 (Q.set (gre Q) (turned Q (gre Q)))).toNat _ _ _ (by omega) ⟨_, n + 1, rfl, hw.step (by omega), by omega, by simp only [GH.set_next]; omega, s1 _, (GH.get_set_ne gq2 Nat.one_ne_zero _ (by omega)).trans gz2, (by simp +decide (disch := first | assumption | (apply GH.ok_push; assumption) | exact cellV_int _ _ | exact cellV_bool _ | omega) only [go_sem, ↓reduceIte, Nat.reduceEqDiff, Nat.reduceAdd, Int.reduceToNat, he]; first | done | exact rfl)⟩
end Go.Proofs.Ytdanjjhgfkfghaa
set_option maxRecDepth 100000
set_option maxHeartbeats 8000000
set_option linter.unusedSimpArgs false
set_option linter.unusedVariables false
namespace Go.Proofs.Ytdanjjhgfkfghaa
open Go.Ds
/-- What Root returns. -/
def rootR (Q : List Int) : List Int × Nat × Int := if isQ Q = true then (srt4 (rootL Q).1, (rootL Q).2, 0) else (Z4, 0, 2)
theorem rootL_len : ∀ (n : Nat) (Q : List Int), (sum1 Q).toNat ≤ n → Q.length = 4 → (rootL Q).1.length = 4
  | 0, Q, hn, hl => by
    rw [rootL, dif_neg (by omega)]; exact hl
  | n + 1, Q, hn, hl => by
    rw [rootL]
    split
    · rename_i h
      refine rootL_len n _ ?_ (by simpa using hl)
      have := gre_lt Q
      rw [sum1_set _ _ _ (by omega)]
      omega
    · exact hl
theorem rootR_len {Q : List Int} (hl : Q.length = 4) : (rootR Q).1.length = 4 := by
  unfold rootR
  split
  · show (srt4 _).length = 4
    rw [srt4_len]; exact rootL_len _ Q (Nat.le_refl _) hl
  · rfl
theorem ext2 (u v w : Value) : extF (.tuple #[u, v, w]) 2 = some w := rfl
theorem ext30 (u v w : Value) : extF (.tuple #[u, v, w]) 0 = some u := rfl
theorem ext31 (u v w : Value) : extF (.tuple #[u, v, w]) 1 = some v := rfl
theorem root_rets {X : Caller} (hX : Xall X) (Q : List Int) (hQl : Q.length = 4) (g : GH) :
    Rets Try.prog X 27 [.agg (ints Q).toArray] g (fun v g' lo => g.next ≤ lo ∧ v = .tuple #[.agg (ints (rootR Q).1).toArray, .int .i64 ((rootR Q).2.1 : Nat), .int .i64 (rootR Q).2.2]) := by
  have hXX := hX
  have hX := hX.toXok
  have hz4 := z4len
  have hrl := rootR_len hQl
  refine Rets.run hX.pres p27 (hX.free 27 (by decide) (by decide) (by decide) _ _) rfl fun ho => ?_
  simp +decide only [dseq, dreg, dbox, dalloc, nV_eq, cellsOf, tick, ev_put, ev_fill, ev_fill0, ev_none, ↓reduceIte, Nat.reduceEqDiff, Nat.reduceAdd]
  obtain ⟨hk, hok, hnx, g1, g2⟩ := two ho (cellsOb (ints Q) 23) (cellsOb [Value.int .i64 0, .int .i64 0, .int .i64 0, .int .i64 0] 23)
  generalize (g.push (cellsOb (ints Q) 23)).push (cellsOb [Value.int .i64 0, .int .i64 0, .int .i64 0, .int .i64 0] 23) = G at *
  have g2 : G.get (g.next + 1) = cellsOb (ints Z4) 23 := g2
  simp +decide (disch := first | assumption | (apply GH.ok_push; assumption) | exact cellV_int _ _ | exact cellV_bool _ | omega) only [go_sem, ↓reduceIte, Nat.reduceEqDiff, Nat.reduceAdd, Int.reduceToNat, g1]
  refine CallD.calm (discQ hXX Q hQl G) ?_
  rintro v G1 hx1 rfl
  have hn1 := hx1.next
  have hok1 := hx1.ok hok
  have g11 := (hx1.gets _ (by omega)).trans g1
  have g21 := (hx1.gets _ (by omega)).trans g2
  by_cases hq : isQ Q = true
  · have hR : rootR Q = (srt4 (rootL Q).1, (rootL Q).2, 0) := by rw [rootR, if_pos hq]
    rw [hR] at hrl ⊢
    simp +decide (disch := first | assumption | (apply GH.ok_push; assumption) | exact cellV_int _ _ | exact cellV_bool _ | omega) only [go_sem, ↓reduceIte, Nat.reduceEqDiff, Nat.reduceAdd, Int.reduceToNat, hq, g11]
    refine CallD.calm (rootOf_rets hXX Q hQl hq G1) ?_
    rintro v G2 hx2 rfl
    have hn2 := hx2.next
    have hok2 := hx2.ok hok1
    have g22 := (hx2.gets _ (by omega)).trans g21
    obtain ⟨G3, e3, hk3, hok3, hn3, ga3⟩ := quadNew hok2 hrl
    have g23 := (hk3.gets _ (by omega)).trans g22
    have s1 := fun o => GH.get_set_same g23 Nat.one_ne_zero o
    simp +decide (disch := first | assumption | (apply GH.ok_push; assumption) | exact cellV_int _ _ | exact cellV_bool _ | omega) only [go_sem, ↓reduceIte, Nat.reduceEqDiff, Nat.reduceAdd, Int.reduceToNat, ext0, ext1, hok2]
    rw [e3]
    simp +decide (disch := first | assumption | (apply GH.ok_push; assumption) | exact cellV_int _ _ | exact cellV_bool _ | omega) only [go_sem, ↓reduceIte, Nat.reduceEqDiff, Nat.reduceAdd, Int.reduceToNat, ga3, g23, s1, ext31, ext2, len_quad hrl]
    intro hx0
    exact ⟨by omega, rfl⟩
  · have hq' : isQ Q = false := by simpa using hq
    have hR : rootR Q = (Z4, 0, 2) := by rw [rootR, if_neg hq]
    have s1 := fun o => GH.get_set_same g21 Nat.one_ne_zero o
    simp +decide (disch := first | assumption | (apply GH.ok_push; assumption) | exact cellV_int _ _ | exact cellV_bool _ | omega) only [go_sem, ↓reduceIte, Nat.reduceEqDiff, Nat.reduceAdd, Int.reduceToNat, hq', buildZ, g21, s1]
    intro hx0
    exact ⟨by omega, by rw [hR]; rfl⟩
end Go.Proofs.Ytdanjjhgfkfghaa
