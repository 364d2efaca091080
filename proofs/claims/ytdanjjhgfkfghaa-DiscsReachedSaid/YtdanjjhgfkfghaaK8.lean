import Derived.Test.YtdanjjhgfkfghaaK6
import Derived.Test.YtdanjjhgfkfghaaKd
set_option linter.all false
set_option linter.unusedSimpArgs false
set_option linter.unnecessarySimpa false
set_option linter.unusedVariables false
set_option linter.unusedSectionVars false
set_option maxRecDepth 100000
set_option maxHeartbeats 8000000
set_option linter.unusedSimpArgs false
set_option linter.unusedVariables false
namespace Go.Proofs.Ytdanjjhgfkfghaa
open Go.Ds
/-! ## One root for all that are reached -/
theorem sum1_perm {A B : List Int} (h : A.Perm B) : sum1 A = sum1 B := by
  induction h with
  | nil => rfl
  | cons x _ ih => simp only [sum1, ih]
  | swap x y l => simp only [sum1]; omega
  | trans _ _ h1 h2 => exact h1.trans h2
theorem sum2_perm {A B : List Int} (h : A.Perm B) : sum2 A = sum2 B := by
  induction h with
  | nil => rfl
  | cons x _ ih => simp only [sum2, ih]
  | swap x y l => simp only [sum2]; omega
  | trans _ _ h1 h2 => exact h1.trans h2
theorem isQ_perm {A B : List Int} (h : A.Perm B) : isQ A = isQ B := by
  have h1 : A.all inR = B.all inR := by
    rw [Bool.eq_iff_iff, List.all_eq_true, List.all_eq_true]
    exact ⟨fun k x hx => k x (h.mem_iff.2 hx), fun k x hx => k x (h.mem_iff.1 hx)⟩
  simp only [isQ, h1, sum1_perm h, sum2_perm h]
theorem getD_mem {A : List Int} {i : Nat} (h : i < A.length) : A.getD i 0 ∈ A := by rw [getD_get h]; exact List.getElem_mem h
theorem gre_max {A : List Int} (hl : A.length = 4) : ∀ x ∈ A, x ≤ A.getD (gre A) 0 := by
  intro x hx
  obtain ⟨i, hi, rfl⟩ := List.getElem_of_mem hx
  rw [← getD_get hi]
  exact greN_le A 4 i (by omega)
theorem gre_val {A B : List Int} (ha : A.length = 4) (h : A.Perm B) : A.getD (gre A) 0 = B.getD (gre B) 0 := by
  have hb : B.length = 4 := h.length_eq ▸ ha
  have h1 := gre_max hb _ (h.mem_iff.1 (getD_mem (A := A) (i := gre A) (by have := gre_lt A; omega)))
  have h2 := gre_max ha _ (h.mem_iff.2 (getD_mem (A := B) (i := gre B) (by have := gre_lt B; omega)))
  omega
theorem set_perm {A B : List Int} {i j : Nat} (hi : i < A.length) (hj : j < B.length) (h : A.Perm B) (he : A.getD i 0 = B.getD j 0) (x : Int) : (A.set i x).Perm (B.set j x) := by
  rw [List.perm_iff_count] at h ⊢
  intro a
  have h1 := h a
  rw [List.count_set hi, List.count_set hj]
  rw [getD_get hi, getD_get hj] at he
  rw [he, h1]
theorem turned_perm {A B : List Int} {i j : Nat} (h : A.Perm B) (he : A.getD i 0 = B.getD j 0) : turned A i = turned B j := by
  rw [turned, turned, sum1_perm h, he]
/-- The root, sorted. -/
def rootS (Q : List Int) : List Int := srt4 (rootL Q).1
theorem srt4_perm {A B : List Int} (h : A.Perm B) : srt4 A = srt4 B := by
  have h1 : (srt4 A).Pairwise (fun a b => (decide (a ≤ b)) = true) := List.pairwise_mergeSort (fun a b c h1 h2 => by simp at *; omega) (fun a b => by simp; omega) A
  have h2 : (srt4 B).Pairwise (fun a b => (decide (a ≤ b)) = true) := List.pairwise_mergeSort (fun a b c h1 h2 => by simp at *; omega) (fun a b => by simp; omega) B
  have h1 : (srt4 A).Pairwise (· ≤ ·) := h1.imp fun h => by simpa using h
  have h2 : (srt4 B).Pairwise (· ≤ ·) := h2.imp fun h => by simpa using h
  exact List.Perm.eq_of_pairwise (le := (· ≤ ·)) (fun a b _ _ h1 h2 => Int.le_antisymm h1 h2) h1 h2 ((List.mergeSort_perm A _).trans (h.trans (List.mergeSort_perm B _).symm))
theorem rootS_perm : ∀ (n : Nat) (A B : List Int), (sum1 A).toNat ≤ n → A.length = 4 → isQ A = true → A.Perm B → rootS A = rootS B
  | 0, A, B, hn, hl, hq, h => by have := isQ_pos hq; omega
  | n + 1, A, B, hn, hl, hq, h => by
    have hlB : B.length = 4 := h.length_eq ▸ hl
    have hqB : isQ B = true := isQ_perm h ▸ hq
    have hv := gre_val hl h
    have ht := turned_perm h hv
    by_cases c : turned A (gre A) < A.getD (gre A) 0
    · have hs := sum_step hl c
      have hp := isQ_pos hq
      have ih := rootS_perm n (A.set (gre A) (turned A (gre A))) (B.set (gre B) (turned B (gre B))) (by omega) (by simpa using hl) (isQ_step hl hq c) (by
        rw [ht]; exact set_perm (by have := gre_lt A; omega) (by have := gre_lt B; omega) h hv _)
      unfold rootS at ih ⊢
      rw [rootL_step hl hq c, rootL_step hlB hqB (by omega)]
      exact ih
    · unfold rootS
      rw [rootL_stop (by omega), rootL_stop (by omega)]
      exact srt4_perm h
theorem rootS_step {Q : List Int} (hl : Q.length = 4) (hq : isQ Q = true) (h : turned Q (gre Q) < Q.getD (gre Q) 0) : rootS Q = rootS (Q.set (gre Q) (turned Q (gre Q))) := by
  unfold rootS
  rw [rootL_step hl hq h]
/-- A bend that is greater than all others, and that a turn makes less, is turned on the way to the root. -/
theorem rootS_top {Q : List Int} (hl : Q.length = 4) (hq : isQ Q = true) {i : Nat} (hi : i < 4) (hmax : ∀ x ∈ Q, x ≤ Q.getD i 0) (h : turned Q i < Q.getD i 0) : rootS Q = rootS (Q.set i (turned Q i)) := by
  have hg := gre_lt Q
  have hv : Q.getD (gre Q) 0 = Q.getD i 0 := by
    have h1 := gre_max hl _ (getD_mem (A := Q) (i := i) (by omega))
    have h2 := hmax _ (getD_mem (A := Q) (i := gre Q) (by omega))
    omega
  have ht := turned_perm (List.Perm.refl Q) hv
  rw [rootS_step hl hq (by omega)]
  refine rootS_perm _ _ _ (Nat.le_refl _) (by simpa using hl) (isQ_step hl hq (by omega)) ?_
  rw [ht]
  exact set_perm (by omega) (by omega) (List.Perm.refl Q) hv _
theorem quad_pairs {Q : List Int} (hl : Q.length = 4) (hq : isQ Q = true) : ∃ a b c d, Q = [a, b, c, d] ∧ 0 ≤ a + b ∧ 0 ≤ a + c ∧ 0 ≤ a + d ∧ 0 ≤ b + c ∧ 0 ≤ b + d ∧ 0 ≤ c + d := by
  simp only [isQ, Bool.and_eq_true, decide_eq_true_eq] at hq
  obtain ⟨_, hs, he⟩ := hq
  match Q, hl with
  | [a, b, c, d], _ =>
    simp only [sum1, sum2] at hs he
    exact ⟨a, b, c, d, rfl, pair_nonneg a b c d (by omega) (by grind), pair_nonneg a c b d (by omega) (by grind), pair_nonneg a d b c (by omega) (by grind), pair_nonneg b c a d (by omega) (by grind), pair_nonneg b d a c (by omega) (by grind), pair_nonneg c d a b (by omega) (by grind)⟩
/-- A turn leaves the bend, or makes a greatest one, or turns the greatest one. -/
theorem turned_top {Q : List Int} (hl : Q.length = 4) (hq : isQ Q = true) {i : Nat} (hi : i < 4) : turned Q i = Q.getD i 0 ∨ (turned Q i > Q.getD i 0 ∧ ∀ j, j < 4 → j ≠ i → Q.getD j 0 < turned Q i) ∨ (turned Q i < Q.getD i 0 ∧ ∀ x ∈ Q, x ≤ Q.getD i 0) := by
  obtain ⟨a, b, c, d, rfl, h1, h2, h3, h4, h5, h6⟩ := quad_pairs hl hq
  have hi4 : i = 0 ∨ i = 1 ∨ i = 2 ∨ i = 3 := by omega
  rcases hi4 with rfl | rfl | rfl | rfl <;> simp only [turned, sum1, List.getD_cons_zero, List.getD_cons_succ, List.mem_cons, List.not_mem_nil, or_false, forall_eq_or_imp, forall_eq]
  · rcases Int.lt_trichotomy (2 * (a + (b + (c + (d + 0))) - a) - a) a with w | w | w
    · exact .inr (.inr ⟨w, by omega, by omega, by omega, by omega⟩)
    · exact .inl w
    · refine .inr (.inl ⟨w, fun j hj hne => ?_⟩)
      have : j = 1 ∨ j = 2 ∨ j = 3 := by omega
      rcases this with rfl | rfl | rfl <;> simp only [List.getD_cons_zero, List.getD_cons_succ] <;> omega
  · rcases Int.lt_trichotomy (2 * (a + (b + (c + (d + 0))) - b) - b) b with w | w | w
    · exact .inr (.inr ⟨w, by omega, by omega, by omega, by omega⟩)
    · exact .inl w
    · refine .inr (.inl ⟨w, fun j hj hne => ?_⟩)
      have : j = 0 ∨ j = 2 ∨ j = 3 := by omega
      rcases this with rfl | rfl | rfl <;> simp only [List.getD_cons_zero, List.getD_cons_succ] <;> omega
  · rcases Int.lt_trichotomy (2 * (a + (b + (c + (d + 0))) - c) - c) c with w | w | w
    · exact .inr (.inr ⟨w, by omega, by omega, by omega, by omega⟩)
    · exact .inl w
    · refine .inr (.inl ⟨w, fun j hj hne => ?_⟩)
      have : j = 0 ∨ j = 1 ∨ j = 3 := by omega
      rcases this with rfl | rfl | rfl <;> simp only [List.getD_cons_zero, List.getD_cons_succ] <;> omega
  · rcases Int.lt_trichotomy (2 * (a + (b + (c + (d + 0))) - d) - d) d with w | w | w
    · exact .inr (.inr ⟨w, by omega, by omega, by omega, by omega⟩)
    · exact .inl w
    · refine .inr (.inl ⟨w, fun j hj hne => ?_⟩)
      have : j = 0 ∨ j = 1 ∨ j = 2 := by omega
      rcases this with rfl | rfl | rfl <;> simp only [List.getD_cons_zero, List.getD_cons_succ] <;> omega
theorem set_getD {Q : List Int} {i : Nat} (hi : i < Q.length) : Q.set i (Q.getD i 0) = Q := by
  rw [getD_get hi, List.set_getElem_self]
/-- A turned quad has the same root. -/
theorem rootS_turn {Q : List Int} (hl : Q.length = 4) (hq : isQ Q = true) {i : Nat} (hi : i < 4) (hr : inR (turned Q i) = true) : rootS (Q.set i (turned Q i)) = rootS Q := by
  rcases turned_top hl hq hi with h | ⟨h1, h2⟩ | ⟨h1, h2⟩
  · rw [h, set_getD (by omega)]
  · have hl' : (Q.set i (turned Q i)).length = 4 := by simpa using hl
    have hq' := quad_turn hl hq hi hr
    have hb := turned_back hl hi
    have hget : (Q.set i (turned Q i)).getD i 0 = turned Q i := by rw [getD_set' (by omega), if_pos rfl]
    have := rootS_top hl' hq' hi (fun x hx => by
      obtain ⟨j, hj, rfl⟩ := List.getElem_of_mem hx
      rw [← getD_get hj, hget, getD_set' (by omega)]
      by_cases c : j = i
      · rw [if_pos c]; omega
      · rw [if_neg c]; have := h2 j (by omega) c; omega) (by rw [hb.1, hget]; exact h1)
    rw [this, hb.1, hb.2]
  · exact (rootS_top hl hq hi h2 h1).symm
end Go.Proofs.Ytdanjjhgfkfghaa
set_option maxRecDepth 100000
set_option maxHeartbeats 8000000
set_option linter.unusedSimpArgs false
set_option linter.unusedVariables false
namespace Go.Proofs.Ytdanjjhgfkfghaa
open Go.Ds
theorem sq_mono' {a b : Int} (h0 : 0 ≤ a) (h : a ≤ b) : a * a ≤ b * b := Int.mul_le_mul h h h0 (by omega)
theorem turnsE_root : ∀ (l : List Int) (Q : List Int), Q.length = 4 → isQ Q = true → (turnsE Q l).2 = 0 → (turnsE Q l).1.length = 4 ∧ isQ (turnsE Q l).1 = true ∧ rootS (turnsE Q l).1 = rootS Q
  | [], Q, hl, hq, h => ⟨hl, hq, rfl⟩
  | i :: l, Q, hl, hq, h => by
    rw [turnsE] at h ⊢
    by_cases c : (turnE Q i).2 = 0
    · rw [if_pos c] at h ⊢
      have hE : (turnE Q i).1.length = 4 ∧ isQ (turnE Q i).1 = true ∧ rootS (turnE Q i).1 = rootS Q := by
        rw [turnE_snd] at c
        have e : turnE Q i = turn1 Q i := by rw [turnE, if_pos c]
        rw [e]
        unfold turn1 at c ⊢
        by_cases c1 : i < 0 ∨ 3 < i
        · rw [if_pos c1] at c; simp at c
        · rw [if_neg c1] at c ⊢
          by_cases c2 : inR (turned Q i.toNat) = true
          · rw [if_pos c2]
            exact ⟨by simpa using hl, quad_turn hl hq (by omega) c2, rootS_turn hl hq (by omega) c2⟩
          · rw [if_neg c2] at c; simp at c
      obtain ⟨e1, e2, e3⟩ := hE
      obtain ⟨f1, f2, f3⟩ := turnsE_root l _ e1 e2 h
      exact ⟨f1, f2, f3.trans e3⟩
    · rw [if_neg c] at h; exact absurd h c
/-- The way to the root ends where the greatest bend is not made less. -/
theorem rootL_end : ∀ (n : Nat) (Q : List Int), (sum1 Q).toNat ≤ n → Q.length = 4 → isQ Q = true → (rootL Q).1.length = 4 ∧ isQ (rootL Q).1 = true ∧ (rootL Q).1.getD (gre (rootL Q).1) 0 ≤ turned (rootL Q).1 (gre (rootL Q).1) ∧ ((rootL Q).2 = 0 → (rootL Q).1 = Q)
  | 0, Q, hn, hl, hq => by have := isQ_pos hq; omega
  | n + 1, Q, hn, hl, hq => by
    by_cases c : turned Q (gre Q) < Q.getD (gre Q) 0
    · have hs := sum_step hl c
      have hp := isQ_pos hq
      obtain ⟨h1, h2, h3, _⟩ := rootL_end n (Q.set (gre Q) (turned Q (gre Q))) (by omega) (by simpa using hl) (isQ_step hl hq c)
      rw [rootL_step hl hq c]
      exact ⟨h1, h2, h3, fun h => by simp at h⟩
    · rw [rootL_stop (by omega)]
      exact ⟨hl, hq, Int.not_lt.1 c, fun _ => rfl⟩
theorem rootS_perm' {Q : List Int} : (rootS Q).Perm (rootL Q).1 := List.mergeSort_perm _ _
theorem rootS_srt (Q : List Int) : rootS Q = srt4 (rootS Q) := by
  unfold rootS; exact (srt4_perm (List.mergeSort_perm _ _)).symm
/-- A root is one. -/
theorem rootS_isR {Q : List Int} (hl : Q.length = 4) (hq : isQ Q = true) : (rootS Q).length = 4 ∧ isR (rootS Q) = true ∧ rootL (rootS Q) = (rootS Q, 0) ∧ ((rootL Q).2 = 0 → rootS Q = srt4 Q) := by
  obtain ⟨h1, h2, h3, h4⟩ := rootL_end _ Q (Nat.le_refl _) hl hq
  have hp := rootS_perm' (Q := Q)
  have hlS : (rootS Q).length = 4 := hp.length_eq.trans h1
  have hqS : isQ (rootS Q) = true := isQ_perm hp ▸ h2
  have hv := gre_val hlS hp
  have ht := turned_perm hp hv
  have hstop : (rootS Q).getD (gre (rootS Q)) 0 ≤ turned (rootS Q) (gre (rootS Q)) := by omega
  refine ⟨hlS, ?_, rootL_stop hstop, fun h => by unfold rootS; rw [h4 h]⟩
  have hs := rootS_srt Q
  have hsrt := srt_iff.1 hs
  have hall := isQ_all hqS
  have hmax := gre_max hlS
  have hmem := getD_mem (A := rootS Q) (i := gre (rootS Q)) (by have := gre_lt (rootS Q); omega)
  generalize rootS Q = R at *
  simp only [isR, hqS, Bool.true_and]
  rw [decide_eq_true hs]
  simp only [isQ, Bool.and_eq_true, decide_eq_true_eq] at hqS
  obtain ⟨_, hpos, heq⟩ := hqS
  match R, hlS with
  | [a, b, c, d], _ =>
    have hab := hsrt 0 1 (by omega) (by simp)
    have hbc := hsrt 1 2 (by omega) (by simp)
    have hcd := hsrt 2 3 (by omega) (by simp)
    simp only [List.getD_cons_zero, List.getD_cons_succ] at hab hbc hcd ⊢
    simp only [sum1, sum2] at hpos heq
    have hd : ([a, b, c, d] : List Int).getD (gre [a, b, c, d]) 0 = d := by
      have h1 := hmax d (by simp)
      simp only [List.mem_cons, List.not_mem_nil, or_false] at hmem
      rcases hmem with h | h | h | h <;> omega
    simp only [turned, hd, sum1] at hstop
    have h3 : d ≤ a + b + c := by omega
    have h0 : a ≤ 0 := by
      rcases Int.lt_or_le 0 a with w | w
      · exfalso
        have e : (a + b + c - d) * (a + b + c - d) = 4 * (a * b) + 4 * (c * (a + b)) := by grind
        have hu := sq_mono' (show 0 ≤ a + b + c - d by omega) (show a + b + c - d ≤ a + b by omega)
        have e2 : (a + b) * (a + b) = (b - a) * (b - a) + 4 * (a * b) := by grind
        have hba := sq_mono' (show 0 ≤ b - a by omega) (show b - a ≤ b by omega)
        have hcb : b * b ≤ c * (a + b) := Int.mul_le_mul hbc (by omega) (by omega) (by omega)
        have hbb : 0 < b * b := Int.mul_pos (by omega) (by omega)
        omega
      · exact w
    rw [decide_eq_true h0, decide_eq_true h3]; rfl
end Go.Proofs.Ytdanjjhgfkfghaa
set_option maxRecDepth 100000
set_option maxHeartbeats 8000000
set_option linter.unusedSimpArgs false
set_option linter.unusedVariables false
namespace Go.Proofs.Ytdanjjhgfkfghaa
open Go.Ds
theorem turnsR_ok {Q l : List Int} (hl : Q.length = 4) (hq : isQ Q = true) : ((turnsR Q l).2 ≠ 0 → (turnsR Q l).1 = Z4) ∧ ((turnsR Q l).2 = 0 → (turnsR Q l).1.length = 4 ∧ isQ (turnsR Q l).1 = true ∧ rootS (turnsR Q l).1 = rootS Q) := by
  rw [turnsR_eq, if_pos hq]
  by_cases c : 60 < l.length
  · rw [if_pos c]; exact ⟨fun _ => rfl, fun h => by simp at h⟩
  · rw [if_neg c]
    refine ⟨fun h => ?_, fun h => turnsE_root l Q hl hq h⟩
    rw [turnsE_eq] at h ⊢
    by_cases c : (turnsF Q l).2 = 0
    · rw [if_pos c] at h; exact absurd c h
    · rw [if_neg c]
theorem rootR_quad {Q : List Int} (hq : isQ Q = true) : rootR Q = (rootS Q, (rootL Q).2, 0) := by rw [rootR, if_pos hq]; rfl
theorem reachedLaw_rets {X : Caller} (hX : Xall X) (Q l : List Int) (hQl : Q.length = 4) (s : Value) (g : GH) (hs : SlR g s (ints l)) :
    Rets Try.prog X 10 [.agg (ints Q).toArray, s] g (fun v g' lo => g.next ≤ lo ∧ v = .bool true) := by
  have hXX := hX
  have hX := hX.toXok
  refine Rets.run hX.pres p10 (hX.free 10 (by decide) (by decide) (by decide) _ _) rfl fun ho => ?_
  have hz4 := z4len
  have hls := hs.len
  rw [ints_len] at hls
  simp +decide only [dseq, dreg, dbox, dalloc, nV_eq, cellsOf, tick, ev_put, ev_fill, ev_fill0, ev_none, ↓reduceIte, Nat.reduceEqDiff, Nat.reduceAdd]
  obtain ⟨hk0, hok, hnx, g1⟩ := boxQ ho Q 23
  have hs0 := hs.kept hk0
  generalize g.push (cellsOb (ints Q) 23) = G at *
  by_cases c200 : 200 < l.length
  · simp +decide (disch := first | assumption | (apply GH.ok_push; assumption) | exact cellV_int _ _ | exact cellV_bool _ | omega) only [go_sem, ↓reduceIte, Nat.reduceEqDiff, Nat.reduceAdd, Int.reduceToNat, hls]
    refine CallD.calm (hXX.alive G) ?_
    rintro v G1 hx1 rfl
    simp +decide (disch := first | assumption | (apply GH.ok_push; assumption) | exact cellV_int _ _ | exact cellV_bool _ | omega) only [go_sem, ↓reduceIte, Nat.reduceEqDiff, Nat.reduceAdd, Int.reduceToNat]
    intro hx0
    exact ⟨by omega, rfl⟩
  simp +decide (disch := first | assumption | (apply GH.ok_push; assumption) | exact cellV_int _ _ | exact cellV_bool _ | omega) only [go_sem, ↓reduceIte, Nat.reduceEqDiff, Nat.reduceAdd, Int.reduceToNat, hls, g1]
  refine CallD.calm (refQ hXX Q hQl G) ?_
  rintro v G1 hx1 rfl
  have hn1 := hx1.next
  have hok1 := hx1.ok hok
  have g11 := (hx1.gets _ (by omega)).trans g1
  have hs1 := hs0.ext hx1
  by_cases hq : isQ Q = true
  rotate_left
  · have hq' : isQ Q = false := by simpa using hq
    simp +decide (disch := first | assumption | (apply GH.ok_push; assumption) | exact cellV_int _ _ | exact cellV_bool _ | omega) only [go_sem, ↓reduceIte, Nat.reduceEqDiff, Nat.reduceAdd, Int.reduceToNat, hq']
    refine CallD.calm (hXX.alive G1) ?_
    rintro v G2 hx2 rfl
    simp +decide (disch := first | assumption | (apply GH.ok_push; assumption) | exact cellV_int _ _ | exact cellV_bool _ | omega) only [go_sem, ↓reduceIte, Nat.reduceEqDiff, Nat.reduceAdd, Int.reduceToNat]
    intro hx0
    exact ⟨by omega, rfl⟩
  obtain ⟨hRl, hRr, hRR, hR0⟩ := rootS_isR hQl hq
  have hRq : isQ (rootS Q) = true := by simp only [isR, Bool.and_eq_true] at hRr; exact hRr.1
  have hRoot2 : rootR (rootS Q) = (rootS Q, 0, 0) := by
    rw [rootR_quad hRq]
    unfold rootS
    rw [show rootL (srt4 (rootL Q).1) = (srt4 (rootL Q).1, 0) from hRR]
    exact congrArg (fun x => (x, 0, 0)) (rootS_srt Q).symm
  have hsl := srt4_len Q
  simp +decide (disch := first | assumption | (apply GH.ok_push; assumption) | exact cellV_int _ _ | exact cellV_bool _ | omega) only [go_sem, ↓reduceIte, Nat.reduceEqDiff, Nat.reduceAdd, Int.reduceToNat, hq, g11]
  refine CallD.calm (root_rets hXX Q hQl G1) ?_
  rw [rootR_quad hq]
  rintro v G2 hx2 rfl
  have hn2 := hx2.next
  have hok2 := hx2.ok hok1
  have g12 := (hx2.gets _ (by omega)).trans g11
  have hs2 := hs1.ext hx2
  obtain ⟨G3, e3, hk3, hok3, hn3, ga3⟩ := quadNew hok2 hRl
  have g13 := (hk3.gets _ (by omega)).trans g12
  have hs3 := hs2.kept hk3
  simp +decide (disch := first | assumption | (apply GH.ok_push; assumption) | exact cellV_int _ _ | exact cellV_bool _ | omega) only [go_sem, ↓reduceIte, Nat.reduceEqDiff, Nat.reduceAdd, Int.reduceToNat, ext30, ext31, ext2, hok2]
  rw [e3]
  simp +decide (disch := first | assumption | (apply GH.ok_push; assumption) | exact cellV_int _ _ | exact cellV_bool _ | omega) only [go_sem, ↓reduceIte, Nat.reduceEqDiff, Nat.reduceAdd, Int.reduceToNat, ga3]
  refine CallD.calm (root_rets hXX (rootS Q) hRl G3) ?_
  rw [hRoot2]
  rintro v G4 hx4 rfl
  have hn4 := hx4.next
  have hok4 := hx4.ok hok3
  have g14 := (hx4.gets _ (by omega)).trans g13
  have ga4 := (hx4.gets _ (by omega)).trans ga3
  have hs4 := hs3.ext hx4
  obtain ⟨G5, e5, hk5, hok5, hn5, gb5⟩ := quadNew hok4 hRl
  have g15 := (hk5.gets _ (by omega)).trans g14
  have ga5 := (hk5.gets _ (by omega)).trans ga4
  have hs5 := hs4.kept hk5
  obtain ⟨q1, q2⟩ := eqSame hRl
  have hnat0 : ((0 : Nat) : Int) = 0 := rfl
  simp +decide (disch := first | assumption | (apply GH.ok_push; assumption) | exact cellV_int _ _ | exact cellV_bool _ | omega) only [go_sem, ↓reduceIte, Nat.reduceEqDiff, Nat.reduceAdd, Int.reduceToNat, ext30, ext31, ext2, hok4, hnat0]
  rw [e5]
  simp +decide (disch := first | assumption | (apply GH.ok_push; assumption) | exact cellV_int _ _ | exact cellV_bool _ | omega) only [go_sem, ↓reduceIte, Nat.reduceEqDiff, Nat.reduceAdd, Int.reduceToNat, ga5]
  refine CallD.calm (isRoot_rets hXX (rootS Q) hRl G5) ?_
  rw [hRr]
  rintro v G6 hx6 rfl
  have hn6 := hx6.next
  have ga6 := (hx6.gets _ (by omega)).trans ga5
  simp +decide (disch := first | assumption | (apply GH.ok_push; assumption) | exact cellV_int _ _ | exact cellV_bool _ | omega) only [go_sem, ↓reduceIte, Nat.reduceEqDiff, Nat.reduceAdd, Int.reduceToNat, ga6]
  refine CallD.calm (refIsRoot_rets hXX (rootS Q) hRl G6) ?_
  rw [hRr]
  rintro v G7 hx7 rfl
  have hn7 := hx7.next
  have hok7 := hx7.ok (hx6.ok hok5)
  have g17 := (hx7.gets _ (by omega)).trans ((hx6.gets _ (by omega)).trans g15)
  have ga7 := (hx7.gets _ (by omega)).trans ga6
  have gb7 := (hx7.gets _ (by omega)).trans ((hx6.gets _ (by omega)).trans gb5)
  have hs7 := (hs5.ext hx6).ext hx7
  by_cases hn0 : (rootL Q).2 = 0
  · simp +decide (disch := first | assumption | (apply GH.ok_push; assumption) | exact cellV_int _ _ | exact cellV_bool _ | omega) only [go_sem, ↓reduceIte, Nat.reduceEqDiff, Nat.reduceAdd, Int.reduceToNat, ga7, gb7, q1, hn0, hnat0, g17]
    refine CallD.calmH (by simp +decide (disch := first | assumption | (apply GH.ok_push; assumption) | exact cellV_int _ _ | exact cellV_bool _ | omega) only [go_sem, ↓reduceIte, Nat.reduceEqDiff, Nat.reduceAdd, Int.reduceToNat, spansOf, spanAt, Nat.lt_irrefl]; first | done | rfl) rfl (sorted_rets hX Q hQl G7) ?_
    rintro v H hxH rfl
    have qS : eqAF true 4 (.agg (ints (rootS Q)).toArray) (.agg (ints (srt4 Q)).toArray) = some (.bool false) := by rw [← hR0 hn0]; exact q1
    have hnH := hxH.next
    have hokH := hxH.ok hok7
    have g1H := (hxH.gets _ (by omega)).trans g17
    have gaH := (hxH.gets _ (by omega)).trans ga7
    have hsH := hs7.ext hxH
    simp +decide (disch := first | assumption | (apply GH.ok_push; assumption) | exact cellV_int _ _ | exact cellV_bool _ | omega) only [go_sem, ↓reduceIte, Nat.reduceEqDiff, Nat.reduceAdd, Int.reduceToNat, g1H, qS]
    refine CallD.calm (turns_rets hXX Q l (by omega) hQl s H hsH) ?_
    rintro v G9 hx9 rfl
    have hn9 := hx9.next
    have hok9 := hx9.ok hokH
    have g19 := (hx9.gets _ (by omega)).trans g1H
    have ga9 := (hx9.gets _ (by omega)).trans gaH
    obtain ⟨hT0, hT1⟩ := turnsR_ok (l := l) hQl hq
    have hTl := turnsR_len hQl l
    obtain ⟨GA, eA, hkA, hokA, hnA, gtA⟩ := quadNew hok9 hTl
    have g1A := (hkA.gets _ (by omega)).trans g19
    have gaA := (hkA.gets _ (by omega)).trans ga9
    by_cases ce : (turnsR Q l).2 = 0
    · obtain ⟨t1, t2, t3⟩ := hT1 ce
      simp +decide (disch := first | assumption | (apply GH.ok_push; assumption) | exact cellV_int _ _ | exact cellV_bool _ | omega) only [go_sem, ↓reduceIte, Nat.reduceEqDiff, Nat.reduceAdd, Int.reduceToNat, ext0, ext1, hok9, ce]
      rw [eA]
      simp +decide (disch := first | assumption | (apply GH.ok_push; assumption) | exact cellV_int _ _ | exact cellV_bool _ | omega) only [go_sem, ↓reduceIte, Nat.reduceEqDiff, Nat.reduceAdd, Int.reduceToNat, gtA]
      refine CallD.calm (root_rets hXX (turnsR Q l).1 hTl GA) ?_
      rw [rootR_quad t2, t3]
      rintro v GB hxB rfl
      have hnB := hxB.next
      have hokB := hxB.ok hokA
      have g1B := (hxB.gets _ (by omega)).trans g1A
      have gaB := (hxB.gets _ (by omega)).trans gaA
      have gtB := (hxB.gets _ (by omega)).trans gtA
      obtain ⟨GK, eK, hkK, hokK, hnK, gcK⟩ := quadNew hokB hRl
      have g1K := (hkK.gets _ (by omega)).trans g1B
      have gaK := (hkK.gets _ (by omega)).trans gaB
      have gtK := (hkK.gets _ (by omega)).trans gtB
      simp +decide (disch := first | assumption | (apply GH.ok_push; assumption) | exact cellV_int _ _ | exact cellV_bool _ | omega) only [go_sem, ↓reduceIte, Nat.reduceEqDiff, Nat.reduceAdd, Int.reduceToNat, ext30, ext31, ext2, hokB]
      rw [eK]
      simp +decide (disch := first | assumption | (apply GH.ok_push; assumption) | exact cellV_int _ _ | exact cellV_bool _ | omega) only [go_sem, ↓reduceIte, Nat.reduceEqDiff, Nat.reduceAdd, Int.reduceToNat, g1K, gtK]
      refine CallD.calm (sameQ_rets hXX Q (turnsR Q l).1 hQl hTl GK) ?_
      rw [show sameR Q (turnsR Q l).1 = (true, 0) by rw [sameR, rootR_quad hq, rootR_quad t2, t3]; simp]
      rintro v GL hxL rfl
      have hnL := hxL.next
      have gaL := (hxL.gets _ (by omega)).trans gaK
      have gcL := (hxL.gets _ (by omega)).trans gcK
      simp +decide (disch := first | assumption | (apply GH.ok_push; assumption) | exact cellV_int _ _ | exact cellV_bool _ | omega) only [go_sem, ↓reduceIte, Nat.reduceEqDiff, Nat.reduceAdd, Int.reduceToNat, ext0, ext1, gaL, gcL, q2]
      refine CallD.calm (hXX.alive GL) ?_
      rintro v GM hxM rfl
      simp +decide (disch := first | assumption | (apply GH.ok_push; assumption) | exact cellV_int _ _ | exact cellV_bool _ | omega) only [go_sem, ↓reduceIte, Nat.reduceEqDiff, Nat.reduceAdd, Int.reduceToNat]
      intro hx0
      exact ⟨by omega, rfl⟩
    · have hZ := hT0 ce
      rw [hZ] at gtA
      have qz := (eqSame z4len).2
      simp +decide (disch := first | assumption | (apply GH.ok_push; assumption) | exact cellV_int _ _ | exact cellV_bool _ | omega) only [go_sem, ↓reduceIte, Nat.reduceEqDiff, Nat.reduceAdd, Int.reduceToNat, ext0, ext1, hok9, ce]
      rw [eA]
      simp +decide (disch := first | assumption | (apply GH.ok_push; assumption) | exact cellV_int _ _ | exact cellV_bool _ | omega) only [go_sem, ↓reduceIte, Nat.reduceEqDiff, Nat.reduceAdd, Int.reduceToNat, gtA, buildZ, qz]
      refine CallD.calm (hXX.alive GA) ?_
      rintro v GM hxM rfl
      simp +decide (disch := first | assumption | (apply GH.ok_push; assumption) | exact cellV_int _ _ | exact cellV_bool _ | omega) only [go_sem, ↓reduceIte, Nat.reduceEqDiff, Nat.reduceAdd, Int.reduceToNat]
      intro hx0
      exact ⟨by omega, rfl⟩
  · obtain ⟨H, hH⟩ : ∃ H, H = G7 := ⟨_, rfl⟩
    subst hH
    have hxH : GExt H H H.next := GExt.refl H
    have qS := q1
    have ga7 := ga7
    have hnH := hxH.next
    have hokH := hxH.ok hok7
    have g1H := (hxH.gets _ (by omega)).trans g17
    have gaH := (hxH.gets _ (by omega)).trans ga7
    have hsH := hs7.ext hxH
    simp +decide (disch := first | assumption | (apply GH.ok_push; assumption) | exact cellV_int _ _ | exact cellV_bool _ | omega) only [go_sem, ↓reduceIte, Nat.reduceEqDiff, Nat.reduceAdd, Int.reduceToNat, ga7, gb7, q1, g17]
    refine CallD.calm (turns_rets hXX Q l (by omega) hQl s H hsH) ?_
    rintro v G9 hx9 rfl
    have hn9 := hx9.next
    have hok9 := hx9.ok hokH
    have g19 := (hx9.gets _ (by omega)).trans g1H
    have ga9 := (hx9.gets _ (by omega)).trans gaH
    obtain ⟨hT0, hT1⟩ := turnsR_ok (l := l) hQl hq
    have hTl := turnsR_len hQl l
    obtain ⟨GA, eA, hkA, hokA, hnA, gtA⟩ := quadNew hok9 hTl
    have g1A := (hkA.gets _ (by omega)).trans g19
    have gaA := (hkA.gets _ (by omega)).trans ga9
    by_cases ce : (turnsR Q l).2 = 0
    · obtain ⟨t1, t2, t3⟩ := hT1 ce
      simp +decide (disch := first | assumption | (apply GH.ok_push; assumption) | exact cellV_int _ _ | exact cellV_bool _ | omega) only [go_sem, ↓reduceIte, Nat.reduceEqDiff, Nat.reduceAdd, Int.reduceToNat, ext0, ext1, hok9, ce]
      rw [eA]
      simp +decide (disch := first | assumption | (apply GH.ok_push; assumption) | exact cellV_int _ _ | exact cellV_bool _ | omega) only [go_sem, ↓reduceIte, Nat.reduceEqDiff, Nat.reduceAdd, Int.reduceToNat, gtA]
      refine CallD.calm (root_rets hXX (turnsR Q l).1 hTl GA) ?_
      rw [rootR_quad t2, t3]
      rintro v GB hxB rfl
      have hnB := hxB.next
      have hokB := hxB.ok hokA
      have g1B := (hxB.gets _ (by omega)).trans g1A
      have gaB := (hxB.gets _ (by omega)).trans gaA
      have gtB := (hxB.gets _ (by omega)).trans gtA
      obtain ⟨GK, eK, hkK, hokK, hnK, gcK⟩ := quadNew hokB hRl
      have g1K := (hkK.gets _ (by omega)).trans g1B
      have gaK := (hkK.gets _ (by omega)).trans gaB
      have gtK := (hkK.gets _ (by omega)).trans gtB
      simp +decide (disch := first | assumption | (apply GH.ok_push; assumption) | exact cellV_int _ _ | exact cellV_bool _ | omega) only [go_sem, ↓reduceIte, Nat.reduceEqDiff, Nat.reduceAdd, Int.reduceToNat, ext30, ext31, ext2, hokB]
      rw [eK]
      simp +decide (disch := first | assumption | (apply GH.ok_push; assumption) | exact cellV_int _ _ | exact cellV_bool _ | omega) only [go_sem, ↓reduceIte, Nat.reduceEqDiff, Nat.reduceAdd, Int.reduceToNat, g1K, gtK]
      refine CallD.calm (sameQ_rets hXX Q (turnsR Q l).1 hQl hTl GK) ?_
      rw [show sameR Q (turnsR Q l).1 = (true, 0) by rw [sameR, rootR_quad hq, rootR_quad t2, t3]; simp]
      rintro v GL hxL rfl
      have hnL := hxL.next
      have gaL := (hxL.gets _ (by omega)).trans gaK
      have gcL := (hxL.gets _ (by omega)).trans gcK
      simp +decide (disch := first | assumption | (apply GH.ok_push; assumption) | exact cellV_int _ _ | exact cellV_bool _ | omega) only [go_sem, ↓reduceIte, Nat.reduceEqDiff, Nat.reduceAdd, Int.reduceToNat, ext0, ext1, gaL, gcL, q2]
      refine CallD.calm (hXX.alive GL) ?_
      rintro v GM hxM rfl
      simp +decide (disch := first | assumption | (apply GH.ok_push; assumption) | exact cellV_int _ _ | exact cellV_bool _ | omega) only [go_sem, ↓reduceIte, Nat.reduceEqDiff, Nat.reduceAdd, Int.reduceToNat]
      intro hx0
      exact ⟨by omega, rfl⟩
    · have hZ := hT0 ce
      rw [hZ] at gtA
      have qz := (eqSame z4len).2
      simp +decide (disch := first | assumption | (apply GH.ok_push; assumption) | exact cellV_int _ _ | exact cellV_bool _ | omega) only [go_sem, ↓reduceIte, Nat.reduceEqDiff, Nat.reduceAdd, Int.reduceToNat, ext0, ext1, hok9, ce]
      rw [eA]
      simp +decide (disch := first | assumption | (apply GH.ok_push; assumption) | exact cellV_int _ _ | exact cellV_bool _ | omega) only [go_sem, ↓reduceIte, Nat.reduceEqDiff, Nat.reduceAdd, Int.reduceToNat, gtA, buildZ, qz]
      refine CallD.calm (hXX.alive GA) ?_
      rintro v GM hxM rfl
      simp +decide (disch := first | assumption | (apply GH.ok_push; assumption) | exact cellV_int _ _ | exact cellV_bool _ | omega) only [go_sem, ↓reduceIte, Nat.reduceEqDiff, Nat.reduceAdd, Int.reduceToNat]
      intro hx0
      exact ⟨by omega, rfl⟩
theorem reachedLaw_rets' {X : Caller} (hX : Xall X) (Q : List Int) (hQl : Q.length = 4) (l : List Int) (s : Value) (g : GH) (hs : SlR g s (ints l)) :
    Rets Try.prog X 10 [.agg (ints Q).toArray, s] g (fun v g' lo => g.next ≤ lo ∧ v = .bool true) := reachedLaw_rets hX Q l hQl s g hs
end Go.Proofs.Ytdanjjhgfkfghaa
