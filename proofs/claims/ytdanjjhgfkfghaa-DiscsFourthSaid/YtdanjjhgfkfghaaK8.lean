import Derived.Test.YtdanjjhgfkfghaaK6
set_option linter.all false
set_option linter.unusedSimpArgs false
set_option linter.unnecessarySimpa false
set_option linter.unusedVariables false
set_option linter.unusedSectionVars false
set_option maxRecDepth 100000
set_option maxHeartbeats 8000000
set_option linter.unusedSimpArgs false
set_option linter.unusedVariables false
namespace Go.Proofs.Ytdanjjhgfkfghaa
open Go.Ds
/-! ## One root for all that are reached -/
theorem sum1_perm {A B : List Int} (h : A.Perm B) : sum1 A = sum1 B := by
  induction h with
  | nil => rfl
  | cons x _ ih => simp only [sum1, ih]
  | swap x y l => simp only [sum1]; omega
  | trans _ _ h1 h2 => exact h1.trans h2
theorem sum2_perm {A B : List Int} (h : A.Perm B) : sum2 A = sum2 B := by
  induction h with
  | nil => rfl
  | cons x _ ih => simp only [sum2, ih]
  | swap x y l => simp only [sum2]; omega
  | trans _ _ h1 h2 => exact h1.trans h2
theorem isQ_perm {A B : List Int} (h : A.Perm B) : isQ A = isQ B := by
  have h1 : A.all inR = B.all inR := by
    rw [Bool.eq_iff_iff, List.all_eq_true, List.all_eq_true]
    exact ⟨fun k x hx => k x (h.mem_iff.2 hx), fun k x hx => k x (h.mem_iff.1 hx)⟩
  simp only [isQ, h1, sum1_perm h, sum2_perm h]
theorem getD_mem {A : List Int} {i : Nat} (h : i < A.length) : A.getD i 0 ∈ A := by rw [getD_get h]; exact List.getElem_mem h
theorem gre_max {A : List Int} (hl : A.length = 4) : ∀ x ∈ A, x ≤ A.getD (gre A) 0 := by
  intro x hx
  obtain ⟨i, hi, rfl⟩ := List.getElem_of_mem hx
  rw [← getD_get hi]
  exact greN_le A 4 i (by omega)
theorem gre_val {A B : List Int} (ha : A.length = 4) (h : A.Perm B) : A.getD (gre A) 0 = B.getD (gre B) 0 := by
  have hb : B.length = 4 := h.length_eq ▸ ha
  have h1 := gre_max hb _ (h.mem_iff.1 (getD_mem (A := A) (i := gre A) (by have := gre_lt A; omega)))
  have h2 := gre_max ha _ (h.mem_iff.2 (getD_mem (A := B) (i := gre B) (by have := gre_lt B; omega)))
  omega
theorem set_perm {A B : List Int} {i j : Nat} (hi : i < A.length) (hj : j < B.length) (h : A.Perm B) (he : A.getD i 0 = B.getD j 0) (x : Int) : (A.set i x).Perm (B.set j x) := by
  rw [List.perm_iff_count] at h ⊢
  intro a
  have h1 := h a
  rw [List.count_set hi, List.count_set hj]
  rw [getD_get hi, getD_get hj] at he
  rw [he, h1]
theorem turned_perm {A B : List Int} {i j : Nat} (h : A.Perm B) (he : A.getD i 0 = B.getD j 0) : turned A i = turned B j := by
  rw [turned, turned, sum1_perm h, he]
/-- The root, sorted. -/
def rootS (Q : List Int) : List Int := srt4 (rootL Q).1
theorem srt4_perm {A B : List Int} (h : A.Perm B) : srt4 A = srt4 B := by
  have h1 : (srt4 A).Pairwise (fun a b => (decide (a ≤ b)) = true) := List.pairwise_mergeSort (fun a b c h1 h2 => by simp at *; omega) (fun a b => by simp; omega) A
  have h2 : (srt4 B).Pairwise (fun a b => (decide (a ≤ b)) = true) := List.pairwise_mergeSort (fun a b c h1 h2 => by simp at *; omega) (fun a b => by simp; omega) B
  have h1 : (srt4 A).Pairwise (· ≤ ·) := h1.imp fun h => by simpa using h
  have h2 : (srt4 B).Pairwise (· ≤ ·) := h2.imp fun h => by simpa using h
  exact List.Perm.eq_of_pairwise (le := (· ≤ ·)) (fun a b _ _ h1 h2 => Int.le_antisymm h1 h2) h1 h2 ((List.mergeSort_perm A _).trans (h.trans (List.mergeSort_perm B _).symm))
theorem rootS_perm : ∀ (n : Nat) (A B : List Int), (sum1 A).toNat ≤ n → A.length = 4 → isQ A = true → A.Perm B → rootS A = rootS B
  | 0, A, B, hn, hl, hq, h => by have := isQ_pos hq; omega
  | n + 1, A, B, hn, hl, hq, h => by
    have hlB : B.length = 4 := h.length_eq ▸ hl
    have hqB : isQ B = true := isQ_perm h ▸ hq
    have hv := gre_val hl h
    have ht := turned_perm h hv
    by_cases c : turned A (gre A) < A.getD (gre A) 0
    · have hs := sum_step hl c
      have hp := isQ_pos hq
      have ih := rootS_perm n (A.set (gre A) (turned A (gre A))) (B.set (gre B) (turned B (gre B))) (by omega) (by simpa using hl) (isQ_step hl hq c) (by
        rw [ht]; exact set_perm (by have := gre_lt A; omega) (by have := gre_lt B; omega) h hv _)
      unfold rootS at ih ⊢
      rw [rootL_step hl hq c, rootL_step hlB hqB (by omega)]
      exact ih
    · unfold rootS
      rw [rootL_stop (by omega), rootL_stop (by omega)]
      exact srt4_perm h
theorem rootS_step {Q : List Int} (hl : Q.length = 4) (hq : isQ Q = true) (h : turned Q (gre Q) < Q.getD (gre Q) 0) : rootS Q = rootS (Q.set (gre Q) (turned Q (gre Q))) := by
  unfold rootS
  rw [rootL_step hl hq h]
/-- A bend that is greater than all others, and that a turn makes less, is turned on the way to the root. -/
theorem rootS_top {Q : List Int} (hl : Q.length = 4) (hq : isQ Q = true) {i : Nat} (hi : i < 4) (hmax : ∀ x ∈ Q, x ≤ Q.getD i 0) (h : turned Q i < Q.getD i 0) : rootS Q = rootS (Q.set i (turned Q i)) := by
  have hg := gre_lt Q
  have hv : Q.getD (gre Q) 0 = Q.getD i 0 := by
    have h1 := gre_max hl _ (getD_mem (A := Q) (i := i) (by omega))
    have h2 := hmax _ (getD_mem (A := Q) (i := gre Q) (by omega))
    omega
  have ht := turned_perm (List.Perm.refl Q) hv
  rw [rootS_step hl hq (by omega)]
  refine rootS_perm _ _ _ (Nat.le_refl _) (by simpa using hl) (isQ_step hl hq (by omega)) ?_
  rw [ht]
  exact set_perm (by omega) (by omega) (List.Perm.refl Q) hv _
theorem quad_pairs {Q : List Int} (hl : Q.length = 4) (hq : isQ Q = true) : ∃ a b c d, Q = [a, b, c, d] ∧ 0 ≤ a + b ∧ 0 ≤ a + c ∧ 0 ≤ a + d ∧ 0 ≤ b + c ∧ 0 ≤ b + d ∧ 0 ≤ c + d := by
  simp only [isQ, Bool.and_eq_true, decide_eq_true_eq] at hq
  obtain ⟨_, hs, he⟩ := hq
  match Q, hl with
  | [a, b, c, d], _ =>
    simp only [sum1, sum2] at hs he
    exact ⟨a, b, c, d, rfl, pair_nonneg a b c d (by omega) (by grind), pair_nonneg a c b d (by omega) (by grind), pair_nonneg a d b c (by omega) (by grind), pair_nonneg b c a d (by omega) (by grind), pair_nonneg b d a c (by omega) (by grind), pair_nonneg c d a b (by omega) (by grind)⟩
/-- A turn leaves the bend, or makes a greatest one, or turns the greatest one. -/
theorem turned_top {Q : List Int} (hl : Q.length = 4) (hq : isQ Q = true) {i : Nat} (hi : i < 4) : turned Q i = Q.getD i 0 ∨ (turned Q i > Q.getD i 0 ∧ ∀ j, j < 4 → j ≠ i → Q.getD j 0 < turned Q i) ∨ (turned Q i < Q.getD i 0 ∧ ∀ x ∈ Q, x ≤ Q.getD i 0) := by
  obtain ⟨a, b, c, d, rfl, h1, h2, h3, h4, h5, h6⟩ := quad_pairs hl hq
  have hi4 : i = 0 ∨ i = 1 ∨ i = 2 ∨ i = 3 := by omega
  rcases hi4 with rfl | rfl | rfl | rfl <;> simp only [turned, sum1, List.getD_cons_zero, List.getD_cons_succ, List.mem_cons, List.not_mem_nil, or_false, forall_eq_or_imp, forall_eq]
  · rcases Int.lt_trichotomy (2 * (a + (b + (c + (d + 0))) - a) - a) a with w | w | w
    · exact .inr (.inr ⟨w, by omega, by omega, by omega, by omega⟩)
    · exact .inl w
    · refine .inr (.inl ⟨w, fun j hj hne => ?_⟩)
      have : j = 1 ∨ j = 2 ∨ j = 3 := by omega
      rcases this with rfl | rfl | rfl <;> simp only [List.getD_cons_zero, List.getD_cons_succ] <;> omega
  · rcases Int.lt_trichotomy (2 * (a + (b + (c + (d + 0))) - b) - b) b with w | w | w
    · exact .inr (.inr ⟨w, by omega, by omega, by omega, by omega⟩)
    · exact .inl w
    · refine .inr (.inl ⟨w, fun j hj hne => ?_⟩)
      have : j = 0 ∨ j = 2 ∨ j = 3 := by omega
      rcases this with rfl | rfl | rfl <;> simp only [List.getD_cons_zero, List.getD_cons_succ] <;> omega
  · rcases Int.lt_trichotomy (2 * (a + (b + (c + (d + 0))) - c) - c) c with w | w | w
    · exact .inr (.inr ⟨w, by omega, by omega, by omega, by omega⟩)
    · exact .inl w
    · refine .inr (.inl ⟨w, fun j hj hne => ?_⟩)
      have : j = 0 ∨ j = 1 ∨ j = 3 := by omega
      rcases this with rfl | rfl | rfl <;> simp only [List.getD_cons_zero, List.getD_cons_succ] <;> omega
  · rcases Int.lt_trichotomy (2 * (a + (b + (c + (d + 0))) - d) - d) d with w | w | w
    · exact .inr (.inr ⟨w, by omega, by omega, by omega, by omega⟩)
    · exact .inl w
    · refine .inr (.inl ⟨w, fun j hj hne => ?_⟩)
      have : j = 0 ∨ j = 1 ∨ j = 2 := by omega
      rcases this with rfl | rfl | rfl <;> simp only [List.getD_cons_zero, List.getD_cons_succ] <;> omega
theorem set_getD {Q : List Int} {i : Nat} (hi : i < Q.length) : Q.set i (Q.getD i 0) = Q := by
  rw [getD_get hi, List.set_getElem_self]
/-- A turned quad has the same root. -/
theorem rootS_turn {Q : List Int} (hl : Q.length = 4) (hq : isQ Q = true) {i : Nat} (hi : i < 4) (hr : inR (turned Q i) = true) : rootS (Q.set i (turned Q i)) = rootS Q := by
  rcases turned_top hl hq hi with h | ⟨h1, h2⟩ | ⟨h1, h2⟩
  · rw [h, set_getD (by omega)]
  · have hl' : (Q.set i (turned Q i)).length = 4 := by simpa using hl
    have hq' := quad_turn hl hq hi hr
    have hb := turned_back hl hi
    have hget : (Q.set i (turned Q i)).getD i 0 = turned Q i := by rw [getD_set' (by omega), if_pos rfl]
    have := rootS_top hl' hq' hi (fun x hx => by
      obtain ⟨j, hj, rfl⟩ := List.getElem_of_mem hx
      rw [← getD_get hj, hget, getD_set' (by omega)]
      by_cases c : j = i
      · rw [if_pos c]; omega
      · rw [if_neg c]; have := h2 j (by omega) c; omega) (by rw [hb.1, hget]; exact h1)
    rw [this, hb.1, hb.2]
  · exact (rootS_top hl hq hi h2 h1).symm
end Go.Proofs.Ytdanjjhgfkfghaa
