import Derived.Test.YtieliilnnfjijaaK1
import Derived.Test.YtieliilnnfjijaaKd
import Derived.Test.YtieliilnnfjijaaDtO
set_option linter.all false
set_option linter.unusedSimpArgs false
set_option linter.unnecessarySimpa false
set_option linter.unusedVariables false
set_option linter.unusedSectionVars false
set_option maxRecDepth 100000
set_option maxHeartbeats 8000000
set_option linter.unusedSimpArgs false
set_option linter.unusedVariables false
namespace Go.Proofs.Ytieliilnnfjijaa
open Go.Ds
/-! ## Sorting a short row, the greatest first -/
def Srt (L : List Int) : Prop := ∀ p q, p < q → q < L.length → L.getD q 0 ≤ L.getD p 0
theorem getD_get {L : List Int} {i : Nat} (h : i < L.length) : L.getD i 0 = L[i] := by simp [h]
theorem Srt.pairwise {L : List Int} (h : Srt L) : L.Pairwise (· ≥ ·) := by
  rw [List.pairwise_iff_getElem]
  intro i j hi hj hij
  have := h i j hij hj
  rw [getD_get hi, getD_get hj] at this
  exact this
theorem Srt.unique {A B : List Int} (ha : Srt A) (hb : Srt B) (hp : A.Perm B) : A = B :=
  List.Perm.eq_of_pairwise (le := (· ≥ ·)) (fun a b _ _ h1 h2 => Int.le_antisymm h2 h1) ha.pairwise hb.pairwise hp
/-- The numbers at two places exchanged. -/
def swp (L : List Int) (i j : Nat) : List Int := (L.set i (L.getD j 0)).set j (L.getD i 0)
theorem swp_len (L : List Int) (i j : Nat) : (swp L i j).length = L.length := by simp [swp]
theorem getD_set' {L : List Int} {i k : Nat} {x : Int} (h : i < L.length) : (L.set i x).getD k 0 = if k = i then x else L.getD k 0 := by
  rw [List.getD_eq_getElem?_getD, List.getElem?_set, List.getD_eq_getElem?_getD]
  by_cases c : k = i
  · subst c; simp [h]
  · rw [if_neg (Ne.symm c), if_neg c]
theorem swp_get {L : List Int} {i j : Nat} (hi : i < L.length) (hj : j < L.length) (k : Nat) : (swp L i j).getD k 0 = if k = j then L.getD i 0 else if k = i then L.getD j 0 else L.getD k 0 := by
  rw [swp, getD_set' (by simpa using hj), getD_set' hi]
theorem swp_perm {L : List Int} {i j : Nat} (hi : i < L.length) (hj : j < L.length) (hne : i ≠ j) : (swp L i j).Perm L := by
  rw [List.perm_iff_count]
  intro a
  have hj' : j < (L.set i (L.getD j 0)).length := by simpa using hj
  rw [swp, List.count_set hj', List.count_set hi]
  have e1 : (L.set i (L.getD j 0))[j]'hj' = L[j] := by rw [List.getElem_set_ne hne]
  rw [e1, getD_get hi, getD_get hj]
  have c1 : L[i] ∈ L := List.getElem_mem hi
  have p1 : L[i] = a → 0 < List.count a L := fun h => List.count_pos_iff.2 (h ▸ c1)
  by_cases a1 : L[i] = a
  · have := p1 a1
    by_cases a2 : L[j] = a <;> simp [a1, a2] <;> omega
  · by_cases a2 : L[j] = a <;> simp [a1, a2]
/-- A prefix is sorted but for one place. -/
def Ins (L : List Int) (i j : Nat) : Prop := ∀ p q, p < q → q ≤ i → q ≠ j → L.getD q 0 ≤ L.getD p 0
theorem Ins.done {L : List Int} {i j : Nat} (h : Ins L i j) (hj : j = 0 ∨ L.getD j 0 ≤ L.getD (j - 1) 0) : ∀ p q, p < q → q ≤ i → L.getD q 0 ≤ L.getD p 0 := by
  intro p q hpq hq
  by_cases c : q = j
  · subst c
    rcases hj with hj | hj
    · omega
    · by_cases c2 : p = q - 1
      · rw [c2]; exact hj
      · have := h p (q - 1) (by omega) (by omega) (by omega)
        omega
  · exact h p q hpq hq c
theorem Ins.step {L : List Int} {i j : Nat} (h : Ins L i j) (hj : 0 < j) (hji : j ≤ i) (hi : i < L.length) (hlt : L.getD (j - 1) 0 < L.getD j 0) : Ins (swp L j (j - 1)) i (j - 1) := by
  intro p q hpq hq hne
  have e := swp_get (L := L) (i := j) (j := j - 1) (by omega) (by omega)
  rw [e, e, if_neg hne]
  by_cases cq : q = j
  · rw [if_pos cq]
    by_cases cp : p = j - 1
    · rw [if_pos cp]; omega
    · rw [if_neg cp, if_neg (by omega)]
      exact h p (j - 1) (by omega) (by omega) (by omega)
  · rw [if_neg cq]
    by_cases cp : p = j - 1
    · rw [if_pos cp]
      exact h j q (by omega) hq cq
    · rw [if_neg cp]
      by_cases cp2 : p = j
      · rw [if_pos cp2]; exact h (j - 1) q (by omega) hq cq
      · rw [if_neg cp2]; exact h p q hpq hq cq
structure SortR (g : GH) (base lw : Nat) (t : TypeId) (s : Value) (L0 L : List Int) (g' : GH) (lo : Nat) : Prop where
  low : lw ≤ lo
  ok : g'.ok
  below : Below0 g g' base
  row : Row g' s (ints L) t base
  perm : L.Perm L0
theorem sortD_sorted (B : List Int) : Srt (sortD B) := by
  have h : (sortD B).Pairwise (fun a b => decide (b ≤ a) = true) := List.pairwise_mergeSort (fun a b c h1 h2 => by simp at *; omega) (fun a b => by simp; omega) B
  intro p q hpq hq
  have := List.pairwise_iff_getElem.1 h p q (by omega) hq hpq
  rw [getD_get hq, getD_get (by omega)]
  simpa using this
theorem sortFunc_rets {X : Caller} (hX : Xok X) (L0 : List Int) (hn : L0.length < 1000000) (s : Value) (t : TypeId) (base lw : Nat) (g : GH) (hb : base ≤ g.next) (hlw : lw ≤ base) (hr : Row g s (ints L0) t base) :
    Rets Try.prog X 78 [s, .func (.func 79) #[] #[]] g (fun v g' lo => ∃ R, SortR g base lw t s L0 R g' lo ∧ Srt R) :=
  (Rets.sort (fun L => by unfold sortD; simp) hX.sort hr hn hb).mono fun v g' lo _ ⟨_, h2, h3, h4⟩ =>
    ⟨sortD L0, ⟨by omega, h2.ok, ⟨by rw [h2.next]; exact Nat.le_refl _, h2.gets, h2.fams⟩, h3, List.mergeSort_perm _ _⟩, sortD_sorted L0⟩
theorem sortDown_rets {X : Caller} (hX : Xok X) (L0 : List Int) (hn : L0.length < 1000000) (s : Value) (t : TypeId) (base lw : Nat) (g : GH) (hb : base ≤ g.next) (hlw : lw ≤ base) (hr : Row g s (ints L0) t base) :
    Rets Try.prog X 71 [s] g (fun v g' lo => ∃ R, SortR g base lw t s L0 R g' lo ∧ Srt R) := by
  refine Rets.run hX.pres p71 (hX.free 71 (by decide) _ _) rfl fun ho => ?_
  simp +decide (disch := first | assumption | (apply GH.ok_push; assumption) | exact cellV_int _ _ | exact cellV_bool _ | omega) only [go_sem, ↓reduceIte, Nat.reduceEqDiff, Nat.reduceAdd, Int.reduceToNat]
  refine CallD.call (sortFunc_rets hX L0 hn s t base lw g hb hlw hr) ?_
  rintro v G lo hx ⟨R, h1, h2⟩
  simp +decide (disch := first | assumption | (apply GH.ok_push; assumption) | exact cellV_int _ _ | exact cellV_bool _ | omega) only [go_sem, ↓reduceIte, Nat.reduceEqDiff, Nat.reduceAdd, Int.reduceToNat]
  intro hx0
  exact ⟨R, ⟨by have := h1.low; omega, h1.ok, h1.below, h1.row, h1.perm⟩, h2⟩
end Go.Proofs.Ytieliilnnfjijaa
set_option maxRecDepth 100000
set_option maxHeartbeats 8000000
set_option linter.unusedSimpArgs false
set_option linter.unusedVariables false
namespace Go.Proofs.Ytieliilnnfjijaa
open Go.Ds
/-! ## Shapes of beads -/
def rowOf (B : List Int) (r : Nat) : Int := B.getD r 0 - ((B.length : Int) - 1 - r)
def shapeK (B : List Int) (k : Nat) : List Int := (rng k (rowOf B)).filter (fun x => decide (0 < x))
def shapeL (B : List Int) : List Int := shapeK B B.length
theorem shapeK_succ (B : List Int) (k : Nat) : shapeK B (k + 1) = shapeK B k ++ (if 0 < rowOf B k then [rowOf B k] else []) := by
  unfold shapeK
  rw [rng_succ, List.filter_append]
  congr 1
  simp only [List.filter_cons, List.filter_nil]
  split <;> split <;> simp_all
theorem shapeK_len (B : List Int) (k : Nat) : (shapeK B k).length ≤ k := by
  refine Nat.le_trans (List.length_filter_le _ _) ?_
  rw [rng_len]; exact Nat.le_refl _
theorem shapeOwn_rets {X : Caller} (hX : Xok X) (B : List Int) (hf : Fits B) (s : Value) (g : GH) (hs : SlR g s (ints B)) :
    Rets Try.prog X 53 [s] g (fun v g' lo => g.next ≤ lo ∧ Own g' v (ints (shapeL B)) 3 g.next) := by
  refine Rets.run hX.pres p53 (hX.free 53 (by decide) _ _) rfl fun ho => ?_
  have hl := hs.len
  rw [ints_len] at hl
  have hf0 := hf.1
  simp +decide (disch := first | assumption | (apply GH.ok_push; assumption) | exact cellV_int _ _ | exact cellV_bool _ | omega) only [go_sem, ↓reduceIte, Nat.reduceEqDiff, Nat.reduceAdd, Int.reduceToNat, hl]
  refine Wk.loops (fun m e g' lo => g.next ≤ lo ∧ Kept g g' ∧ ∃ i : Nat, i + m = B.length ∧ (ev e (.s 0) = s ∧ ev e (.s 7) = s ∧ ev e (.s 8) = .int .i64 B.length ∧ ev e (.s 9) = .int .i64 i) ∧ ∃ o, ev e (.s 3) = o ∧ Own g' o (ints (shapeK B i)) 3 g.next)
    (fun e g' lo => g.next ≤ lo ∧ ∃ o, ev e (.s 3) = o ∧ Own g' o (ints (shapeL B)) 3 g.next) (n := B.length) ?_ ?_ ?_
  · exact ⟨Nat.le_refl _, Kept.refl _, 0, by omega, (by simp +decide (disch := first | assumption | (apply GH.ok_push; assumption) | exact cellV_int _ _ | exact cellV_bool _ | omega) only [go_sem, ↓reduceIte, Nat.reduceEqDiff, Nat.reduceAdd, Int.reduceToNat]; first | done | exact rfl), .slice none 0 0, (by simp +decide (disch := first | assumption | (apply GH.ok_push; assumption) | exact cellV_int _ _ | exact cellV_bool _ | omega) only [go_sem, ↓reduceIte, Nat.reduceEqDiff, Nat.reduceAdd, Int.reduceToNat]; first | done | exact rfl), Own.nil⟩
  · rintro e g' lo - - ⟨hlo, o, h3, hown⟩
    simp +decide (disch := first | assumption | (apply GH.ok_push; assumption) | exact cellV_int _ _ | exact cellV_bool _ | omega) only [go_sem, ↓reduceIte, Nat.reduceEqDiff, Nat.reduceAdd, Int.reduceToNat, h3]
    exact fun hx => ⟨hlo, hown⟩
  · rintro m e g' lo ho' hl' ih out ⟨hlo, hk, i, hi, he, o, h3, hown⟩
    by_cases c : i < B.length
    · obtain ⟨p, hp1, hp2⟩ := (hs.kept hk).at (ints_get (D := B) (i := i) c)
      have hp1 := hp1 (i : Int) rfl
      have hb := hf.getD i
      have hsn := shapeK_succ B i
      have hll := shapeK_len B i
      have hr : B.getD i 0 - ((B.length : Int) - 1 - i) = rowOf B i := rfl
      by_cases d : 0 < rowOf B i
      · rw [if_pos d] at hsn
        simp +decide (disch := first | assumption | (apply GH.ok_push; assumption) | exact cellV_int _ _ | exact cellV_bool _ | omega) only [go_sem, ↓reduceIte, Nat.reduceEqDiff, Nat.reduceAdd, Int.reduceToNat, he, h3, hl, hp1, hp2, hr]
        refine AppD.own (hown.push ho' _) (SlR.one ho' _ _) (by simp) rfl (by simp [ints_len]; omega) (by have := hk.next; simp [GH.push]; omega) hlo (GH.ok_push ho') (fun s' g2 lo2 sp wr hgr => ?_)
        simp +decide (disch := first | assumption | (apply GH.ok_push; assumption) | exact cellV_int _ _ | exact cellV_bool _ | omega) only [go_sem, ↓reduceIte, Nat.reduceEqDiff, Nat.reduceAdd, Int.reduceToNat, he]
        refine ih (m - 1) _ _ _ (by omega) ⟨hgr.low, (hk.push ho' _).grew hgr (Nat.le_refl _), i + 1, by omega, (by simp +decide (disch := first | assumption | (apply GH.ok_push; assumption) | exact cellV_int _ _ | exact cellV_bool _ | omega) only [go_sem, ↓reduceIte, Nat.reduceEqDiff, Nat.reduceAdd, Int.reduceToNat, he]; first | done | exact rfl), s', (by simp +decide (disch := first | assumption | (apply GH.ok_push; assumption) | exact cellV_int _ _ | exact cellV_bool _ | omega) only [go_sem, ↓reduceIte, Nat.reduceEqDiff, Nat.reduceAdd, Int.reduceToNat]; first | done | exact rfl), ?_⟩
        rw [hsn, ints_app]
        exact hgr.own
      · rw [if_neg d, List.append_nil] at hsn
        simp +decide (disch := first | assumption | (apply GH.ok_push; assumption) | exact cellV_int _ _ | exact cellV_bool _ | omega) only [go_sem, ↓reduceIte, Nat.reduceEqDiff, Nat.reduceAdd, Int.reduceToNat, he, h3, hl, hp1, hp2, hr]
        refine ih (m - 1) _ _ _ (by omega) ⟨hlo, hk, i + 1, by omega, (by simp +decide (disch := first | assumption | (apply GH.ok_push; assumption) | exact cellV_int _ _ | exact cellV_bool _ | omega) only [go_sem, ↓reduceIte, Nat.reduceEqDiff, Nat.reduceAdd, Int.reduceToNat, he]; first | done | exact rfl), o, (by simp +decide (disch := first | assumption | (apply GH.ok_push; assumption) | exact cellV_int _ _ | exact cellV_bool _ | omega) only [go_sem, ↓reduceIte, Nat.reduceEqDiff, Nat.reduceAdd, Int.reduceToNat, h3]; first | done | exact rfl), ?_⟩
        rw [hsn]
        exact hown
    · simp +decide (disch := first | assumption | (apply GH.ok_push; assumption) | exact cellV_int _ _ | exact cellV_bool _ | omega) only [go_sem, ↓reduceIte, Nat.reduceEqDiff, Nat.reduceAdd, Int.reduceToNat, he, h3]
      refine out _ _ _ ⟨hlo, o, (by simp +decide (disch := first | assumption | (apply GH.ok_push; assumption) | exact cellV_int _ _ | exact cellV_bool _ | omega) only [go_sem, ↓reduceIte, Nat.reduceEqDiff, Nat.reduceAdd, Int.reduceToNat, h3]; first | done | exact rfl), ?_⟩
      rw [show i = B.length by omega] at hown; exact hown
theorem shapeOf_rets {X : Caller} (hX : Xok X) (B : List Int) (hf : Fits B) (s : Value) (g : GH) (hs : SlR g s (ints B)) :
    Rets Try.prog X 53 [s] g (fun v g' lo => g.next ≤ lo ∧ SlR g' v (ints (shapeL B))) :=
  (shapeOwn_rets hX B hf s g hs).mono fun v g' lo _ h => ⟨h.1, h.2.read⟩
theorem refShape_rets {X : Caller} (hX : Xok X) (B : List Int) (hf : Fits B) (s : Value) (g : GH) (hs : SlR g s (ints B)) :
    Rets Try.prog X 62 [s] g (fun v g' lo => g.next ≤ lo ∧ SlR g' v (ints (shapeL B))) := by
  refine Rets.run hX.pres p62 (hX.free 62 (by decide) _ _) rfl fun ho => ?_
  have hl := hs.len
  rw [ints_len] at hl
  have hf0 := hf.1
  simp +decide (disch := first | assumption | (apply GH.ok_push; assumption) | exact cellV_int _ _ | exact cellV_bool _ | omega) only [go_sem, ↓reduceIte, Nat.reduceEqDiff, Nat.reduceAdd, Int.reduceToNat, hl]
  refine Wk.loops (fun m e g' lo => g.next ≤ lo ∧ Kept g g' ∧ ∃ i : Nat, i + m = B.length ∧ (ev e (.s 0) = s ∧ ev e (.s 4) = .int .i64 i) ∧ ∃ o, ev e (.s 3) = o ∧ Own g' o (ints (shapeK B i)) 3 g.next)
    (fun e g' lo => g.next ≤ lo ∧ ∃ o, ev e (.s 3) = o ∧ Own g' o (ints (shapeL B)) 3 g.next) (n := B.length) ?_ ?_ ?_
  · exact ⟨Nat.le_refl _, Kept.refl _, 0, by omega, (by simp +decide (disch := first | assumption | (apply GH.ok_push; assumption) | exact cellV_int _ _ | exact cellV_bool _ | omega) only [go_sem, ↓reduceIte, Nat.reduceEqDiff, Nat.reduceAdd, Int.reduceToNat]; first | done | exact rfl), .slice none 0 0, (by simp +decide (disch := first | assumption | (apply GH.ok_push; assumption) | exact cellV_int _ _ | exact cellV_bool _ | omega) only [go_sem, ↓reduceIte, Nat.reduceEqDiff, Nat.reduceAdd, Int.reduceToNat]; first | done | exact rfl), Own.nil⟩
  · rintro e g' lo - - ⟨hlo, o, h3, hown⟩
    simp +decide (disch := first | assumption | (apply GH.ok_push; assumption) | exact cellV_int _ _ | exact cellV_bool _ | omega) only [go_sem, ↓reduceIte, Nat.reduceEqDiff, Nat.reduceAdd, Int.reduceToNat, h3]
    exact fun hx => ⟨hlo, hown.read⟩
  · rintro m e g' lo ho' hl' ih out ⟨hlo, hk, i, hi, he, o, h3, hown⟩
    by_cases c : i < B.length
    · obtain ⟨p, hp1, hp2⟩ := (hs.kept hk).at (ints_get (D := B) (i := i) c)
      have hp1 := hp1 (i : Int) rfl
      have hb := hf.getD i
      have hsn := shapeK_succ B i
      have hll := shapeK_len B i
      have hr : B.getD i 0 - ((B.length : Int) - 1 - i) = rowOf B i := rfl
      by_cases d : 0 < rowOf B i
      · rw [if_pos d] at hsn
        simp +decide (disch := first | assumption | (apply GH.ok_push; assumption) | exact cellV_int _ _ | exact cellV_bool _ | omega) only [go_sem, ↓reduceIte, Nat.reduceEqDiff, Nat.reduceAdd, Int.reduceToNat, he, h3, hl, hp1, hp2, hr]
        refine AppD.own (hown.push ho' _) (SlR.one ho' _ _) (by simp) rfl (by simp [ints_len]; omega) (by have := hk.next; simp [GH.push]; omega) hlo (GH.ok_push ho') (fun s' g2 lo2 sp wr hgr => ?_)
        simp +decide (disch := first | assumption | (apply GH.ok_push; assumption) | exact cellV_int _ _ | exact cellV_bool _ | omega) only [go_sem, ↓reduceIte, Nat.reduceEqDiff, Nat.reduceAdd, Int.reduceToNat, he]
        refine ih (m - 1) _ _ _ (by omega) ⟨hgr.low, (hk.push ho' _).grew hgr (Nat.le_refl _), i + 1, by omega, (by simp +decide (disch := first | assumption | (apply GH.ok_push; assumption) | exact cellV_int _ _ | exact cellV_bool _ | omega) only [go_sem, ↓reduceIte, Nat.reduceEqDiff, Nat.reduceAdd, Int.reduceToNat, he]; first | done | exact rfl), s', (by simp +decide (disch := first | assumption | (apply GH.ok_push; assumption) | exact cellV_int _ _ | exact cellV_bool _ | omega) only [go_sem, ↓reduceIte, Nat.reduceEqDiff, Nat.reduceAdd, Int.reduceToNat]; first | done | exact rfl), ?_⟩
        rw [hsn, ints_app]
        exact hgr.own
      · rw [if_neg d, List.append_nil] at hsn
        simp +decide (disch := first | assumption | (apply GH.ok_push; assumption) | exact cellV_int _ _ | exact cellV_bool _ | omega) only [go_sem, ↓reduceIte, Nat.reduceEqDiff, Nat.reduceAdd, Int.reduceToNat, he, h3, hl, hp1, hp2, hr]
        refine ih (m - 1) _ _ _ (by omega) ⟨hlo, hk, i + 1, by omega, (by simp +decide (disch := first | assumption | (apply GH.ok_push; assumption) | exact cellV_int _ _ | exact cellV_bool _ | omega) only [go_sem, ↓reduceIte, Nat.reduceEqDiff, Nat.reduceAdd, Int.reduceToNat, he]; first | done | exact rfl), o, (by simp +decide (disch := first | assumption | (apply GH.ok_push; assumption) | exact cellV_int _ _ | exact cellV_bool _ | omega) only [go_sem, ↓reduceIte, Nat.reduceEqDiff, Nat.reduceAdd, Int.reduceToNat, h3]; first | done | exact rfl), ?_⟩
        rw [hsn]
        exact hown
    · simp +decide (disch := first | assumption | (apply GH.ok_push; assumption) | exact cellV_int _ _ | exact cellV_bool _ | omega) only [go_sem, ↓reduceIte, Nat.reduceEqDiff, Nat.reduceAdd, Int.reduceToNat, he, h3, hl]
      refine out _ _ _ ⟨hlo, o, (by simp +decide (disch := first | assumption | (apply GH.ok_push; assumption) | exact cellV_int _ _ | exact cellV_bool _ | omega) only [go_sem, ↓reduceIte, Nat.reduceEqDiff, Nat.reduceAdd, Int.reduceToNat, h3]; first | done | exact rfl), ?_⟩
      rw [show i = B.length by omega] at hown; exact hown

/-! ## Sorted, the greatest first -/
theorem sortD_perm (B : List Int) : (sortD B).Perm B := List.mergeSort_perm _ _
theorem sortD_srt (B : List Int) : Srt (sortD B) := by
  have h : (sortD B).Pairwise (fun a b => decide (b ≤ a) = true) := List.pairwise_mergeSort (fun a b c h1 h2 => by simp at *; omega) (fun a b => by simp; omega) B
  rw [List.pairwise_iff_getElem] at h
  intro p q hpq hq
  have := h p q (by omega) hq hpq
  rw [getD_get hq, getD_get (by omega)]
  simpa using this
theorem sortD_of {R B : List Int} (h : Srt R) (p : R.Perm B) : R = sortD B := Srt.unique h (sortD_srt B) (p.trans (sortD_perm B).symm)
/-- The beads with one of them moved down. -/
def movedL (B : List Int) (i : Nat) (t : Int) : List Int := B.set i (B.getD i 0 - t)
theorem movedL_len (B : List Int) (i : Nat) (t : Int) : (movedL B i t).length = B.length := by simp [movedL]
theorem moved_rets {X : Caller} (hX : Xok X) (B : List Int) (hf : Fits B) (hn : B.length ≤ 12) (i : Nat) (hi : i < B.length) (t : Int) (ht : 0 ≤ t ∧ t ≤ 100) (s : Value) (g : GH) (hs : SlR g s (ints B)) :
    Rets Try.prog X 54 [s, .int .i64 i, .int .i64 t] g (fun v g' lo => g.next ≤ lo ∧ SlR g' v (ints (sortD (movedL B i t)))) := by
  refine Rets.run hX.pres p54 (hX.free 54 (by decide) _ _) rfl fun ho => ?_
  have hl := hs.len
  rw [ints_len] at hl
  have hb := hf.getD i
  simp +decide (disch := first | assumption | (apply GH.ok_push; assumption) | exact cellV_int _ _ | exact cellV_bool _ | omega) only [go_sem, ↓reduceIte, Nat.reduceEqDiff, Nat.reduceAdd, Int.reduceToNat, hl]
  refine Wk.mkslice (n := B.length) (c := B.length) (by simp +decide (disch := first | assumption | (apply GH.ok_push; assumption) | exact cellV_int _ _ | exact cellV_bool _ | omega) only [go_sem, ↓reduceIte, Nat.reduceEqDiff, Nat.reduceAdd, Int.reduceToNat]; first | done | exact rfl) (by simp +decide (disch := first | assumption | (apply GH.ok_push; assumption) | exact cellV_int _ _ | exact cellV_bool _ | omega) only [go_sem, ↓reduceIte, Nat.reduceEqDiff, Nat.reduceAdd, Int.reduceToNat]; first | done | exact rfl) (Nat.le_refl _) (by omega) ?_
  simp +decide (disch := first | assumption | (apply GH.ok_push; assumption) | exact cellV_int _ _ | exact cellV_bool _ | omega) only [go_sem, ↓reduceIte, Nat.reduceEqDiff, Nat.reduceAdd, Int.reduceToNat, hl]
  have hs1 := hs.push ho (cellsOb (repeatN [Value.int .i64 0] B.length) 3)
  refine Wk.cpy (j := g.next) (n := B.length) (c := B.length) (cells := ints (rng B.length fun _ => 0)) (new := ints B) (t := 3) (sv := s) (by simp +decide (disch := first | assumption | (apply GH.ok_push; assumption) | exact cellV_int _ _ | exact cellV_bool _ | omega) only [go_sem, ↓reduceIte, Nat.reduceEqDiff, Nat.reduceAdd, Int.reduceToNat]; first | done | exact rfl) (by simp +decide (disch := first | assumption | (apply GH.ok_push; assumption) | exact cellV_int _ _ | exact cellV_bool _ | omega) only [go_sem, ↓reduceIte, Nat.reduceEqDiff, Nat.reduceAdd, Int.reduceToNat]; first | done | exact rfl) hs1 (by rw [GH.get_push ho, if_pos rfl, repeat_rng]) (by rw [ints_len, rng_len]; omega) (Nat.lt_succ_self _) (ints_cell _) (by rw [ints_len]; exact Nat.le_refl _) (GH.ok_push ho) ?_
  intro G lo sp wr hw hlo
  rw [ints_len, zeros_after B B.length (Nat.le_refl _), ← list_rng B] at hw
  have hkG := hw.kept ((Kept.refl g).push ho _) (Nat.le_refl _)
  have hnx : g.next < G.next := by rw [hw.next]; exact Nat.lt_succ_self _
  have hget := hw.get
  have hia := iaddrS_at (j := g.next) (n := B.length) (c := B.length) (m := i) (x := (i : Int)) rfl hi
  have hgi := ints_get (D := B) hi
  simp +decide (disch := first | assumption | (apply GH.ok_push; assumption) | exact cellV_int _ _ | exact cellV_bool _ | omega) only [go_sem, ↓reduceIte, Nat.reduceEqDiff, Nat.reduceAdd, Int.reduceToNat, hget, hia, hgi, ints_len]
  have hw2 := Wrote.set (o := cellsOb (splice i (ints B) [.int .i64 (B.getD i 0 - t)]) 3) hget Nat.one_ne_zero hw.ok
  have hget2 := hw2.get
  have hsp : splice i (ints B) [.int .i64 (B.getD i 0 - t)] = ints (movedL B i t) := by rw [splice_set _ _ _ (by rw [ints_len]; exact hi), ints_set]; rfl
  rw [hsp] at hw2 hget2 ⊢
  have hkG2 := hw2.kept hkG (Nat.le_refl _)
  have hn2 : G.next = (G.set g.next (cellsOb (ints (movedL B i t)) 3)).next := rfl
  obtain ⟨G2, hG2⟩ : ∃ G2, G.set g.next (cellsOb (ints (movedL B i t)) 3) = G2 := ⟨_, rfl⟩
  rw [hG2] at hw2 hget2 hkG2 hn2 ⊢
  refine CallD.call (sortDown_rets hX (movedL B i t) (by rw [movedL_len]; omega) _ 3 g.next g.next G2 (by omega) (Nat.le_refl _) (.inl ⟨g.next, B.length, by rw [ints_len, movedL_len], Nat.le_refl _, by omega, hget2⟩)) ?_
  rintro v G3 lo3 hx3 ⟨R, h1, h2⟩
  have := h1.low
  simp +decide (disch := first | assumption | (apply GH.ok_push; assumption) | exact cellV_int _ _ | exact cellV_bool _ | omega) only [go_sem, ↓reduceIte, Nat.reduceEqDiff, Nat.reduceAdd, Int.reduceToNat]
  intro hx0
  refine ⟨by omega, ?_⟩
  rw [← sortD_of h2 h1.perm]
  have hrd := h1.row.read
  exact hrd
end Go.Proofs.Ytieliilnnfjijaa
set_option maxRecDepth 100000
set_option maxHeartbeats 8000000
set_option linter.unusedSimpArgs false
set_option linter.unusedVariables false
namespace Go.Proofs.Ytieliilnnfjijaa
open Go.Ds
theorem take_perm_snoc {R B : List Int} {i : Nat} (h : i < B.length) (hp : R.Perm (B.take i)) : (R ++ [B.getD i 0]).Perm (B.take (i + 1)) := by
  rw [take_snoc B i h]
  exact hp.append_right _
theorem getD_snoc (R : List Int) (x : Int) : (R ++ [x]).getD R.length 0 = x := by simp
theorem getD_app (R : List Int) (x : Int) {i : Nat} (h : i < R.length) : (R ++ [x]).getD i 0 = R.getD i 0 := by
  simp [List.getD_eq_getElem?_getD, List.getElem?_append_left h]
theorem refDesc_rets {X : Caller} (hX : Xok X) (B : List Int) (hn : B.length < 100000) (s : Value) (g : GH) (hs : SlR g s (ints B)) :
    Rets Try.prog X 65 [s] g (fun v g' lo => g.next ≤ lo ∧ SlR g' v (ints (sortD B))) := by
  refine Rets.run hX.pres p65 (hX.free 65 (by decide) _ _) rfl fun ho => ?_
  have hl := hs.len
  rw [ints_len] at hl
  simp +decide (disch := first | assumption | (apply GH.ok_push; assumption) | exact cellV_int _ _ | exact cellV_bool _ | omega) only [go_sem, ↓reduceIte, Nat.reduceEqDiff, Nat.reduceAdd, Int.reduceToNat, hl]
  refine Wk.loops (fun m e g' lo => g.next ≤ lo ∧ Kept g g' ∧ ∃ i : Nat, i + m = B.length ∧ (ev e (.s 0) = s ∧ ev e (.s 4) = .int .i64 i) ∧ ∃ o R, ev e (.s 3) = o ∧ OwnM g' o (ints R) 3 g.next ∧ R.Perm (B.take i) ∧ Srt R)
    (fun e g' lo => g.next ≤ lo ∧ ∃ o R, ev e (.s 3) = o ∧ SlR g' o (ints R) ∧ R.Perm B ∧ Srt R) (n := B.length) ?_ ?_ ?_
  · exact ⟨Nat.le_refl _, Kept.refl _, 0, by omega, (by simp +decide (disch := first | assumption | (apply GH.ok_push; assumption) | exact cellV_int _ _ | exact cellV_bool _ | omega) only [go_sem, ↓reduceIte, Nat.reduceEqDiff, Nat.reduceAdd, Int.reduceToNat]; first | done | exact rfl), .slice none 0 0, [], (by simp +decide (disch := first | assumption | (apply GH.ok_push; assumption) | exact cellV_int _ _ | exact cellV_bool _ | omega) only [go_sem, ↓reduceIte, Nat.reduceEqDiff, Nat.reduceAdd, Int.reduceToNat]; first | done | exact rfl), OwnM.nil, List.Perm.refl _, fun p q h1 h2 => by simp at h2⟩
  · rintro e g' lo - - ⟨hlo, o, R, h3, hown, hp, hsr⟩
    simp +decide (disch := first | assumption | (apply GH.ok_push; assumption) | exact cellV_int _ _ | exact cellV_bool _ | omega) only [go_sem, ↓reduceIte, Nat.reduceEqDiff, Nat.reduceAdd, Int.reduceToNat, h3]
    intro hx
    refine ⟨hlo, ?_⟩
    rw [← sortD_of hsr hp]
    exact hown
  · rintro m e g' lo ho' hl' ih out ⟨hlo, hk, i, hi, he, o, R, h3, hown, hp, hsr⟩
    have hgn := hk.next
    by_cases c : i < B.length
    · obtain ⟨j0, o0, hj0, hp1, hp2⟩ := (hs.kept hk).ptr (ints_get (D := B) (i := i) c)
      have hp1 := hp1 (i : Int) rfl
      have hRl : R.length = i := by have := hp.length_eq; simp at this; omega
      have hkp := hk.push ho' (cellsOb [.int .i64 (B.getD i 0)] 3)
      simp +decide (disch := first | assumption | (apply GH.ok_push; assumption) | exact cellV_int _ _ | exact cellV_bool _ | omega) only [go_sem, ↓reduceIte, Nat.reduceEqDiff, Nat.reduceAdd, Int.reduceToNat, he, h3, hl, hp1, hp2]
      refine AppD.ownM (hown.kept ((Kept.refl g').push ho' _)) (SlR.one ho' _ _) (by simp) rfl (by simp [ints_len]; omega) (by simp [GH.push]; omega) hlo (Nat.le_refl _) (GH.ok_push ho') (fun s' g2 lo2 sp wr hgr hlo2 => ?_)
      have hk2 := hkp.grewM hgr (Nat.le_refl _)
      have hown2 := hgr.own
      rw [← show ints (R ++ [B.getD i 0]) = ints R ++ [.int .i64 (B.getD i 0)] from ints_app _ _] at hown2
      have hl2 := hown2.own.read.len
      rw [ints_len, List.length_append, hRl] at hl2
      have hl2' : lenLF s' = some (.int .i64 ((i : Int) + 1)) := by rw [hl2]; simp
      simp +decide (disch := first | assumption | (apply GH.ok_push; assumption) | exact cellV_int _ _ | exact cellV_bool _ | omega) only [go_sem, ↓reduceIte, Nat.reduceEqDiff, Nat.reduceAdd, Int.reduceToNat, he, hl2']
      have hperm := take_perm_snoc c hp
      have hins : Ins (R ++ [B.getD i 0]) i i := fun p q h1 h2 h3 => by
        rw [getD_app R _ (by omega), getD_app R _ (by omega)]
        exact hsr p q h1 (by omega)
      refine Wk.loops (fun m e g3 lo3 => g.next ≤ lo3 ∧ Kept g g3 ∧ ∃ (j : Nat) (R2 : List Int), j = m ∧ j ≤ i ∧ (ev e (.s 0) = s ∧ ev e (.s 3) = s' ∧ ev e (.s 4) = .int .i64 i ∧ ev e (.s 5) = .int .i64 j) ∧ OwnM g3 s' (ints R2) 3 g.next ∧ R2.Perm (B.take (i + 1)) ∧ Ins R2 i j)
        (fun e g3 lo3 => g.next ≤ lo3 ∧ Kept g g3 ∧ ∃ (R2 : List Int), (ev e (.s 0) = s ∧ ev e (.s 3) = s' ∧ ev e (.s 4) = .int .i64 i) ∧ OwnM g3 s' (ints R2) 3 g.next ∧ R2.Perm (B.take (i + 1)) ∧ Srt R2) (n := i) ?_ ?_ ?_
      · exact ⟨hlo2, hk2, i, _, rfl, Nat.le_refl _, (by simp +decide (disch := first | assumption | (apply GH.ok_push; assumption) | exact cellV_int _ _ | exact cellV_bool _ | omega) only [go_sem, ↓reduceIte, Nat.reduceEqDiff, Nat.reduceAdd, Int.reduceToNat, he]; congr 1; omega), hown2, hperm, hins⟩
      · rintro e g3 lo3 - - ⟨hlo3, hk3, R2, he, hown3, hp3, hs3⟩
        simp +decide (disch := first | assumption | (apply GH.ok_push; assumption) | exact cellV_int _ _ | exact cellV_bool _ | omega) only [go_sem, ↓reduceIte, Nat.reduceEqDiff, Nat.reduceAdd, Int.reduceToNat, he]
        exact ih (m - 1) _ _ _ (by omega) ⟨hlo3, hk3, i + 1, by omega, (by simp +decide (disch := first | assumption | (apply GH.ok_push; assumption) | exact cellV_int _ _ | exact cellV_bool _ | omega) only [go_sem, ↓reduceIte, Nat.reduceEqDiff, Nat.reduceAdd, Int.reduceToNat, he]; first | done | exact rfl), s', R2, (by simp +decide (disch := first | assumption | (apply GH.ok_push; assumption) | exact cellV_int _ _ | exact cellV_bool _ | omega) only [go_sem, ↓reduceIte, Nat.reduceEqDiff, Nat.reduceAdd, Int.reduceToNat, he]; first | done | exact rfl), hown3, hp3, hs3⟩
      · rintro m2 e g3 lo3 ho3 hl3 ih2 out2 ⟨hlo3, hk3, j, R2, rfl, hji, he, hown3, hp3, hins3⟩
        have hRl2 : R2.length = i + 1 := by have := hp3.length_eq; simp at this; omega
        by_cases cj : 0 < j
        · obtain ⟨j1, b1, x1, l1, a1⟩ := Row.at (.inr hown3) (ints_get (D := R2) (i := j) (by omega))
          obtain ⟨j2, b2, x2, l2, a2⟩ := Row.at (.inr hown3) (ints_get (D := R2) (i := j - 1) (by omega))
          have x1 := x1 (j : Int) rfl
          have x2 := x2 ((j : Int) - 1) (by omega)
          by_cases d : R2.getD (j - 1) 0 < R2.getD j 0
          · simp +decide (disch := first | assumption | (apply GH.ok_push; assumption) | exact cellV_int _ _ | exact cellV_bool _ | omega) only [go_sem, ↓reduceIte, Nat.reduceEqDiff, Nat.reduceAdd, Int.reduceToNat, he, x1, x2, l1, l2]
            refine OwnM.put hown3 a1 (by rw [ints_len]; omega) (by simp +decide (disch := first | assumption | (apply GH.ok_push; assumption) | exact cellV_int _ _ | exact cellV_bool _ | omega) only [go_sem, ↓reduceIte, Nat.reduceEqDiff, Nat.reduceAdd, Int.reduceToNat, he, x1]; first | done | exact rfl) (by simp +decide (disch := first | assumption | (apply GH.ok_push; assumption) | exact cellV_int _ _ | exact cellV_bool _ | omega) only [go_sem, ↓reduceIte, Nat.reduceEqDiff, Nat.reduceAdd, Int.reduceToNat, he, l2]; first | done | exact rfl) rfl rfl ho3 hlo3 (Nat.le_refl _) ?_
            intro G2 lo4 wr2 hw2 hr2 hlo4
            rw [ints_set] at hr2
            have hl2 : (R2.set j (R2.getD (j - 1) 0)).length = i + 1 := by simp [hRl2]
            obtain ⟨j4, b4, x4, l4, a4⟩ := Row.at (.inr hr2) (ints_get (D := R2.set j (R2.getD (j - 1) 0)) (i := j - 1) (by omega))
            have x4 := x4 ((j : Int) - 1) (by omega)
            simp +decide (disch := first | assumption | (apply GH.ok_push; assumption) | exact cellV_int _ _ | exact cellV_bool _ | omega) only [go_sem, ↓reduceIte, Nat.reduceEqDiff, Nat.reduceAdd, Int.reduceToNat, he, x4]
            refine OwnM.put hr2 a4 (by rw [ints_len]; omega) (by simp +decide (disch := first | assumption | (apply GH.ok_push; assumption) | exact cellV_int _ _ | exact cellV_bool _ | omega) only [go_sem, ↓reduceIte, Nat.reduceEqDiff, Nat.reduceAdd, Int.reduceToNat, he, x4]; first | done | exact rfl) (by simp +decide (disch := first | assumption | (apply GH.ok_push; assumption) | exact cellV_int _ _ | exact cellV_bool _ | omega) only [go_sem, ↓reduceIte, Nat.reduceEqDiff, Nat.reduceAdd, Int.reduceToNat, he, l1]; first | done | exact rfl) rfl rfl hw2.ok hlo4 (Nat.le_refl _) ?_
            intro G3 lo5 wr3 hw3 hr3 hlo5
            rw [ints_set] at hr3
            simp +decide (disch := first | assumption | (apply GH.ok_push; assumption) | exact cellV_int _ _ | exact cellV_bool _ | omega) only [go_sem, ↓reduceIte, Nat.reduceEqDiff, Nat.reduceAdd, Int.reduceToNat, he]
            refine ih2 (j - 1) _ _ _ (by omega) ⟨hlo5, (hk3.write hw2 (Nat.le_refl _)).write hw3 (Nat.le_refl _), j - 1, swp R2 j (j - 1), rfl, by omega, ?_, hr3, (swp_perm (by omega) (by omega) (by omega)).trans hp3, hins3.step cj hji (by omega) d⟩
            simp +decide (disch := first | assumption | (apply GH.ok_push; assumption) | exact cellV_int _ _ | exact cellV_bool _ | omega) only [go_sem, ↓reduceIte, Nat.reduceEqDiff, Nat.reduceAdd, Int.reduceToNat, he]
            congr 1; omega
          · simp +decide (disch := first | assumption | (apply GH.ok_push; assumption) | exact cellV_int _ _ | exact cellV_bool _ | omega) only [go_sem, ↓reduceIte, Nat.reduceEqDiff, Nat.reduceAdd, Int.reduceToNat, he, x1, x2, l1, l2]
            exact out2 _ _ _ ⟨hlo3, hk3, R2, (by simp +decide (disch := first | assumption | (apply GH.ok_push; assumption) | exact cellV_int _ _ | exact cellV_bool _ | omega) only [go_sem, ↓reduceIte, Nat.reduceEqDiff, Nat.reduceAdd, Int.reduceToNat, he]; first | done | exact rfl), hown3, hp3, fun p q h1 h2 => hins3.done (.inr (by omega)) p q h1 (by omega)⟩
        · simp +decide (disch := first | assumption | (apply GH.ok_push; assumption) | exact cellV_int _ _ | exact cellV_bool _ | omega) only [go_sem, ↓reduceIte, Nat.reduceEqDiff, Nat.reduceAdd, Int.reduceToNat, he]
          exact out2 _ _ _ ⟨hlo3, hk3, R2, (by simp +decide (disch := first | assumption | (apply GH.ok_push; assumption) | exact cellV_int _ _ | exact cellV_bool _ | omega) only [go_sem, ↓reduceIte, Nat.reduceEqDiff, Nat.reduceAdd, Int.reduceToNat, he]; first | done | exact rfl), hown3, hp3, fun p q h1 h2 => hins3.done (.inl (by omega)) p q h1 (by omega)⟩
    · simp +decide (disch := first | assumption | (apply GH.ok_push; assumption) | exact cellV_int _ _ | exact cellV_bool _ | omega) only [go_sem, ↓reduceIte, Nat.reduceEqDiff, Nat.reduceAdd, Int.reduceToNat, he, h3, hl]
      rw [show i = B.length by omega, List.take_length] at hp
      exact out _ _ _ ⟨hlo, o, R, (by simp +decide (disch := first | assumption | (apply GH.ok_push; assumption) | exact cellV_int _ _ | exact cellV_bool _ | omega) only [go_sem, ↓reduceIte, Nat.reduceEqDiff, Nat.reduceAdd, Int.reduceToNat, h3]; first | done | exact rfl), hown.read, hp, hsr⟩
/-! ## Is a number in a list? -/
theorem mem_take_succ {B : List Int} {i : Nat} (h : i < B.length) (x : Int) : x ∈ B.take (i + 1) ↔ x ∈ B.take i ∨ x = B.getD i 0 := by
  rw [take_snoc B i h, List.mem_append, List.mem_singleton]
theorem has_rets {X : Caller} (hX : Xok X) (B : List Int) (x : Int) (hn : B.length < 100000) (s : Value) (g : GH) (hs : SlR g s (ints B)) :
    Rets Try.prog X 72 [s, .int .i64 x] g (fun v g' lo => g.next ≤ lo ∧ v = .bool (decide (x ∈ B))) := by
  refine Rets.run hX.pres p72 (hX.free 72 (by decide) _ _) rfl fun ho => ?_
  have hl := hs.len
  rw [ints_len] at hl
  simp +decide (disch := first | assumption | (apply GH.ok_push; assumption) | exact cellV_int _ _ | exact cellV_bool _ | omega) only [go_sem, ↓reduceIte, Nat.reduceEqDiff, Nat.reduceAdd, Int.reduceToNat, hl]
  refine Wk.loops (fun m e g' lo => g' = g ∧ g.next ≤ lo ∧ ∃ i : Nat, i + m = B.length ∧ (ev e (.s 0) = s ∧ ev e (.s 1) = .int .i64 x ∧ ev e (.s 5) = .int .i64 i) ∧ x ∉ B.take i)
    (fun e g' lo => g' = g ∧ g.next ≤ lo ∧ x ∉ B) (n := B.length) ?_ ?_ ?_
  · exact ⟨rfl, Nat.le_refl _, 0, by omega, (by simp +decide (disch := first | assumption | (apply GH.ok_push; assumption) | exact cellV_int _ _ | exact cellV_bool _ | omega) only [go_sem, ↓reduceIte, Nat.reduceEqDiff, Nat.reduceAdd, Int.reduceToNat]; first | done | exact rfl), by simp⟩
  · rintro e g' lo - - ⟨rfl, hlo, h⟩
    simp +decide (disch := first | assumption | (apply GH.ok_push; assumption) | exact cellV_int _ _ | exact cellV_bool _ | omega) only [go_sem, ↓reduceIte, Nat.reduceEqDiff, Nat.reduceAdd, Int.reduceToNat]
    intro hx
    exact ⟨hlo, by first | rfl | rw [decide_eq_false h]⟩
  · rintro m e g' lo ho' hl' ih out ⟨rfl, hlo, i, hi, he, hm⟩
    by_cases c : i < B.length
    · obtain ⟨p, hp1, hp2⟩ := hs.at (ints_get (D := B) (i := i) c)
      have hp1 := hp1 (i : Int) rfl
      by_cases d : B.getD i 0 = x
      · simp +decide (disch := first | assumption | (apply GH.ok_push; assumption) | exact cellV_int _ _ | exact cellV_bool _ | omega) only [go_sem, ↓reduceIte, Nat.reduceEqDiff, Nat.reduceAdd, Int.reduceToNat, he, hl, hp1, hp2]
        intro hx
        refine ⟨hlo, ?_⟩
        have hm : x ∈ B := d ▸ mem_getD c
        first | rfl | rw [decide_eq_true hm]
      · simp +decide (disch := first | assumption | (apply GH.ok_push; assumption) | exact cellV_int _ _ | exact cellV_bool _ | omega) only [go_sem, ↓reduceIte, Nat.reduceEqDiff, Nat.reduceAdd, Int.reduceToNat, he, hl, hp1, hp2]
        refine ih (m - 1) _ _ _ (by omega) ⟨rfl, hlo, i + 1, by omega, (by simp +decide (disch := first | assumption | (apply GH.ok_push; assumption) | exact cellV_int _ _ | exact cellV_bool _ | omega) only [go_sem, ↓reduceIte, Nat.reduceEqDiff, Nat.reduceAdd, Int.reduceToNat, he]; first | done | exact rfl), ?_⟩
        rw [mem_take_succ c]
        rintro (h | h)
        · exact hm h
        · exact d h.symm
    · simp +decide (disch := first | assumption | (apply GH.ok_push; assumption) | exact cellV_int _ _ | exact cellV_bool _ | omega) only [go_sem, ↓reduceIte, Nat.reduceEqDiff, Nat.reduceAdd, Int.reduceToNat, he, hl]
      refine out _ _ _ ⟨rfl, hlo, ?_⟩
      rwa [List.take_of_length_le (by omega)] at hm
theorem index_rets {X : Caller} (hX : Xok X) (B : List Int) (x : Int) (hn : B.length < 100000) (s : Value) (g : GH) (hs : SlR g s (ints B)) :
    Rets Try.prog X 70 [s, .int .i64 x] g (fun v g' lo => g.next ≤ lo ∧ ∃ n : Int, v = .int .i64 n ∧ (0 ≤ n ↔ x ∈ B)) := by
  refine Rets.run hX.pres p70 (hX.free 70 (by decide) _ _) rfl fun ho => ?_
  have hl := hs.len
  rw [ints_len] at hl
  simp +decide (disch := first | assumption | (apply GH.ok_push; assumption) | exact cellV_int _ _ | exact cellV_bool _ | omega) only [go_sem, ↓reduceIte, Nat.reduceEqDiff, Nat.reduceAdd, Int.reduceToNat, hl]
  refine Wk.loops (fun m e g' lo => g' = g ∧ g.next ≤ lo ∧ ∃ i : Nat, i + m = B.length ∧ (ev e (.s 0) = s ∧ ev e (.s 1) = .int .i64 x ∧ ev e (.s 7) = .int .i64 B.length ∧ ev e (.s 8) = .int .i64 i) ∧ x ∉ B.take i)
    (fun e g' lo => g' = g ∧ g.next ≤ lo ∧ x ∉ B) (n := B.length) ?_ ?_ ?_
  · exact ⟨rfl, Nat.le_refl _, 0, by omega, (by simp +decide (disch := first | assumption | (apply GH.ok_push; assumption) | exact cellV_int _ _ | exact cellV_bool _ | omega) only [go_sem, ↓reduceIte, Nat.reduceEqDiff, Nat.reduceAdd, Int.reduceToNat]; first | done | exact rfl), by simp⟩
  · rintro e g' lo - - ⟨rfl, hlo, h⟩
    simp +decide (disch := first | assumption | (apply GH.ok_push; assumption) | exact cellV_int _ _ | exact cellV_bool _ | omega) only [go_sem, ↓reduceIte, Nat.reduceEqDiff, Nat.reduceAdd, Int.reduceToNat]
    intro hx
    exact ⟨hlo, -1, rfl, by simp [h]⟩
  · rintro m e g' lo ho' hl' ih out ⟨rfl, hlo, i, hi, he, hm⟩
    by_cases c : i < B.length
    · obtain ⟨p, hp1, hp2⟩ := hs.at (ints_get (D := B) (i := i) c)
      have hp1 := hp1 (i : Int) rfl
      by_cases d : x = B.getD i 0
      · simp +decide (disch := first | assumption | (apply GH.ok_push; assumption) | exact cellV_int _ _ | exact cellV_bool _ | omega) only [go_sem, ↓reduceIte, Nat.reduceEqDiff, Nat.reduceAdd, Int.reduceToNat, he, hp1, hp2]
        intro hx
        exact ⟨hlo, (i : Int), rfl, by simp; rw [d]; exact mem_getD c⟩
      · simp +decide (disch := first | assumption | (apply GH.ok_push; assumption) | exact cellV_int _ _ | exact cellV_bool _ | omega) only [go_sem, ↓reduceIte, Nat.reduceEqDiff, Nat.reduceAdd, Int.reduceToNat, he, hp1, hp2]
        refine ih (m - 1) _ _ _ (by omega) ⟨rfl, hlo, i + 1, by omega, (by simp +decide (disch := first | assumption | (apply GH.ok_push; assumption) | exact cellV_int _ _ | exact cellV_bool _ | omega) only [go_sem, ↓reduceIte, Nat.reduceEqDiff, Nat.reduceAdd, Int.reduceToNat, he]; first | done | exact rfl), ?_⟩
        rw [mem_take_succ c]
        rintro (h | h)
        · exact hm h
        · exact d h
    · simp +decide (disch := first | assumption | (apply GH.ok_push; assumption) | exact cellV_int _ _ | exact cellV_bool _ | omega) only [go_sem, ↓reduceIte, Nat.reduceEqDiff, Nat.reduceAdd, Int.reduceToNat, he]
      refine out _ _ _ ⟨rfl, hlo, ?_⟩
      rwa [List.take_of_length_le (by omega)] at hm
theorem contains_rets {X : Caller} (hX : Xok X) (B : List Int) (x : Int) (hn : B.length < 100000) (s : Value) (g : GH) (hs : SlR g s (ints B)) :
    Rets Try.prog X 52 [s, .int .i64 x] g (fun v g' lo => g.next ≤ lo ∧ v = .bool (decide (x ∈ B))) := by
  refine Rets.run hX.pres p52 (hX.free 52 (by decide) _ _) rfl fun ho => ?_
  simp +decide (disch := first | assumption | (apply GH.ok_push; assumption) | exact cellV_int _ _ | exact cellV_bool _ | omega) only [go_sem, ↓reduceIte, Nat.reduceEqDiff, Nat.reduceAdd, Int.reduceToNat]
  refine CallD.calm (index_rets hX B x hn s g hs) ?_
  rintro v G hx ⟨n, rfl, hnx⟩
  have hn2 := hx.next
  simp +decide (disch := first | assumption | (apply GH.ok_push; assumption) | exact cellV_int _ _ | exact cellV_bool _ | omega) only [go_sem, ↓reduceIte, Nat.reduceEqDiff, Nat.reduceAdd, Int.reduceToNat]
  intro hx0
  refine ⟨by omega, ?_⟩
  congr 1
  exact decide_eq_decide.2 hnx
def isWires (t : Int) : Bool := decide (2 ≤ t) && decide (t ≤ 6)
theorem wires_rets {X : Caller} (hX : Xok X) (t : Int) (g : GH) : Rets Try.prog X 51 [.int .i64 t] g (fun v g' lo => g.next ≤ lo ∧ v = .bool (isWires t)) := by
  refine Rets.run hX.pres p51 (hX.free 51 (by decide) _ _) rfl fun ho => ?_
  by_cases c : 2 ≤ t
  · by_cases d : t ≤ 6
    · simp +decide (disch := first | assumption | (apply GH.ok_push; assumption) | exact cellV_int _ _ | exact cellV_bool _ | omega) only [go_sem, ↓reduceIte, Nat.reduceEqDiff, Nat.reduceAdd, Int.reduceToNat]
      intro hx
      exact ⟨Nat.le_refl _, by rw [isWires, decide_eq_true c, decide_eq_true d]; rfl⟩
    · simp +decide (disch := first | assumption | (apply GH.ok_push; assumption) | exact cellV_int _ _ | exact cellV_bool _ | omega) only [go_sem, ↓reduceIte, Nat.reduceEqDiff, Nat.reduceAdd, Int.reduceToNat]
      intro hx
      exact ⟨Nat.le_refl _, by rw [isWires, decide_eq_false d]; simp⟩
  · simp +decide (disch := first | assumption | (apply GH.ok_push; assumption) | exact cellV_int _ _ | exact cellV_bool _ | omega) only [go_sem, ↓reduceIte, Nat.reduceEqDiff, Nat.reduceAdd, Int.reduceToNat]
    intro hx
    exact ⟨Nat.le_refl _, by rw [isWires, decide_eq_false c]; rfl⟩
end Go.Proofs.Ytieliilnnfjijaa
set_option maxRecDepth 100000
set_option maxHeartbeats 8000000
set_option linter.unusedSimpArgs false
set_option linter.unusedVariables false
namespace Go.Proofs.Ytieliilnnfjijaa
open Go.Ds
theorem refWires_rets {X : Caller} (hX : Xok X) (t : Int) (g : GH) : Rets Try.prog X 43 [.int .i64 t] g (fun v g' lo => g.next ≤ lo ∧ v = .bool (isWires t)) := by
  refine Rets.run hX.pres p43 (hX.free 43 (by decide) _ _) rfl fun ho => ?_
  by_cases c : 2 ≤ t
  · by_cases d : t ≤ 6
    · simp +decide (disch := first | assumption | (apply GH.ok_push; assumption) | exact cellV_int _ _ | exact cellV_bool _ | omega) only [go_sem, ↓reduceIte, Nat.reduceEqDiff, Nat.reduceAdd, Int.reduceToNat]
      intro hx
      exact ⟨Nat.le_refl _, by rw [isWires, decide_eq_true c, decide_eq_true d]; rfl⟩
    · simp +decide (disch := first | assumption | (apply GH.ok_push; assumption) | exact cellV_int _ _ | exact cellV_bool _ | omega) only [go_sem, ↓reduceIte, Nat.reduceEqDiff, Nat.reduceAdd, Int.reduceToNat]
      intro hx
      exact ⟨Nat.le_refl _, by rw [isWires, decide_eq_false d]; simp⟩
  · simp +decide (disch := first | assumption | (apply GH.ok_push; assumption) | exact cellV_int _ _ | exact cellV_bool _ | omega) only [go_sem, ↓reduceIte, Nat.reduceEqDiff, Nat.reduceAdd, Int.reduceToNat]
    intro hx
    exact ⟨Nat.le_refl _, by rw [isWires, decide_eq_false c]; rfl⟩
/-! ## Lists of lists that are appended to -/
def Own2 (g : GH) (o : Value) (LL : List (List Int)) (base : Nat) : Prop := ∃ vs : List Value, Own g o vs 22 base ∧ vs.length = LL.length ∧ ∀ (i : Nat) v L, vs[i]? = some v → LL[i]? = some L → SlR g v (ints L)
theorem Own2.nil {g : GH} {base : Nat} : Own2 g (.slice none 0 0) [] base := ⟨[], Own.nil, rfl, fun i v L h => by simp at h⟩
theorem Own2.read {g : GH} {o : Value} {LL : List (List Int)} {base : Nat} (h : Own2 g o LL base) : Sl2 g o LL := by
  obtain ⟨vs, h1, h2, h3⟩ := h
  exact ⟨vs, h1.read, h2, h3⟩
theorem Own2.kept {g g' : GH} {o : Value} {LL : List (List Int)} {base : Nat} (h : Own2 g o LL base) (k : Kept g g') : Own2 g' o LL base := by
  obtain ⟨vs, h1, h2, h3⟩ := h
  exact ⟨vs, h1.kept k, h2, fun i v L a b => (h3 i v L a b).kept k⟩
theorem Own2.grew {g g' : GH} {s' u : Value} {LL : List (List Int)} {M : List Int} {vs : List Value} {base : Nat} (h2 : vs.length = LL.length) (h3 : ∀ (i : Nat) v L, vs[i]? = some v → LL[i]? = some L → SlR g v (ints L)) (hu : SlR g u (ints M)) (hgr : Grew2 g g' s' (vs ++ [u]) 22 base) : Own2 g' s' (LL ++ [M]) base := by
  refine ⟨vs ++ [u], hgr.own, by simp [h2], fun i v L hv hL => hgr.read _ _ ?_⟩
  by_cases c : i < vs.length
  · rw [List.getElem?_append_left c] at hv
    rw [List.getElem?_append_left (by omega)] at hL
    exact h3 i v L hv hL
  · rw [List.getElem?_append_right (by omega)] at hv
    rw [List.getElem?_append_right (by omega)] at hL
    have hi : i = vs.length := by
      have := (List.getElem?_eq_some_iff.1 hv).1
      simp at this; omega
    subst hi
    rw [show vs.length - LL.length = 0 by omega] at hL
    simp at hv hL
    subst hv; subst hL
    exact hu
/-! ## Strips -/
def canB (B : List Int) (t : Int) (i : Nat) : Bool := decide (t ≤ B.getD i 0) && !decide (B.getD i 0 - t ∈ B)
def leftB (B : List Int) (t : Int) (i : Nat) : List Int := shapeL (sortD (movedL B i t))
def stripsK (B : List Int) (t : Int) (k : Nat) : List (List Int) := ((List.range k).filter (canB B t)).map (leftB B t)
def stripsB (B : List Int) (t : Int) : List (List Int) := stripsK B t B.length
theorem stripsK_succ (B : List Int) (t : Int) (k : Nat) : stripsK B t (k + 1) = stripsK B t k ++ (if canB B t k = true then [leftB B t k] else []) := by
  unfold stripsK
  rw [List.range_succ, List.filter_append, List.map_append]
  congr 1
  simp only [List.filter_cons, List.filter_nil]
  split <;> simp
theorem stripsK_len (B : List Int) (t : Int) (k : Nat) : (stripsK B t k).length ≤ k := by
  unfold stripsK
  rw [List.length_map]
  refine Nat.le_trans (List.length_filter_le _ _) ?_
  simp
theorem Fits.set {B : List Int} (h : Fits B) {i : Nat} {x : Int} (hx : -1000000 ≤ x ∧ x ≤ 1000000) : Fits (B.set i x) :=
  ⟨by rw [List.length_set]; exact h.1, fun y hy => by
    rcases List.mem_or_eq_of_mem_set hy with hy | hy
    · exact h.2 y hy
    · omega⟩
theorem Fits.perm {A B : List Int} (h : Fits B) (p : A.Perm B) : Fits A := ⟨by rw [p.length_eq]; exact h.1, fun x hx => h.2 x (p.mem_iff.1 hx)⟩
/-- What is said of beads throughout. -/
structure Beads (B : List Int) : Prop where
  len : B.length ≤ 12
  bnd : ∀ x ∈ B, 0 ≤ x ∧ x ≤ 1000
theorem Beads.fits {B : List Int} (h : Beads B) : Fits B := ⟨by have := h.len; omega, fun x hx => by have := h.bnd x hx; omega⟩
theorem Beads.getD {B : List Int} (h : Beads B) (i : Nat) : 0 ≤ B.getD i 0 ∧ B.getD i 0 ≤ 1000 := by
  by_cases c : i < B.length
  · exact h.bnd _ (mem_getD c)
  · rw [List.getD_eq_getElem?_getD, List.getElem?_eq_none (by omega)]; decide
theorem beadsR_beads {L : List Int} (hS : isShape L = true) : Beads (beadsR L L.length) := by
  obtain ⟨c1, c2, c3⟩ := shape_facts hS
  refine ⟨by rw [beadsR_len]; exact c1, fun x hx => ?_⟩
  simp only [beadsR, rng, List.mem_map, List.mem_range] at hx
  obtain ⟨r, hr, rfl⟩ := hx
  have := desc_getD c2 hr
  omega
/-- The program's strips, for a shape and a number of wires. -/
def stripsT (L : List Int) (t : Int) : List (List Int) × Int := if isShape L = true ∧ isWires t = true then (stripsB (beadsR L L.length) t, 0) else ([], 2)
theorem stripsT_rets {X : Caller} (hX : Xok X) (L : List Int) (hL : L.length < 1000000) (t : Int) (s : Value) (g : GH) (hs : SlR g s (ints L)) :
    Rets Try.prog X 27 [s, .int .i64 t] g (fun v g' lo => g.next ≤ lo ∧ Ret2 g' v (stripsT L t)) := by
  refine Rets.run hX.pres p27 (hX.free 27 (by decide) _ _) rfl fun ho => ?_
  have hl := hs.len
  rw [ints_len] at hl
  simp +decide (disch := first | assumption | (apply GH.ok_push; assumption) | exact cellV_int _ _ | exact cellV_bool _ | omega) only [go_sem, ↓reduceIte, Nat.reduceEqDiff, Nat.reduceAdd, Int.reduceToNat]
  refine CallD.calm (isShape_rets hX L hL s g hs) ?_
  rintro v G hx rfl
  have hn := hx.next
  by_cases c : isShape L = true
  case neg =>
    have c' : isShape L = false := by simpa using c
    have hT : stripsT L t = ([], 2) := by rw [stripsT, if_neg (fun h => c h.1)]
    simp +decide (disch := first | assumption | (apply GH.ok_push; assumption) | exact cellV_int _ _ | exact cellV_bool _ | omega) only [go_sem, ↓reduceIte, Nat.reduceEqDiff, Nat.reduceAdd, Int.reduceToNat, c']
    intro hx0
    exact ⟨by omega, _, by rw [hT], by rw [hT]; exact Sl2.nil⟩
  simp +decide (disch := first | assumption | (apply GH.ok_push; assumption) | exact cellV_int _ _ | exact cellV_bool _ | omega) only [go_sem, ↓reduceIte, Nat.reduceEqDiff, Nat.reduceAdd, Int.reduceToNat, c]
  refine CallD.calm (wires_rets hX t G) ?_
  rintro v G1 hx1 rfl
  have hn1 := hx1.next
  have hs1 := (hs.ext hx).ext hx1
  by_cases d : isWires t = true
  case neg =>
    have d' : isWires t = false := by simpa using d
    have hT : stripsT L t = ([], 2) := by rw [stripsT, if_neg (fun h => d h.2)]
    simp +decide (disch := first | assumption | (apply GH.ok_push; assumption) | exact cellV_int _ _ | exact cellV_bool _ | omega) only [go_sem, ↓reduceIte, Nat.reduceEqDiff, Nat.reduceAdd, Int.reduceToNat, d']
    intro hx0
    exact ⟨by omega, _, by rw [hT], by rw [hT]; exact Sl2.nil⟩
  have hT : stripsT L t = (stripsB (beadsR L L.length) t, 0) := by rw [stripsT, if_pos ⟨c, d⟩]
  have ht : 2 ≤ t ∧ t ≤ 6 := by simpa [isWires] using d
  obtain ⟨c1, c2, c3⟩ := shape_facts c
  simp +decide (disch := first | assumption | (apply GH.ok_push; assumption) | exact cellV_int _ _ | exact cellV_bool _ | omega) only [go_sem, ↓reduceIte, Nat.reduceEqDiff, Nat.reduceAdd, Int.reduceToNat, d, hl]
  refine CallD.calm (beads_rets hX L (desc_fits c2 (by omega)) L.length (Nat.le_refl _) (by omega) s G1 hs1) ?_
  rintro b G2 hx2 hb
  have hn2 := hx2.next
  have hB := beadsR_beads c
  obtain ⟨B, hBe⟩ : ∃ B, beadsR L L.length = B := ⟨_, rfl⟩
  rw [hBe] at hb hB hT
  have hlb := hb.len
  rw [ints_len] at hlb
  have hB12 := hB.len
  have hok2 := hx2.ok (hx1.ok (hx.ok ho))
  simp +decide (disch := first | assumption | (apply GH.ok_push; assumption) | exact cellV_int _ _ | exact cellV_bool _ | omega) only [go_sem, ↓reduceIte, Nat.reduceEqDiff, Nat.reduceAdd, Int.reduceToNat, hlb]
  refine Wk.loops (fun m e g' lo => g.next ≤ lo ∧ Kept G2 g' ∧ ∃ i : Nat, i + m = B.length ∧ (ev e (.s 1) = .int .i64 t ∧ ev e (.s 6) = b ∧ ev e (.s 22) = b ∧ ev e (.s 23) = .int .i64 B.length ∧ ev e (.s 24) = .int .i64 i) ∧ ∃ o, ev e (.s 7) = o ∧ Own2 g' o (stripsK B t i) G2.next)
    (fun e g' lo => g.next ≤ lo ∧ ∃ o, ev e (.s 7) = o ∧ Sl2 g' o (stripsB B t)) (n := B.length) ?_ ?_ ?_
  · exact ⟨by omega, Kept.refl _, 0, by omega, (by simp +decide (disch := first | assumption | (apply GH.ok_push; assumption) | exact cellV_int _ _ | exact cellV_bool _ | omega) only [go_sem, ↓reduceIte, Nat.reduceEqDiff, Nat.reduceAdd, Int.reduceToNat]; first | done | exact rfl), .slice none 0 0, (by simp +decide (disch := first | assumption | (apply GH.ok_push; assumption) | exact cellV_int _ _ | exact cellV_bool _ | omega) only [go_sem, ↓reduceIte, Nat.reduceEqDiff, Nat.reduceAdd, Int.reduceToNat]; first | done | exact rfl), Own2.nil⟩
  · rintro e g' lo - - ⟨hlo, o, h7, hown⟩
    simp +decide (disch := first | assumption | (apply GH.ok_push; assumption) | exact cellV_int _ _ | exact cellV_bool _ | omega) only [go_sem, ↓reduceIte, Nat.reduceEqDiff, Nat.reduceAdd, Int.reduceToNat, h7]
    intro hx0
    exact ⟨by omega, o, by rw [hT], by rw [hT]; exact hown⟩
  · rintro m e g' lo ho' hl' ih out ⟨hlo, hk, i, hi, he, o, h7, hown⟩
    have hgn := hk.next
    by_cases ci : i < B.length
    · have hb' := hb.kept hk
      obtain ⟨p, hp1, hp2⟩ := hb'.at (ints_get (D := B) (i := i) ci)
      have hp1 := hp1 (i : Int) rfl
      have hbi := hB.getD i
      have hsn := stripsK_succ B t i
      have hsl := stripsK_len B t i
      have skip : canB B t i = false → stripsK B t (i + 1) = stripsK B t i := fun h => by rw [hsn, if_neg (by simp [h]), List.append_nil]
      by_cases c3 : t ≤ B.getD i 0
      · simp +decide (disch := first | assumption | (apply GH.ok_push; assumption) | exact cellV_int _ _ | exact cellV_bool _ | omega) only [go_sem, ↓reduceIte, Nat.reduceEqDiff, Nat.reduceAdd, Int.reduceToNat, he, hp1, hp2]
        refine CallD.calm (contains_rets hX B (B.getD i 0 - t) (by omega) b g' hb') ?_
        rintro v G3 hx3 rfl
        have hn3 := hx3.next
        have hk3 := hk.ext hx3
        by_cases c4 : B.getD i 0 - t ∈ B
        · rw [decide_eq_true c4]
          have hsk := skip (by rw [canB, decide_eq_true c4]; simp)
          simp +decide (disch := first | assumption | (apply GH.ok_push; assumption) | exact cellV_int _ _ | exact cellV_bool _ | omega) only [go_sem, ↓reduceIte, Nat.reduceEqDiff, Nat.reduceAdd, Int.reduceToNat, he]
          refine ih (m - 1) _ _ _ (by omega) ⟨hlo, hk3, i + 1, by omega, (by simp +decide (disch := first | assumption | (apply GH.ok_push; assumption) | exact cellV_int _ _ | exact cellV_bool _ | omega) only [go_sem, ↓reduceIte, Nat.reduceEqDiff, Nat.reduceAdd, Int.reduceToNat, he]; first | done | exact rfl), o, (by simp +decide (disch := first | assumption | (apply GH.ok_push; assumption) | exact cellV_int _ _ | exact cellV_bool _ | omega) only [go_sem, ↓reduceIte, Nat.reduceEqDiff, Nat.reduceAdd, Int.reduceToNat, h7]; first | done | exact rfl), ?_⟩
          rw [hsk]
          exact hown.kept hx3.kept
        · rw [decide_eq_false c4]
          have hcan : canB B t i = true := by rw [canB, decide_eq_true c3, decide_eq_false c4]; rfl
          rw [if_pos hcan] at hsn
          simp +decide (disch := first | assumption | (apply GH.ok_push; assumption) | exact cellV_int _ _ | exact cellV_bool _ | omega) only [go_sem, ↓reduceIte, Nat.reduceEqDiff, Nat.reduceAdd, Int.reduceToNat, he, h7]
          refine CallD.calm (moved_rets hX B hB.fits hB12 i ci t (by omega) b G3 (hb'.ext hx3)) ?_
          rintro u G4 hx4 hu
          have hn4 := hx4.next
          have hfit : Fits (sortD (movedL B i t)) := (hB.fits.set (i := i) (x := B.getD i 0 - t) (by omega)).perm (sortD_perm _)
          simp +decide (disch := first | assumption | (apply GH.ok_push; assumption) | exact cellV_int _ _ | exact cellV_bool _ | omega) only [go_sem, ↓reduceIte, Nat.reduceEqDiff, Nat.reduceAdd, Int.reduceToNat, he, h7]
          refine CallD.calm (shapeOf_rets hX _ hfit u G4 hu) ?_
          rintro w G5 hx5 hw
          have hn5 := hx5.next
          have hok5 := hx5.ok (hx4.ok (hx3.ok ho'))
          have hcell := hw.cell
          simp +decide (disch := first | assumption | (apply GH.ok_push; assumption) | exact cellV_int _ _ | exact cellV_bool _ | omega) only [go_sem, ↓reduceIte, Nat.reduceEqDiff, Nat.reduceAdd, Int.reduceToNat, he, h7, hcell]
          have hkp := ((hx3.kept.ext hx4).ext hx5).push hok5 (cellsOb [w] 22)
          obtain ⟨vs, q1, q2, q3⟩ := hown.kept hkp
          refine AppD.own2 (lw := g.next) q1 (SlR.one hok5 _ _) (by simp) (by simp [hcell]) (by simp [q2]; omega) (by simp [GH.push]; omega) hlo (by omega) (GH.ok_push hok5) (fun s' g3 lo3 sp wr hgr hlo3 => ?_)
          simp +decide (disch := first | assumption | (apply GH.ok_push; assumption) | exact cellV_int _ _ | exact cellV_bool _ | omega) only [go_sem, ↓reduceIte, Nat.reduceEqDiff, Nat.reduceAdd, Int.reduceToNat, he]
          refine ih (m - 1) _ _ _ (by omega) ⟨hlo3, (hk.trans hkp).grew2 hgr (Nat.le_refl _), i + 1, by omega, (by simp +decide (disch := first | assumption | (apply GH.ok_push; assumption) | exact cellV_int _ _ | exact cellV_bool _ | omega) only [go_sem, ↓reduceIte, Nat.reduceEqDiff, Nat.reduceAdd, Int.reduceToNat, he]; first | done | exact rfl), s', (by simp +decide (disch := first | assumption | (apply GH.ok_push; assumption) | exact cellV_int _ _ | exact cellV_bool _ | omega) only [go_sem, ↓reduceIte, Nat.reduceEqDiff, Nat.reduceAdd, Int.reduceToNat]; first | done | exact rfl), ?_⟩
          rw [hsn]
          exact Own2.grew q2 q3 (hw.push hok5 _) hgr
      · have hsk := skip (by rw [canB, decide_eq_false c3]; rfl)
        simp +decide (disch := first | assumption | (apply GH.ok_push; assumption) | exact cellV_int _ _ | exact cellV_bool _ | omega) only [go_sem, ↓reduceIte, Nat.reduceEqDiff, Nat.reduceAdd, Int.reduceToNat, he, hp1, hp2]
        refine ih (m - 1) _ _ _ (by omega) ⟨hlo, hk, i + 1, by omega, (by simp +decide (disch := first | assumption | (apply GH.ok_push; assumption) | exact cellV_int _ _ | exact cellV_bool _ | omega) only [go_sem, ↓reduceIte, Nat.reduceEqDiff, Nat.reduceAdd, Int.reduceToNat, he]; first | done | exact rfl), o, (by simp +decide (disch := first | assumption | (apply GH.ok_push; assumption) | exact cellV_int _ _ | exact cellV_bool _ | omega) only [go_sem, ↓reduceIte, Nat.reduceEqDiff, Nat.reduceAdd, Int.reduceToNat, h7]; first | done | exact rfl), ?_⟩
        rw [hsk]
        exact hown
    · simp +decide (disch := first | assumption | (apply GH.ok_push; assumption) | exact cellV_int _ _ | exact cellV_bool _ | omega) only [go_sem, ↓reduceIte, Nat.reduceEqDiff, Nat.reduceAdd, Int.reduceToNat, he]
      refine out _ _ _ ⟨hlo, o, (by simp +decide (disch := first | assumption | (apply GH.ok_push; assumption) | exact cellV_int _ _ | exact cellV_bool _ | omega) only [go_sem, ↓reduceIte, Nat.reduceEqDiff, Nat.reduceAdd, Int.reduceToNat, h7]; first | done | exact rfl), ?_⟩
      rw [show i = B.length by omega] at hown
      exact hown.read
end Go.Proofs.Ytieliilnnfjijaa
set_option maxRecDepth 100000
set_option maxHeartbeats 8000000
set_option linter.unusedSimpArgs false
set_option linter.unusedVariables false
namespace Go.Proofs.Ytieliilnnfjijaa
open Go.Ds
theorem movedL_get {B : List Int} {i : Nat} (hi : i < B.length) (t : Int) (k : Nat) : (movedL B i t).getD k 0 = if k = i then B.getD i 0 - t else B.getD k 0 := by
  rw [movedL, getD_set' hi]
theorem refStrips_rets {X : Caller} (hX : Xok X) (L : List Int) (hS : isShape L = true) (t : Int) (ht : 2 ≤ t ∧ t ≤ 6) (s : Value) (g : GH) (hs : SlR g s (ints L)) :
    Rets Try.prog X 55 [s, .int .i64 t] g (fun v g' lo => g.next ≤ lo ∧ Sl2 g' v (stripsB (beadsR L L.length) t)) := by
  refine Rets.run hX.pres p55 (hX.free 55 (by decide) _ _) rfl fun ho => ?_
  have hl := hs.len
  rw [ints_len] at hl
  obtain ⟨c1, c2, c3⟩ := shape_facts hS
  simp +decide (disch := first | assumption | (apply GH.ok_push; assumption) | exact cellV_int _ _ | exact cellV_bool _ | omega) only [go_sem, ↓reduceIte, Nat.reduceEqDiff, Nat.reduceAdd, Int.reduceToNat, hl]
  refine CallD.calm (refBeads_rets hX L (desc_fits c2 (by omega)) s g hs) ?_
  rintro b G2 hx2 hb
  have hn2 := hx2.next
  have hB := beadsR_beads hS
  obtain ⟨B, hBe⟩ : ∃ B, beadsR L L.length = B := ⟨_, rfl⟩
  rw [hBe] at hb hB ⊢
  have hlb := hb.len
  rw [ints_len] at hlb
  have hB12 := hB.len
  have hok2 := hx2.ok ho
  simp +decide (disch := first | assumption | (apply GH.ok_push; assumption) | exact cellV_int _ _ | exact cellV_bool _ | omega) only [go_sem, ↓reduceIte, Nat.reduceEqDiff, Nat.reduceAdd, Int.reduceToNat, hlb]
  refine Wk.loops (fun m e g' lo => g.next ≤ lo ∧ Kept G2 g' ∧ ∃ i : Nat, i + m = B.length ∧ (ev e (.s 1) = .int .i64 t ∧ ev e (.s 5) = b ∧ ev e (.s 7) = .int .i64 i) ∧ ∃ o, ev e (.s 6) = o ∧ Own2 g' o (stripsK B t i) G2.next)
    (fun e g' lo => g.next ≤ lo ∧ ∃ o, ev e (.s 6) = o ∧ Sl2 g' o (stripsB B t)) (n := B.length) ?_ ?_ ?_
  · exact ⟨by omega, Kept.refl _, 0, by omega, (by simp +decide (disch := first | assumption | (apply GH.ok_push; assumption) | exact cellV_int _ _ | exact cellV_bool _ | omega) only [go_sem, ↓reduceIte, Nat.reduceEqDiff, Nat.reduceAdd, Int.reduceToNat]; first | done | exact rfl), .slice none 0 0, (by simp +decide (disch := first | assumption | (apply GH.ok_push; assumption) | exact cellV_int _ _ | exact cellV_bool _ | omega) only [go_sem, ↓reduceIte, Nat.reduceEqDiff, Nat.reduceAdd, Int.reduceToNat]; first | done | exact rfl), Own2.nil⟩
  · rintro e g' lo - - ⟨hlo, o, h7, hown⟩
    simp +decide (disch := first | assumption | (apply GH.ok_push; assumption) | exact cellV_int _ _ | exact cellV_bool _ | omega) only [go_sem, ↓reduceIte, Nat.reduceEqDiff, Nat.reduceAdd, Int.reduceToNat, h7]
    intro hx0
    exact ⟨by omega, hown⟩
  · rintro m e g' lo ho' hl' ih out ⟨hlo, hk, i, hi, he, o, h7, hown⟩
    have hgn := hk.next
    by_cases ci : i < B.length
    · have hb' := hb.kept hk
      obtain ⟨p, hp1, hp2⟩ := hb'.at (ints_get (D := B) (i := i) ci)
      have hp1 := hp1 (i : Int) rfl
      have hbi := hB.getD i
      have hsn := stripsK_succ B t i
      have hsl := stripsK_len B t i
      have skip : canB B t i = false → stripsK B t (i + 1) = stripsK B t i := fun h => by rw [hsn, if_neg (by simp [h]), List.append_nil]
      by_cases c3 : t ≤ B.getD i 0
      · simp +decide (disch := first | assumption | (apply GH.ok_push; assumption) | exact cellV_int _ _ | exact cellV_bool _ | omega) only [go_sem, ↓reduceIte, Nat.reduceEqDiff, Nat.reduceAdd, Int.reduceToNat, he, hlb, hp1, hp2]
        refine CallD.calm (has_rets hX B (B.getD i 0 - t) (by omega) b g' hb') ?_
        rintro v G3 hx3 rfl
        have hn3 := hx3.next
        have hk3 := hk.ext hx3
        by_cases c4 : B.getD i 0 - t ∈ B
        · rw [decide_eq_true c4]
          have hsk := skip (by rw [canB, decide_eq_true c4]; simp)
          simp +decide (disch := first | assumption | (apply GH.ok_push; assumption) | exact cellV_int _ _ | exact cellV_bool _ | omega) only [go_sem, ↓reduceIte, Nat.reduceEqDiff, Nat.reduceAdd, Int.reduceToNat, he]
          refine ih (m - 1) _ _ _ (by omega) ⟨hlo, hk3, i + 1, by omega, (by simp +decide (disch := first | assumption | (apply GH.ok_push; assumption) | exact cellV_int _ _ | exact cellV_bool _ | omega) only [go_sem, ↓reduceIte, Nat.reduceEqDiff, Nat.reduceAdd, Int.reduceToNat, he]; first | done | exact rfl), o, (by simp +decide (disch := first | assumption | (apply GH.ok_push; assumption) | exact cellV_int _ _ | exact cellV_bool _ | omega) only [go_sem, ↓reduceIte, Nat.reduceEqDiff, Nat.reduceAdd, Int.reduceToNat, h7]; first | done | exact rfl), ?_⟩
          rw [hsk]
          exact hown.kept hx3.kept
        · rw [decide_eq_false c4]
          have hcan : canB B t i = true := by rw [canB, decide_eq_true c3, decide_eq_false c4]; rfl
          rw [if_pos hcan] at hsn
          simp +decide (disch := first | assumption | (apply GH.ok_push; assumption) | exact cellV_int _ _ | exact cellV_bool _ | omega) only [go_sem, ↓reduceIte, Nat.reduceEqDiff, Nat.reduceAdd, Int.reduceToNat, he, h7]
          have hb3 := hb'.ext hx3
          have hok3 := hx3.ok ho'
          refine Wk.loops (fun m e g4 lo4 => g.next ≤ lo4 ∧ Kept G3 g4 ∧ ∃ k : Nat, k + m = B.length ∧ (ev e (.s 1) = .int .i64 t ∧ ev e (.s 5) = b ∧ ev e (.s 6) = o ∧ ev e (.s 7) = .int .i64 i ∧ ev e (.s 9) = .int .i64 k) ∧ ∃ u, ev e (.s 8) = u ∧ Own g4 u (ints ((movedL B i t).take k)) 3 G3.next)
            (fun e g4 lo4 => g.next ≤ lo4 ∧ Kept G3 g4 ∧ (ev e (.s 1) = .int .i64 t ∧ ev e (.s 5) = b ∧ ev e (.s 6) = o ∧ ev e (.s 7) = .int .i64 i) ∧ ∃ u, ev e (.s 8) = u ∧ SlR g4 u (ints (movedL B i t))) (n := B.length) ?_ ?_ ?_
          · exact ⟨hlo, Kept.refl _, 0, by omega, (by simp +decide (disch := first | assumption | (apply GH.ok_push; assumption) | exact cellV_int _ _ | exact cellV_bool _ | omega) only [go_sem, ↓reduceIte, Nat.reduceEqDiff, Nat.reduceAdd, Int.reduceToNat, he, h7]; first | done | exact rfl), .slice none 0 0, (by simp +decide (disch := first | assumption | (apply GH.ok_push; assumption) | exact cellV_int _ _ | exact cellV_bool _ | omega) only [go_sem, ↓reduceIte, Nat.reduceEqDiff, Nat.reduceAdd, Int.reduceToNat]; first | done | exact rfl), Own.nil⟩
          · rintro e g4 lo4 ho4 - ⟨hlo4, hk4, he, u, h8, hu⟩
            have hn4 := hk4.next
            simp +decide (disch := first | assumption | (apply GH.ok_push; assumption) | exact cellV_int _ _ | exact cellV_bool _ | omega) only [go_sem, ↓reduceIte, Nat.reduceEqDiff, Nat.reduceAdd, Int.reduceToNat, he, h8]
            refine CallD.calm (refDesc_rets hX (movedL B i t) (by rw [movedL_len]; omega) u g4 hu) ?_
            rintro u2 G5 hx5 hu2
            have hn5 := hx5.next
            have hfit : Fits (sortD (movedL B i t)) := (hB.fits.set (i := i) (x := B.getD i 0 - t) (by omega)).perm (sortD_perm _)
            simp +decide (disch := first | assumption | (apply GH.ok_push; assumption) | exact cellV_int _ _ | exact cellV_bool _ | omega) only [go_sem, ↓reduceIte, Nat.reduceEqDiff, Nat.reduceAdd, Int.reduceToNat, he, h7]
            refine CallD.calm (refShape_rets hX _ hfit u2 G5 hu2) ?_
            rintro w G6 hx6 hw
            have hn6 := hx6.next
            have hok6 := hx6.ok (hx5.ok ho4)
            have hcell := hw.cell
            simp +decide (disch := first | assumption | (apply GH.ok_push; assumption) | exact cellV_int _ _ | exact cellV_bool _ | omega) only [go_sem, ↓reduceIte, Nat.reduceEqDiff, Nat.reduceAdd, Int.reduceToNat, he, h7, hcell]
            have hkp := (((hx3.kept.trans hk4).ext hx5).ext hx6).push hok6 (cellsOb [w] 22)
            obtain ⟨vs, q1, q2, q3⟩ := hown.kept hkp
            refine AppD.own2 (lw := g.next) q1 (SlR.one hok6 _ _) (by simp) (by simp [hcell]) (by simp [q2]; omega) (by simp [GH.push]; omega) hlo4 (by omega) (GH.ok_push hok6) (fun s' g3 lo3 sp wr hgr hlo3 => ?_)
            simp +decide (disch := first | assumption | (apply GH.ok_push; assumption) | exact cellV_int _ _ | exact cellV_bool _ | omega) only [go_sem, ↓reduceIte, Nat.reduceEqDiff, Nat.reduceAdd, Int.reduceToNat, he]
            refine ih (m - 1) _ _ _ (by omega) ⟨hlo3, (hk.trans hkp).grew2 hgr (Nat.le_refl _), i + 1, by omega, (by simp +decide (disch := first | assumption | (apply GH.ok_push; assumption) | exact cellV_int _ _ | exact cellV_bool _ | omega) only [go_sem, ↓reduceIte, Nat.reduceEqDiff, Nat.reduceAdd, Int.reduceToNat, he]; first | done | exact rfl), s', (by simp +decide (disch := first | assumption | (apply GH.ok_push; assumption) | exact cellV_int _ _ | exact cellV_bool _ | omega) only [go_sem, ↓reduceIte, Nat.reduceEqDiff, Nat.reduceAdd, Int.reduceToNat]; first | done | exact rfl), ?_⟩
            rw [hsn]
            exact Own2.grew q2 q3 (hw.push hok6 _) hgr
          · rintro m2 e g4 lo4 ho4 hl4 ih2 out2 ⟨hlo4, hk4, k, hkm, he, u, h8, hu⟩
            have hn4 := hk4.next
            by_cases ck : k < B.length
            · obtain ⟨q, hq1, hq2⟩ := (hb3.kept hk4).at (ints_get (D := B) (i := k) ck)
              have hq1 := hq1 (k : Int) rfl
              have hbk := hB.getD k
              have hmg := movedL_get ci t k
              have htk := take_snoc (movedL B i t) k (by rw [movedL_len]; exact ck)
              have hml := movedL_len B i t
              by_cases ek : k = i
              · have hmg : (movedL B i t).getD k 0 = B.getD k 0 - t := by rw [hmg, if_pos ek, ek]
                simp +decide (disch := first | assumption | (apply GH.ok_push; assumption) | exact cellV_int _ _ | exact cellV_bool _ | omega) only [go_sem, ↓reduceIte, Nat.reduceEqDiff, Nat.reduceAdd, Int.reduceToNat, he, h8, hlb, hq1, hq2]
                refine AppD.own2 (lw := g.next) (hu.push ho4 _) (SlR.one ho4 _ _) (by simp) rfl (by simp [ints_len]; omega) (by simp [GH.push]; omega) hlo4 (by omega) (GH.ok_push ho4) (fun s' g5 lo5 sp wr hgr hlo5 => ?_)
                simp +decide (disch := first | assumption | (apply GH.ok_push; assumption) | exact cellV_int _ _ | exact cellV_bool _ | omega) only [go_sem, ↓reduceIte, Nat.reduceEqDiff, Nat.reduceAdd, Int.reduceToNat, he]
                refine ih2 (m2 - 1) _ _ _ (by omega) ⟨hlo5, (hk4.push ho4 _).grew2 hgr (Nat.le_refl _), k + 1, by omega, (by simp +decide (disch := first | assumption | (apply GH.ok_push; assumption) | exact cellV_int _ _ | exact cellV_bool _ | omega) only [go_sem, ↓reduceIte, Nat.reduceEqDiff, Nat.reduceAdd, Int.reduceToNat, he]; first | done | exact rfl), s', (by simp +decide (disch := first | assumption | (apply GH.ok_push; assumption) | exact cellV_int _ _ | exact cellV_bool _ | omega) only [go_sem, ↓reduceIte, Nat.reduceEqDiff, Nat.reduceAdd, Int.reduceToNat]; first | done | exact rfl), ?_⟩
                rw [htk, ints_app, hmg]
                exact hgr.own
              · rw [if_neg ek] at hmg
                simp +decide (disch := first | assumption | (apply GH.ok_push; assumption) | exact cellV_int _ _ | exact cellV_bool _ | omega) only [go_sem, ↓reduceIte, Nat.reduceEqDiff, Nat.reduceAdd, Int.reduceToNat, he, h8, hlb, hq1, hq2]
                refine AppD.own2 (lw := g.next) (hu.push ho4 _) (SlR.one ho4 _ _) (by simp) rfl (by simp [ints_len]; omega) (by simp [GH.push]; omega) hlo4 (by omega) (GH.ok_push ho4) (fun s' g5 lo5 sp wr hgr hlo5 => ?_)
                simp +decide (disch := first | assumption | (apply GH.ok_push; assumption) | exact cellV_int _ _ | exact cellV_bool _ | omega) only [go_sem, ↓reduceIte, Nat.reduceEqDiff, Nat.reduceAdd, Int.reduceToNat, he]
                refine ih2 (m2 - 1) _ _ _ (by omega) ⟨hlo5, (hk4.push ho4 _).grew2 hgr (Nat.le_refl _), k + 1, by omega, (by simp +decide (disch := first | assumption | (apply GH.ok_push; assumption) | exact cellV_int _ _ | exact cellV_bool _ | omega) only [go_sem, ↓reduceIte, Nat.reduceEqDiff, Nat.reduceAdd, Int.reduceToNat, he]; first | done | exact rfl), s', (by simp +decide (disch := first | assumption | (apply GH.ok_push; assumption) | exact cellV_int _ _ | exact cellV_bool _ | omega) only [go_sem, ↓reduceIte, Nat.reduceEqDiff, Nat.reduceAdd, Int.reduceToNat]; first | done | exact rfl), ?_⟩
                rw [htk, ints_app, hmg]
                exact hgr.own
            · simp +decide (disch := first | assumption | (apply GH.ok_push; assumption) | exact cellV_int _ _ | exact cellV_bool _ | omega) only [go_sem, ↓reduceIte, Nat.reduceEqDiff, Nat.reduceAdd, Int.reduceToNat, he, h8, hlb]
              refine out2 _ _ _ ⟨hlo4, hk4, (by simp +decide (disch := first | assumption | (apply GH.ok_push; assumption) | exact cellV_int _ _ | exact cellV_bool _ | omega) only [go_sem, ↓reduceIte, Nat.reduceEqDiff, Nat.reduceAdd, Int.reduceToNat, he]; first | done | exact rfl), u, (by simp +decide (disch := first | assumption | (apply GH.ok_push; assumption) | exact cellV_int _ _ | exact cellV_bool _ | omega) only [go_sem, ↓reduceIte, Nat.reduceEqDiff, Nat.reduceAdd, Int.reduceToNat, h8]; first | done | exact rfl), ?_⟩
              rw [List.take_of_length_le (by rw [movedL_len]; omega)] at hu
              exact hu.read
      · have hsk := skip (by rw [canB, decide_eq_false c3]; rfl)
        simp +decide (disch := first | assumption | (apply GH.ok_push; assumption) | exact cellV_int _ _ | exact cellV_bool _ | omega) only [go_sem, ↓reduceIte, Nat.reduceEqDiff, Nat.reduceAdd, Int.reduceToNat, he, hlb, hp1, hp2]
        refine ih (m - 1) _ _ _ (by omega) ⟨hlo, hk, i + 1, by omega, (by simp +decide (disch := first | assumption | (apply GH.ok_push; assumption) | exact cellV_int _ _ | exact cellV_bool _ | omega) only [go_sem, ↓reduceIte, Nat.reduceEqDiff, Nat.reduceAdd, Int.reduceToNat, he]; first | done | exact rfl), o, (by simp +decide (disch := first | assumption | (apply GH.ok_push; assumption) | exact cellV_int _ _ | exact cellV_bool _ | omega) only [go_sem, ↓reduceIte, Nat.reduceEqDiff, Nat.reduceAdd, Int.reduceToNat, h7]; first | done | exact rfl), ?_⟩
        rw [hsk]
        exact hown
    · simp +decide (disch := first | assumption | (apply GH.ok_push; assumption) | exact cellV_int _ _ | exact cellV_bool _ | omega) only [go_sem, ↓reduceIte, Nat.reduceEqDiff, Nat.reduceAdd, Int.reduceToNat, he, hlb]
      refine out _ _ _ ⟨hlo, o, (by simp +decide (disch := first | assumption | (apply GH.ok_push; assumption) | exact cellV_int _ _ | exact cellV_bool _ | omega) only [go_sem, ↓reduceIte, Nat.reduceEqDiff, Nat.reduceAdd, Int.reduceToNat, h7]; first | done | exact rfl), ?_⟩
      rw [show i = B.length by omega] at hown
      exact hown.read
section
variable {X : Caller} (hX : Xok X) (L : List Int) (hL : L.length < 1000000) (t : Int) (s : Value) (g : GH) (hs : SlR g s (ints L))
include hX hL hs
theorem refStripsT_rets : Rets Try.prog X 28 [s, .int .i64 t] g (fun v g' lo => g.next ≤ lo ∧ Ret2 g' v (stripsT L t)) := by
  refine Rets.run hX.pres p28 (hX.free 28 (by decide) _ _) rfl fun ho => ?_
  simp +decide (disch := first | assumption | (apply GH.ok_push; assumption) | exact cellV_int _ _ | exact cellV_bool _ | omega) only [go_sem, ↓reduceIte, Nat.reduceEqDiff, Nat.reduceAdd, Int.reduceToNat]
  refine CallD.calm (refIsShape_rets hX L hL s g hs) ?_
  rintro v G hx rfl
  have hn := hx.next
  by_cases c : isShape L = true
  case neg =>
    have c' : isShape L = false := by simpa using c
    have hT : stripsT L t = ([], 2) := by rw [stripsT, if_neg (fun h => c h.1)]
    simp +decide (disch := first | assumption | (apply GH.ok_push; assumption) | exact cellV_int _ _ | exact cellV_bool _ | omega) only [go_sem, ↓reduceIte, Nat.reduceEqDiff, Nat.reduceAdd, Int.reduceToNat, c']
    intro hx0
    exact ⟨by omega, _, by rw [hT], by rw [hT]; exact Sl2.nil⟩
  simp +decide (disch := first | assumption | (apply GH.ok_push; assumption) | exact cellV_int _ _ | exact cellV_bool _ | omega) only [go_sem, ↓reduceIte, Nat.reduceEqDiff, Nat.reduceAdd, Int.reduceToNat, c]
  refine CallD.calm (refWires_rets hX t G) ?_
  rintro v G1 hx1 rfl
  have hn1 := hx1.next
  by_cases d : isWires t = true
  case neg =>
    have d' : isWires t = false := by simpa using d
    have hT : stripsT L t = ([], 2) := by rw [stripsT, if_neg (fun h => d h.2)]
    simp +decide (disch := first | assumption | (apply GH.ok_push; assumption) | exact cellV_int _ _ | exact cellV_bool _ | omega) only [go_sem, ↓reduceIte, Nat.reduceEqDiff, Nat.reduceAdd, Int.reduceToNat, d']
    intro hx0
    exact ⟨by omega, _, by rw [hT], by rw [hT]; exact Sl2.nil⟩
  have hT : stripsT L t = (stripsB (beadsR L L.length) t, 0) := by rw [stripsT, if_pos ⟨c, d⟩]
  have ht : 2 ≤ t ∧ t ≤ 6 := by simpa [isWires] using d
  simp +decide (disch := first | assumption | (apply GH.ok_push; assumption) | exact cellV_int _ _ | exact cellV_bool _ | omega) only [go_sem, ↓reduceIte, Nat.reduceEqDiff, Nat.reduceAdd, Int.reduceToNat, d]
  refine CallD.calm (refStrips_rets hX L c t ht s G1 ((hs.ext hx).ext hx1)) ?_
  rintro v G2 hx2 hv
  have hn2 := hx2.next
  simp +decide (disch := first | assumption | (apply GH.ok_push; assumption) | exact cellV_int _ _ | exact cellV_bool _ | omega) only [go_sem, ↓reduceIte, Nat.reduceEqDiff, Nat.reduceAdd, Int.reduceToNat]
  intro hx0
  exact ⟨by omega, v, by rw [hT], by rw [hT]; exact hv⟩
theorem refIsCoreT_rets : Rets Try.prog X 32 [s, .int .i64 t] g (fun v g' lo => g.next ≤ lo ∧ v = .tuple #[.bool (decide ((stripsT L t).1 = [] ∧ (stripsT L t).2 = 0)), .int .i64 (stripsT L t).2]) := by
  refine Rets.run hX.pres p32 (hX.free 32 (by decide) _ _) rfl fun ho => ?_
  simp +decide (disch := first | assumption | (apply GH.ok_push; assumption) | exact cellV_int _ _ | exact cellV_bool _ | omega) only [go_sem, ↓reduceIte, Nat.reduceEqDiff, Nat.reduceAdd, Int.reduceToNat]
  refine CallD.calm (refIsShape_rets hX L hL s g hs) ?_
  rintro v G hx rfl
  have hn := hx.next
  by_cases c : isShape L = true
  case neg =>
    have c' : isShape L = false := by simpa using c
    have hT : stripsT L t = ([], 2) := by rw [stripsT, if_neg (fun h => c h.1)]
    simp +decide (disch := first | assumption | (apply GH.ok_push; assumption) | exact cellV_int _ _ | exact cellV_bool _ | omega) only [go_sem, ↓reduceIte, Nat.reduceEqDiff, Nat.reduceAdd, Int.reduceToNat, c']
    intro hx0
    exact ⟨by omega, by rw [hT]; rfl⟩
  simp +decide (disch := first | assumption | (apply GH.ok_push; assumption) | exact cellV_int _ _ | exact cellV_bool _ | omega) only [go_sem, ↓reduceIte, Nat.reduceEqDiff, Nat.reduceAdd, Int.reduceToNat, c]
  refine CallD.calm (refWires_rets hX t G) ?_
  rintro v G1 hx1 rfl
  have hn1 := hx1.next
  by_cases d : isWires t = true
  case neg =>
    have d' : isWires t = false := by simpa using d
    have hT : stripsT L t = ([], 2) := by rw [stripsT, if_neg (fun h => d h.2)]
    simp +decide (disch := first | assumption | (apply GH.ok_push; assumption) | exact cellV_int _ _ | exact cellV_bool _ | omega) only [go_sem, ↓reduceIte, Nat.reduceEqDiff, Nat.reduceAdd, Int.reduceToNat, d']
    intro hx0
    exact ⟨by omega, by rw [hT]; rfl⟩
  have hT : stripsT L t = (stripsB (beadsR L L.length) t, 0) := by rw [stripsT, if_pos ⟨c, d⟩]
  have ht : 2 ≤ t ∧ t ≤ 6 := by simpa [isWires] using d
  simp +decide (disch := first | assumption | (apply GH.ok_push; assumption) | exact cellV_int _ _ | exact cellV_bool _ | omega) only [go_sem, ↓reduceIte, Nat.reduceEqDiff, Nat.reduceAdd, Int.reduceToNat, d]
  refine CallD.calm (refStrips_rets hX L c t ht s G1 ((hs.ext hx).ext hx1)) ?_
  rintro v G2 hx2 hv
  have hn2 := hx2.next
  have hlv := hv.len
  by_cases e0 : stripsB (beadsR L L.length) t = []
  · rw [e0] at hlv
    simp +decide (disch := first | assumption | (apply GH.ok_push; assumption) | exact cellV_int _ _ | exact cellV_bool _ | omega) only [go_sem, ↓reduceIte, Nat.reduceEqDiff, Nat.reduceAdd, Int.reduceToNat, hlv]
    intro hx0
    exact ⟨by omega, by rw [hT]; simp [e0]⟩
  · have hne : ¬ ((stripsB (beadsR L L.length) t).length : Int) = 0 := fun h => e0 (List.eq_nil_of_length_eq_zero (by omega))
    simp +decide (disch := first | assumption | (apply GH.ok_push; assumption) | exact cellV_int _ _ | exact cellV_bool _ | omega) only [go_sem, ↓reduceIte, Nat.reduceEqDiff, Nat.reduceAdd, Int.reduceToNat, hlv]
    intro hx0
    exact ⟨by omega, by rw [hT]; simp [e0]⟩
end
end Go.Proofs.Ytieliilnnfjijaa
set_option maxRecDepth 100000
set_option maxHeartbeats 8000000
set_option linter.unusedSimpArgs false
set_option linter.unusedVariables false
namespace Go.Proofs.Ytieliilnnfjijaa
open Go.Ds
/-! ## Wires -/
def wireL (B : List Int) (t : Int) (k : Nat) : List Int := (B.filter (fun b => decide (b.tmod t = (k : Int)))).map (fun b => b.tdiv t)
theorem wireL_snoc (A : List Int) (b t : Int) (k : Nat) : wireL (A ++ [b]) t k = wireL A t k ++ (if b.tmod t = (k : Int) then [b.tdiv t] else []) := by
  unfold wireL
  rw [List.filter_append, List.map_append]
  congr 1
  simp only [List.filter_cons, List.filter_nil, decide_eq_true_eq]
  split <;> simp
theorem wireL_len (B : List Int) (t : Int) (k : Nat) : (wireL B t k).length ≤ B.length := by
  unfold wireL
  rw [List.length_map]
  exact List.length_filter_le _ _
def wiresL (B : List Int) (T : Nat) : List (List Int) := (List.range T).map (wireL B T)
theorem wiresL_len (B : List Int) (T : Nat) : (wiresL B T).length = T := by simp [wiresL]
theorem wiresL_get (B : List Int) {T k : Nat} (h : k < T) : (wiresL B T)[k]? = some (wireL B T k) := by simp [wiresL, h]
theorem wiresL_getD (B : List Int) {T k : Nat} (h : k < T) : (wiresL B T).getD k [] = wireL B T k := by
  rw [List.getD_eq_getElem?_getD, wiresL_get B h]; rfl
/-- The wires so far, each a slice of its own. -/
structure WiresAt (g : GH) (J T : Nat) (A : List Int) (vs : List Value) (F : Nat → Nat) : Prop where
  lt : J < g.next
  get : g.get J = cellsOb vs 22
  len : vs.length = T
  own : ∀ k v, vs[k]? = some v → OwnE g v (ints (wireL A T k)) 3 (J + 1) (F k)
  apart : ∀ k k', k < T → k' < T → wireL A T k ≠ [] → wireL A T k' ≠ [] → F k = F k' → k = k'
theorem tmod_bnd {b : Int} {T : Nat} (hb : 0 ≤ b) (hT : 0 < T) : ∃ k : Nat, b.tmod T = (k : Int) ∧ k < T ∧ ∃ q : Nat, b.tdiv T = (q : Int) ∧ (q : Int) ≤ b := by
  obtain ⟨n, rfl⟩ := Int.eq_ofNat_of_zero_le hb
  refine ⟨n % T, rfl, Nat.mod_lt _ hT, n / T, rfl, ?_⟩
  exact Int.ofNat_le.2 (Nat.div_le_self _ _)
theorem wires_rets2 {X : Caller} (hX : Xok X) (B : List Int) (hn : B.length ≤ 1000) (hb : ∀ x ∈ B, 0 ≤ x ∧ x ≤ 100000) (T : Nat) (hT : 2 ≤ T ∧ T ≤ 6) (s : Value) (g : GH) (hs : SlR g s (ints B)) :
    Rets Try.prog X 59 [s, .int .i64 T] g (fun v g' lo => g.next ≤ lo ∧ Kept g g' ∧ g'.ok ∧ v = .slice (some ⟨g.next, 0, none⟩) T T ∧ ∃ vs F, WiresAt g' g.next T B vs F) := by
  refine Rets.run hX.pres p59 (hX.free 59 (by decide) _ _) rfl fun ho => ?_
  have hl := hs.len
  rw [ints_len] at hl
  simp +decide (disch := first | assumption | (apply GH.ok_push; assumption) | exact cellV_int _ _ | exact cellV_bool _ | omega) only [go_sem, ↓reduceIte, Nat.reduceEqDiff, Nat.reduceAdd, Int.reduceToNat]
  refine Wk.mkslice (n := T) (c := T) (by simp +decide (disch := first | assumption | (apply GH.ok_push; assumption) | exact cellV_int _ _ | exact cellV_bool _ | omega) only [go_sem, ↓reduceIte, Nat.reduceEqDiff, Nat.reduceAdd, Int.reduceToNat]; first | done | exact rfl) (by simp +decide (disch := first | assumption | (apply GH.ok_push; assumption) | exact cellV_int _ _ | exact cellV_bool _ | omega) only [go_sem, ↓reduceIte, Nat.reduceEqDiff, Nat.reduceAdd, Int.reduceToNat]; first | done | exact rfl) (Nat.le_refl _) (by omega) ?_
  simp +decide (disch := first | assumption | (apply GH.ok_push; assumption) | exact cellV_int _ _ | exact cellV_bool _ | omega) only [go_sem, ↓reduceIte, Nat.reduceEqDiff, Nat.reduceAdd, Int.reduceToNat, hl]
  refine Wk.loops (fun m e g' lo => g.next ≤ lo ∧ Kept g g' ∧ ∃ i : Nat, i + m = B.length ∧ (ev e (.s 1) = .int .i64 T ∧ ev e (.s 5) = .slice (some ⟨g.next, 0, none⟩) T T ∧ ev e (.s 10) = s ∧ ev e (.s 11) = .int .i64 B.length ∧ ev e (.s 12) = .int .i64 i) ∧ ∃ vs F, WiresAt g' g.next T (B.take i) vs F)
    (fun e g' lo => g.next ≤ lo ∧ Kept g g' ∧ ev e (.s 5) = .slice (some ⟨g.next, 0, none⟩) T T ∧ ∃ vs F, WiresAt g' g.next T B vs F) (n := B.length) ?_ ?_ ?_
  · refine ⟨Nat.le_refl _, (Kept.refl g).push ho _, 0, by omega, (by simp +decide (disch := first | assumption | (apply GH.ok_push; assumption) | exact cellV_int _ _ | exact cellV_bool _ | omega) only [go_sem, ↓reduceIte, Nat.reduceEqDiff, Nat.reduceAdd, Int.reduceToNat]; first | done | exact rfl), List.replicate T (.slice none 0 0), fun _ => 0, Nat.lt_succ_self _, ?_, by simp, fun k v hv => ?_, fun k k' h1 h2 h3 => by simp [wireL] at h3⟩
    · rw [GH.get_push ho, if_pos rfl, repeatN_replicate]
    · rw [List.getElem?_replicate] at hv
      split at hv
      · cases hv; exact OwnE.nil
      · cases hv
  · rintro e g' lo hog - ⟨hlo, hk, he, vs, F, hW⟩
    simp +decide (disch := first | assumption | (apply GH.ok_push; assumption) | exact cellV_int _ _ | exact cellV_bool _ | omega) only [go_sem, ↓reduceIte, Nat.reduceEqDiff, Nat.reduceAdd, Int.reduceToNat, he]
    exact fun hx => ⟨hlo, hk, hog, rfl, vs, F, hW⟩
  · rintro m e g' lo ho' hl' ih out ⟨hlo, hk, i, hi, he, vs, F, hW⟩
    have hgn := hk.next
    have hlt := hW.lt
    by_cases ci : i < B.length
    · obtain ⟨p, hp1, hp2⟩ := (hs.kept hk).at (ints_get (D := B) (i := i) ci)
      have hp1 := hp1 (i : Int) rfl
      have hbi := hb _ (mem_getD ci)
      obtain ⟨k, hk1, hk2, q, hq1, hq2⟩ := tmod_bnd (b := B.getD i 0) (T := T) hbi.1 (by omega)
      have hvk := List.getElem?_eq_getElem (show k < vs.length by rw [hW.len]; exact hk2)
      have hia := iaddrS_at (j := g.next) (n := T) (c := T) (m := k) (x := (k : Int)) rfl hk2
      have hget := hW.get
      have hT0 : ¬ (T : Int) = 0 := by omega
      have htk := take_snoc B i ci
      have hwl := fun k' => wireL_snoc (B.take i) (B.getD i 0) T k'
      have hown := hW.own k _ hvk
      obtain ⟨u, hu⟩ : ∃ u, vs[k]'(by rw [hW.len]; exact hk2) = u := ⟨_, rfl⟩
      rw [hu] at hvk hown
      simp +decide (disch := first | assumption | (apply GH.ok_push; assumption) | exact cellV_int _ _ | exact cellV_bool _ | omega) only [go_sem, ↓reduceIte, Nat.reduceEqDiff, Nat.reduceAdd, Int.reduceToNat, he, hp1, hp2, hk1, hq1, hia, hget, hvk]
      refine Wk.bsliceH (cs := #[.int .i64 q]) (by simp [spansOf, spanAt, blt_d]) rfl (by simp only [parts_cons, parts_nil]; rw [show ev _ _ = Value.int .i64 (q : Int) from (by simp +decide (disch := first | assumption | (apply GH.ok_push; assumption) | exact cellV_int _ _ | exact cellV_bool _ | omega) only [go_sem, ↓reduceIte, Nat.reduceEqDiff, Nat.reduceAdd, Int.reduceToNat, hq1]; first | done | exact rfl), bsl1 rfl]) (fun n => rfl) ?_
      simp +decide (disch := first | assumption | (apply GH.ok_push; assumption) | exact cellV_int _ _ | exact cellV_bool _ | omega) only [go_sem, ↓reduceIte, Nat.reduceEqDiff, Nat.reduceAdd, Int.reduceToNat, he]
      have hwll := wireL_len (B.take i) T k
      have htl : (B.take i).length ≤ 1000 := by simp; omega
      have hkp := (Kept.refl g').push ho' (cellsOb [.int .i64 (q : Int)] 3)
      refine AppD.ownE (lw := g.next) (hown.kept hkp) (SlR.one ho' _ _) (by simp) rfl (by simp [ints_len]; omega) (by simp [GH.push]; omega) hlo (by omega) (GH.ok_push ho') (fun s' g2 lo2 sp wr fam hgr hfam hlo2 => ?_)
      have hget2 : g2.get g.next = cellsOb vs 22 := by rw [hgr.gets _ (by show g.next < g'.next + 1; omega), GH.get_push ho', if_neg (by omega)]; exact hget
      obtain ⟨sa, sn, sc, rfl⟩ := hgr.own.slice
      have hvl := hW.len
      have hgr2 := hgr.next
      have hgr3 : g2.next = g'.next + 1 + 1 := hgr2
      simp +decide (disch := first | assumption | (apply GH.ok_push; assumption) | exact cellV_int _ _ | exact cellV_bool _ | omega) only [go_sem, ↓reduceIte, Nat.reduceEqDiff, Nat.reduceAdd, Int.reduceToNat, he, hk1, hia, hget2, hvl]
      have hw := Wrote.set (o := cellsOb (splice k vs [.slice sa sn sc]) 22) hget2 Nat.one_ne_zero hgr.ok
      rw [splice_set _ _ _ (by omega)] at hw ⊢
      have hkK : Kept g (g2.set g.next (cellsOb (vs.set k (.slice sa sn sc)) 22)) := by
        refine ⟨by rw [hw.next]; omega, fun j hj => ?_, fun f hf => ?_⟩
        · rw [hw.others j (by omega), hgr.gets j (by show j < g'.next + 1; omega), GH.get_push ho', if_neg (by omega)]
          exact hk.gets j hj
        · have hfb : g.next + 1 ≤ fam := by
            rcases hfam with h | ⟨h, hne⟩
            · rw [h]; show g.next + 1 ≤ g'.next + 1; omega
            · rcases hown with ⟨_, h2⟩ | ⟨j, h1, h2, h3, h4, h5, _⟩
              · exact absurd h2 hne
              · omega
          rw [hw.fams, hgr.fams f (by show f < g'.next + 1; omega) (by omega)]
          exact hk.fams f hf
      refine ih (m - 1) _ _ _ (by omega) ⟨by omega, hkK, i + 1, by omega, (by simp +decide (disch := first | assumption | (apply GH.ok_push; assumption) | exact cellV_int _ _ | exact cellV_bool _ | omega) only [go_sem, ↓reduceIte, Nat.reduceEqDiff, Nat.reduceAdd, Int.reduceToNat, he]; first | done | exact rfl), vs.set k (.slice sa sn sc), (fun k' => if k' = k then fam else F k'), ?_⟩
      rw [htk]
      have hother : ∀ k', k' ≠ k → wireL (B.take i ++ [B.getD i 0]) T k' = wireL (B.take i) T k' := fun k' h => by
        rw [hwl k', if_neg (by omega), List.append_nil]
      have hself : wireL (B.take i ++ [B.getD i 0]) T k = wireL (B.take i) T k ++ [(q : Int)] := by rw [hwl k, if_pos hk1, hq1]
      have hfne : ∀ k', k' < T → k' ≠ k → wireL (B.take i) T k' ≠ [] → F k' ≠ fam := fun k' h1 h2 h3 e => by
        have hvk' := List.getElem?_eq_getElem (show k' < vs.length by rw [hW.len]; exact h1)
        have hf1 := (hW.own k' _ hvk').fam_lt (by simpa [ints] using h3)
        rcases hfam with h | ⟨h, hne⟩
        · have : (g'.push (cellsOb [.int .i64 (q : Int)] 3)).next = g'.next + 1 := rfl
          omega
        · exact h2 (hW.apart k' k h1 hk2 h3 (by simpa [ints] using hne) (by omega))
      refine ⟨by rw [hw.next]; omega, hw.get, by simp [hW.len], fun k' v hv => ?_, fun k1 k2 h1 h2 h3 h4 h5 => ?_⟩
      · by_cases c : k' = k
        · subst c
          rw [List.getElem?_set_self (by omega)] at hv
          cases hv
          rw [if_pos rfl, hself, ints_app]
          exact hgr.own.mono (by rw [hw.next]; exact Nat.le_refl _) (fun j _ hj => hw.others j (by omega)) fun _ => hw.fams _
        · rw [List.getElem?_set_ne (Ne.symm c)] at hv
          have hk'T : k' < T := by have := (List.getElem?_eq_some_iff.1 hv).1; omega
          rw [if_neg c, hother k' c]
          refine ((hW.own k' v hv).kept hkp).mono (by rw [hw.next]; show g'.next + 1 ≤ g2.next; omega) (fun j hj hb => ?_) fun hne => ?_
          · rw [hw.others j (by omega)]
            exact hgr.gets j hj
          · have hf1 := ((hW.own k' v hv).kept hkp).fam_lt hne
            rw [hw.fams]
            exact hgr.fams _ hf1 (hfne k' hk'T c (by simpa [ints] using hne))
      · by_cases c1 : k1 = k
        · by_cases c2 : k2 = k
          · rw [c1, c2]
          · rw [hother k2 c2] at h4
            rw [if_pos c1, if_neg c2] at h5
            exact absurd h5.symm (hfne k2 h2 c2 h4)
        · rw [hother k1 c1] at h3
          by_cases c2 : k2 = k
          · rw [if_neg c1, if_pos c2] at h5
            exact absurd h5 (hfne k1 h1 c1 h3)
          · rw [hother k2 c2] at h4
            rw [if_neg c1, if_neg c2] at h5
            exact hW.apart k1 k2 h1 h2 h3 h4 h5
    · simp +decide (disch := first | assumption | (apply GH.ok_push; assumption) | exact cellV_int _ _ | exact cellV_bool _ | omega) only [go_sem, ↓reduceIte, Nat.reduceEqDiff, Nat.reduceAdd, Int.reduceToNat, he]
      rw [show i = B.length by omega, List.take_length] at hW
      exact out _ _ _ ⟨hlo, hk, (by simp +decide (disch := first | assumption | (apply GH.ok_push; assumption) | exact cellV_int _ _ | exact cellV_bool _ | omega) only [go_sem, ↓reduceIte, Nat.reduceEqDiff, Nat.reduceAdd, Int.reduceToNat, he]; first | done | exact rfl), vs, F, hW⟩
end Go.Proofs.Ytieliilnnfjijaa
set_option maxRecDepth 100000
set_option maxHeartbeats 8000000
set_option linter.unusedSimpArgs false
set_option linter.unusedVariables false
namespace Go.Proofs.Ytieliilnnfjijaa
open Go.Ds
theorem WiresAt.sl2 {g : GH} {J T : Nat} {A : List Int} {vs : List Value} {F : Nat → Nat} (h : WiresAt g J T A vs F) : Sl2 g (.slice (some ⟨J, 0, none⟩) T T) (wiresL A T) := by
  refine ⟨vs, SlR.whole h.get h.lt h.len.symm, by rw [wiresL_len]; exact h.len, fun i v L hv hL => ?_⟩
  have hi : i < T := by have := (List.getElem?_eq_some_iff.1 hL).1; rwa [wiresL_len] at this
  rw [wiresL_get A hi] at hL
  cases hL
  exact (h.own i v hv).read
/-! ## What the wires hold -/
def blocksIn (WL : List (List Int)) (k : Nat) : Int := sumL (rng k (fun j => sumL (shapeL (WL.getD j []))))
theorem blocksIn_succ (WL : List (List Int)) (k : Nat) : blocksIn WL (k + 1) = blocksIn WL k + sumL (shapeL (WL.getD k [])) := by
  unfold blocksIn
  rw [rng_succ, sumL_app]; simp [sumL]
/-- Heights on wires. -/
def Hts (W : List Int) : Prop := W.length ≤ 1000 ∧ ∀ x ∈ W, 0 ≤ x ∧ x ≤ 100000
theorem Hts.fits {W : List Int} (h : Hts W) : Fits W := ⟨by have := h.1; omega, fun x hx => by have := h.2 x hx; omega⟩
theorem shapeL_bnd {W : List Int} (h : Hts W) : Fits (shapeL W) ∧ 0 ≤ sumL (shapeL W) ∧ sumL (shapeL W) ≤ 1000000000 := by
  have hl := h.1
  have hx : ∀ x ∈ shapeL W, 0 ≤ x ∧ x ≤ 100000 := by
    intro x hx
    simp only [shapeL, shapeK, List.mem_filter, rng, List.mem_map, List.mem_range, decide_eq_true_eq] at hx
    obtain ⟨⟨r, hr, rfl⟩, h0⟩ := hx
    have := h.2 _ (mem_getD hr)
    unfold rowOf at *
    omega
  have hsl : (shapeL W).length ≤ W.length := shapeK_len W W.length
  refine ⟨⟨by omega, fun x hxm => by have := hx x hxm; omega⟩, ?_⟩
  have := sumL_bnd (L := shapeL W) (a := 0) (b := 100000) hx
  omega
theorem onWire_rets {X : Caller} (hX : Xok X) (W : List Int) (h : Hts W) (s : Value) (g : GH) (hs : SlR g s (ints W)) :
    Rets Try.prog X 74 [s] g (fun v g' lo => Kept g g' ∧ g'.ok ∧ g.next ≤ lo ∧ v = .int .i64 (sumL (shapeL W))) := by
  refine Rets.run hX.pres p74 (hX.free 74 (by decide) _ _) rfl fun ho => ?_
  simp +decide (disch := first | assumption | (apply GH.ok_push; assumption) | exact cellV_int _ _ | exact cellV_bool _ | omega) only [go_sem, ↓reduceIte, Nat.reduceEqDiff, Nat.reduceAdd, Int.reduceToNat]
  refine CallD.calm (shapeOf_rets hX W h.fits s g hs) ?_
  rintro v G hx hv
  have hn := hx.next
  simp +decide (disch := first | assumption | (apply GH.ok_push; assumption) | exact cellV_int _ _ | exact cellV_bool _ | omega) only [go_sem, ↓reduceIte, Nat.reduceEqDiff, Nat.reduceAdd, Int.reduceToNat]
  refine CallD.calm (count_rets hX _ (shapeL_bnd h).1 v G hv) ?_
  rintro v G2 hx2 rfl
  have hn2 := hx2.next
  have hok2 := hx2.ok (hx.ok ho)
  simp +decide (disch := first | assumption | (apply GH.ok_push; assumption) | exact cellV_int _ _ | exact cellV_bool _ | omega) only [go_sem, ↓reduceIte, Nat.reduceEqDiff, Nat.reduceAdd, Int.reduceToNat]
  intro hx0
  exact ⟨hx.kept.ext hx2, hok2, by omega, rfl⟩
theorem blocksIn_bnd {WL : List (List Int)} (h : ∀ W ∈ WL, Hts W) : ∀ k, k ≤ WL.length → 0 ≤ blocksIn WL k ∧ blocksIn WL k ≤ 1000000000 * (k : Int)
  | 0, _ => by simp [blocksIn, rng, sumL]
  | k + 1, hk => by
    have ih := blocksIn_bnd h k (by omega)
    have hm : WL.getD k [] ∈ WL := by rw [List.getD_eq_getElem?_getD, List.getElem?_eq_getElem (show k < WL.length by omega)]; exact List.getElem_mem _
    have := (shapeL_bnd (h _ hm)).2
    rw [blocksIn_succ]; push_cast; omega
theorem sumOn_rets {X : Caller} (hX : Xok X) (WL : List (List Int)) (h : ∀ W ∈ WL, Hts W) (hl : WL.length ≤ 1000) (s : Value) (g : GH) (hs : Sl2 g s WL) :
    Rets Try.prog X 73 [s, .func (.func 74) #[] #[]] g (fun v g' lo => g.next ≤ lo ∧ Kept g g' ∧ g'.ok ∧ v = .int .i64 (blocksIn WL WL.length)) := by
  refine Rets.run hX.pres p73 (hX.free 73 (by decide) _ _) rfl fun ho => ?_
  have hlen := hs.len
  simp +decide (disch := first | assumption | (apply GH.ok_push; assumption) | exact cellV_int _ _ | exact cellV_bool _ | omega) only [go_sem, ↓reduceIte, Nat.reduceEqDiff, Nat.reduceAdd, Int.reduceToNat, hlen]
  refine Wk.loops (fun m e g' lo => Kept g g' ∧ g.next ≤ lo ∧ ∃ i : Nat, i + m = WL.length ∧ (ev e (.s 1) = .func (.func 74) #[] #[] ∧ ev e (.s 8) = s ∧ ev e (.s 9) = .int .i64 WL.length ∧ ev e (.s 10) = .int .i64 i ∧ ev e (.s 5) = .int .i64 (blocksIn WL i)))
    (fun e g' lo => Kept g g' ∧ g.next ≤ lo ∧ ev e (.s 5) = .int .i64 (blocksIn WL WL.length)) (n := WL.length) ?_ ?_ ?_
  · exact ⟨Kept.refl _, Nat.le_refl _, 0, by omega, (by simp +decide (disch := first | assumption | (apply GH.ok_push; assumption) | exact cellV_int _ _ | exact cellV_bool _ | omega) only [go_sem, ↓reduceIte, Nat.reduceEqDiff, Nat.reduceAdd, Int.reduceToNat, show blocksIn WL 0 = 0 from rfl]; first | done | exact rfl)⟩
  · rintro e g' lo hog - ⟨hk, hlo, he⟩
    simp +decide (disch := first | assumption | (apply GH.ok_push; assumption) | exact cellV_int _ _ | exact cellV_bool _ | omega) only [go_sem, ↓reduceIte, Nat.reduceEqDiff, Nat.reduceAdd, Int.reduceToNat, he]
    intro hx
    exact ⟨hlo, hk, hog, rfl⟩
  · rintro m e g' lo ho' hl' ih out ⟨hk, hlo, i, hi, he⟩
    by_cases c : i < WL.length
    · obtain ⟨u, j1, o1, hj1, hp1, hp2, hu⟩ := (hs.kept hk).ptr c
      have hp1 := hp1 (i : Int) rfl
      have hm : WL.getD i [] ∈ WL := by rw [List.getD_eq_getElem?_getD, List.getElem?_eq_getElem c]; exact List.getElem_mem _
      have hb := blocksIn_bnd h i (by omega)
      have hb2 := (shapeL_bnd (h _ hm)).2
      have hgn := hk.next
      simp +decide (disch := first | assumption | (apply GH.ok_push; assumption) | exact cellV_int _ _ | exact cellV_bool _ | omega) only [go_sem, ↓reduceIte, Nat.reduceEqDiff, Nat.reduceAdd, Int.reduceToNat, he, hp1, hp2]
      refine CallV.go rfl (onWire_rets hX _ (h _ hm) u g' hu) ?_
      rintro v G lo2 wr hx ⟨hk2, hok2, h2, rfl⟩
      simp +decide (disch := first | assumption | (apply GH.ok_push; assumption) | exact cellV_int _ _ | exact cellV_bool _ | omega) only [go_sem, ↓reduceIte, Nat.reduceEqDiff, Nat.reduceAdd, Int.reduceToNat, he]
      exact ih (m - 1) _ _ _ (by omega) ⟨hk.trans hk2, by omega, i + 1, by omega, (by simp +decide (disch := first | assumption | (apply GH.ok_push; assumption) | exact cellV_int _ _ | exact cellV_bool _ | omega) only [go_sem, ↓reduceIte, Nat.reduceEqDiff, Nat.reduceAdd, Int.reduceToNat, he, blocksIn_succ]; first | done | exact rfl)⟩
    · simp +decide (disch := first | assumption | (apply GH.ok_push; assumption) | exact cellV_int _ _ | exact cellV_bool _ | omega) only [go_sem, ↓reduceIte, Nat.reduceEqDiff, Nat.reduceAdd, Int.reduceToNat, he]
      exact out _ _ _ ⟨hk, hlo, (by simp +decide (disch := first | assumption | (apply GH.ok_push; assumption) | exact cellV_int _ _ | exact cellV_bool _ | omega) only [go_sem, ↓reduceIte, Nat.reduceEqDiff, Nat.reduceAdd, Int.reduceToNat, he, show i = WL.length by omega]; first | done | exact rfl)⟩
/-! ## Beads taken off the wires -/
def onW (T : Nat) (k : Nat) (W : List Int) : List Int := W.map (fun h => h * T + k)
def onK (WL : List (List Int)) (T k : Nat) : List Int := ((List.range k).map (fun j => onW T j (WL.getD j []))).flatten
theorem onK_succ (WL : List (List Int)) (T k : Nat) : onK WL T (k + 1) = onK WL T k ++ onW T k (WL.getD k []) := by
  unfold onK
  rw [List.range_succ, List.map_append, List.flatten_append]; simp
theorem onK_len {WL : List (List Int)} (T : Nat) : ∀ {k k' : Nat}, k ≤ k' → (onK WL T k).length ≤ (onK WL T k').length
  | k, 0, h => by rw [show k = 0 by omega]; exact Nat.le_refl _
  | k, k' + 1, h => by
    by_cases c : k = k' + 1
    · rw [c]; exact Nat.le_refl _
    · have := onK_len (WL := WL) T (k := k) (k' := k') (by omega)
      rw [onK_succ, List.length_append]; omega
theorem beadsOn_rets {X : Caller} (hX : Xok X) (WL : List (List Int)) (h : ∀ W ∈ WL, Hts W) (hl : WL.length ≤ 6) (hn : (onK WL WL.length WL.length).length ≤ 10000) (s : Value) (g : GH) (hs : Sl2 g s WL) :
    Rets Try.prog X 75 [s] g (fun v g' lo => g.next ≤ lo ∧ SlR g' v (ints (sortD (onK WL WL.length WL.length)))) := by
  refine Rets.run hX.pres p75 (hX.free 75 (by decide) _ _) rfl fun ho => ?_
  have hlen := hs.len
  simp +decide (disch := first | assumption | (apply GH.ok_push; assumption) | exact cellV_int _ _ | exact cellV_bool _ | omega) only [go_sem, ↓reduceIte, Nat.reduceEqDiff, Nat.reduceAdd, Int.reduceToNat, hlen]
  refine Wk.loops (fun m e g' lo => Kept g g' ∧ g.next ≤ lo ∧ ∃ i : Nat, i + m = WL.length ∧ (ev e (.s 0) = s ∧ ev e (.s 8) = s ∧ ev e (.s 9) = .int .i64 WL.length ∧ ev e (.s 10) = .int .i64 i) ∧ ∃ o, ev e (.s 3) = o ∧ OwnM g' o (ints (onK WL WL.length i)) 3 g.next)
    (fun e g' lo => Kept g g' ∧ g.next ≤ lo ∧ ∃ o, ev e (.s 3) = o ∧ OwnM g' o (ints (onK WL WL.length WL.length)) 3 g.next) (n := WL.length) ?_ ?_ ?_
  · exact ⟨Kept.refl _, Nat.le_refl _, 0, by omega, (by simp +decide (disch := first | assumption | (apply GH.ok_push; assumption) | exact cellV_int _ _ | exact cellV_bool _ | omega) only [go_sem, ↓reduceIte, Nat.reduceEqDiff, Nat.reduceAdd, Int.reduceToNat]; first | done | exact rfl), .slice none 0 0, (by simp +decide (disch := first | assumption | (apply GH.ok_push; assumption) | exact cellV_int _ _ | exact cellV_bool _ | omega) only [go_sem, ↓reduceIte, Nat.reduceEqDiff, Nat.reduceAdd, Int.reduceToNat]; first | done | exact rfl), OwnM.nil⟩
  · rintro e g' lo hog - ⟨hk, hlo, o, h3, hown⟩
    have hgn := hk.next
    simp +decide (disch := first | assumption | (apply GH.ok_push; assumption) | exact cellV_int _ _ | exact cellV_bool _ | omega) only [go_sem, ↓reduceIte, Nat.reduceEqDiff, Nat.reduceAdd, Int.reduceToNat, h3]
    refine CallD.call (sortDown_rets hX _ (by omega) o 3 g.next g.next g' hgn (Nat.le_refl _) (.inr hown)) ?_
    rintro v G lo3 hx3 ⟨R, h1, h2⟩
    have := h1.low
    simp +decide (disch := first | assumption | (apply GH.ok_push; assumption) | exact cellV_int _ _ | exact cellV_bool _ | omega) only [go_sem, ↓reduceIte, Nat.reduceEqDiff, Nat.reduceAdd, Int.reduceToNat, h3]
    intro hx0
    refine ⟨by omega, ?_⟩
    rw [← sortD_of h2 h1.perm]
    exact h1.row.read
  · rintro m e g' lo ho' hl' ih out ⟨hk, hlo, i, hi, he, o, h3, hown⟩
    have hgn := hk.next
    by_cases c : i < WL.length
    · obtain ⟨u, j1, o1, hj1, hp1, hp2, hu⟩ := (hs.kept hk).ptr c
      have hp1 := hp1 (i : Int) rfl
      have hm : WL.getD i [] ∈ WL := by rw [List.getD_eq_getElem?_getD, List.getElem?_eq_getElem c]; exact List.getElem_mem _
      have hH := h _ hm
      have hlu := hu.len
      rw [ints_len] at hlu
      have hon := onK_succ WL WL.length i
      have honl := onK_len (WL := WL) WL.length (k := i + 1) (k' := WL.length) (by omega)
      obtain ⟨W, hW⟩ : ∃ W, WL.getD i [] = W := ⟨_, rfl⟩
      rw [hW] at hu hm hH hlu hon
      have hWl : (onK WL WL.length i).length + W.length ≤ 10000 := by rw [hon, List.length_append, onW, List.length_map] at honl; omega
      simp +decide (disch := first | assumption | (apply GH.ok_push; assumption) | exact cellV_int _ _ | exact cellV_bool _ | omega) only [go_sem, ↓reduceIte, Nat.reduceEqDiff, Nat.reduceAdd, Int.reduceToNat, he, hp1, hp2, hlu]
      refine Wk.loops (fun m e g2 lo2 => Keeps g' g2 ∧ g.next ≤ lo2 ∧ ∃ c : Nat, c + m = W.length ∧ (ev e (.s 0) = s ∧ ev e (.s 4) = .int .i64 i ∧ ev e (.s 8) = s ∧ ev e (.s 9) = .int .i64 WL.length ∧ ev e (.s 10) = .int .i64 i ∧ ev e (.s 15) = u ∧ ev e (.s 16) = .int .i64 W.length ∧ ev e (.s 17) = .int .i64 c) ∧ Kept g g2 ∧ ∃ o, ev e (.s 3) = o ∧ OwnM g2 o (ints (onK WL WL.length i ++ onW WL.length i (W.take c))) 3 g.next)
        (fun e g2 lo2 => g.next ≤ lo2 ∧ (ev e (.s 0) = s ∧ ev e (.s 8) = s ∧ ev e (.s 9) = .int .i64 WL.length ∧ ev e (.s 10) = .int .i64 i) ∧ Kept g g2 ∧ ∃ o, ev e (.s 3) = o ∧ OwnM g2 o (ints (onK WL WL.length (i + 1))) 3 g.next) (n := W.length) ?_ ?_ ?_
      · exact ⟨Keeps.refl _, hlo, 0, by omega, (by simp +decide (disch := first | assumption | (apply GH.ok_push; assumption) | exact cellV_int _ _ | exact cellV_bool _ | omega) only [go_sem, ↓reduceIte, Nat.reduceEqDiff, Nat.reduceAdd, Int.reduceToNat, he]; first | done | exact rfl), hk, o, (by simp +decide (disch := first | assumption | (apply GH.ok_push; assumption) | exact cellV_int _ _ | exact cellV_bool _ | omega) only [go_sem, ↓reduceIte, Nat.reduceEqDiff, Nat.reduceAdd, Int.reduceToNat, h3]; first | done | exact rfl), by simpa [onW] using hown⟩
      · rintro e g2 lo2 - - ⟨hlo2, he, hk2, o, h3, hown⟩
        simp +decide (disch := first | assumption | (apply GH.ok_push; assumption) | exact cellV_int _ _ | exact cellV_bool _ | omega) only [go_sem, ↓reduceIte, Nat.reduceEqDiff, Nat.reduceAdd, Int.reduceToNat, he]
        exact ih (m - 1) _ _ _ (by omega) ⟨hk2, hlo2, i + 1, by omega, (by simp +decide (disch := first | assumption | (apply GH.ok_push; assumption) | exact cellV_int _ _ | exact cellV_bool _ | omega) only [go_sem, ↓reduceIte, Nat.reduceEqDiff, Nat.reduceAdd, Int.reduceToNat, he]; first | done | exact rfl), o, (by simp +decide (disch := first | assumption | (apply GH.ok_push; assumption) | exact cellV_int _ _ | exact cellV_bool _ | omega) only [go_sem, ↓reduceIte, Nat.reduceEqDiff, Nat.reduceAdd, Int.reduceToNat, h3]; first | done | exact rfl), hown⟩
      · rintro m2 e g2 lo2 ho2 hl2 ih2 out2 ⟨hks, hlo2, c, hcm, he, hk2, o, h3, hown⟩
        have hgn2 := hk2.next
        by_cases cc : c < W.length
        · obtain ⟨q, hq1, hq2⟩ := (hu.keeps hks).at (ints_get (D := W) (i := c) cc)
          have hq1 := hq1 (c : Int) rfl
          have hx := hH.2 _ (mem_getD cc)
          have hmul1 : 0 ≤ W.getD c 0 * (WL.length : Int) := Int.mul_nonneg hx.1 (Int.natCast_nonneg _)
          have hmul2 : W.getD c 0 * (WL.length : Int) ≤ 100000 * 6 := Int.mul_le_mul hx.2 (by omega) (Int.natCast_nonneg _) (by omega)
          have hkp := hk2.push ho2 (cellsOb [.int .i64 (W.getD c 0 * (WL.length : Int) + i)] 3)
          have hsp := hks.push ho2 (cellsOb [.int .i64 (W.getD c 0 * (WL.length : Int) + i)] 3)
          have htk : onW WL.length i (W.take (c + 1)) = onW WL.length i (W.take c) ++ [W.getD c 0 * (WL.length : Int) + i] := by
            rw [take_snoc W c cc]; simp [onW]
          have hwl2 : (onW WL.length i (W.take c)).length ≤ W.length := by rw [onW, List.length_map]; simp; omega
          simp +decide (disch := first | assumption | (apply GH.ok_push; assumption) | exact cellV_int _ _ | exact cellV_bool _ | omega) only [go_sem, ↓reduceIte, Nat.reduceEqDiff, Nat.reduceAdd, Int.reduceToNat, he, h3, hlen, hq1, hq2]
          refine AppD.ownM (hown.kept ((Kept.refl g2).push ho2 _)) (SlR.one ho2 _ _) (by simp) rfl (by simp [ints_len]; omega) (by simp [GH.push]; omega) hlo2 (Nat.le_refl _) (GH.ok_push ho2) (fun s' g5 lo5 sp wr hgr hlo5 => ?_)
          simp +decide (disch := first | assumption | (apply GH.ok_push; assumption) | exact cellV_int _ _ | exact cellV_bool _ | omega) only [go_sem, ↓reduceIte, Nat.reduceEqDiff, Nat.reduceAdd, Int.reduceToNat, he]
          refine ih2 (m2 - 1) _ _ _ (by omega) ⟨hsp.trans ⟨by rw [hgr.next]; exact Nat.le_succ _, hgr.gets⟩, hlo5, c + 1, by omega, (by simp +decide (disch := first | assumption | (apply GH.ok_push; assumption) | exact cellV_int _ _ | exact cellV_bool _ | omega) only [go_sem, ↓reduceIte, Nat.reduceEqDiff, Nat.reduceAdd, Int.reduceToNat, he]; first | done | exact rfl), hkp.grewM hgr (Nat.le_refl _), s', (by simp +decide (disch := first | assumption | (apply GH.ok_push; assumption) | exact cellV_int _ _ | exact cellV_bool _ | omega) only [go_sem, ↓reduceIte, Nat.reduceEqDiff, Nat.reduceAdd, Int.reduceToNat]; first | done | exact rfl), ?_⟩
          rw [htk, ← List.append_assoc, ints_app]
          exact hgr.own
        · rw [List.take_of_length_le (by omega), ← hon] at hown
          simp +decide (disch := first | assumption | (apply GH.ok_push; assumption) | exact cellV_int _ _ | exact cellV_bool _ | omega) only [go_sem, ↓reduceIte, Nat.reduceEqDiff, Nat.reduceAdd, Int.reduceToNat, he]
          exact out2 _ _ _ ⟨hlo2, (by simp +decide (disch := first | assumption | (apply GH.ok_push; assumption) | exact cellV_int _ _ | exact cellV_bool _ | omega) only [go_sem, ↓reduceIte, Nat.reduceEqDiff, Nat.reduceAdd, Int.reduceToNat, he]; first | done | exact rfl), hk2, o, (by simp +decide (disch := first | assumption | (apply GH.ok_push; assumption) | exact cellV_int _ _ | exact cellV_bool _ | omega) only [go_sem, ↓reduceIte, Nat.reduceEqDiff, Nat.reduceAdd, Int.reduceToNat, h3]; first | done | exact rfl), hown⟩
    · simp +decide (disch := first | assumption | (apply GH.ok_push; assumption) | exact cellV_int _ _ | exact cellV_bool _ | omega) only [go_sem, ↓reduceIte, Nat.reduceEqDiff, Nat.reduceAdd, Int.reduceToNat, he]
      rw [show i = WL.length by omega] at hown
      exact out _ _ _ ⟨hk, hlo, o, (by simp +decide (disch := first | assumption | (apply GH.ok_push; assumption) | exact cellV_int _ _ | exact cellV_bool _ | omega) only [go_sem, ↓reduceIte, Nat.reduceEqDiff, Nat.reduceAdd, Int.reduceToNat, h3]; first | done | exact rfl), hown⟩
end Go.Proofs.Ytieliilnnfjijaa
set_option maxRecDepth 100000
set_option maxHeartbeats 8000000
set_option linter.unusedSimpArgs false
set_option linter.unusedVariables false
namespace Go.Proofs.Ytieliilnnfjijaa
open Go.Ds
def sumF (f : Nat → Nat) : Nat → Nat
  | 0 => 0
  | k + 1 => sumF f k + f k
theorem sumF_add (f h : Nat → Nat) : ∀ k, sumF (fun j => f j + h j) k = sumF f k + sumF h k
  | 0 => rfl
  | k + 1 => by simp only [sumF, sumF_add f h k]; omega
theorem sumF_one (c : Nat) : ∀ k, sumF (fun j => if c = j then 1 else 0) k = if c < k then 1 else 0
  | 0 => rfl
  | k + 1 => by
    rw [sumF, sumF_one c k]
    by_cases h : c < k
    · rw [if_pos h, if_neg (by omega), if_pos (by omega)]
    · by_cases h2 : c = k
      · rw [if_neg h, if_pos h2, if_pos (by omega)]
      · rw [if_neg h, if_neg h2, if_neg (by omega)]
theorem sumF_congr {f h : Nat → Nat} : ∀ {k : Nat}, (∀ j, j < k → f j = h j) → sumF f k = sumF h k
  | 0, _ => rfl
  | k + 1, e => by rw [sumF, sumF, sumF_congr (fun j hj => e j (by omega)), e k (by omega)]
theorem sumF_zero {f : Nat → Nat} (h : ∀ j, f j = 0) : ∀ k, sumF f k = 0
  | 0 => rfl
  | k + 1 => by rw [sumF, sumF_zero h k, h k]
theorem wireL_cons (b : Int) (B : List Int) (t : Int) (k : Nat) : wireL (b :: B) t k = (if b.tmod t = (k : Int) then [b.tdiv t] else []) ++ wireL B t k := by
  unfold wireL
  rw [List.filter_cons]
  simp only [decide_eq_true_eq]
  split <;> simp
theorem wires_total {T : Nat} (hT : 0 < T) : ∀ {B : List Int}, (∀ x ∈ B, 0 ≤ x) → sumF (fun k => (wireL B T k).length) T = B.length
  | [], _ => by
    exact sumF_zero (fun j => rfl) T
  | b :: B, h => by
    obtain ⟨k, hk1, hk2, _⟩ := tmod_bnd (b := b) (T := T) (h b List.mem_cons_self) hT
    have ih := wires_total hT (B := B) fun x hx => h x (List.mem_cons_of_mem _ hx)
    have e : sumF (fun k => (wireL (b :: B) T k).length) T = sumF (fun j => (if k = j then 1 else 0) + (wireL B T j).length) T := by
      refine sumF_congr fun j _ => ?_
      rw [wireL_cons, List.length_append, hk1]
      congr 1
      by_cases c : k = j
      · rw [if_pos c, if_pos (by omega)]; rfl
      · rw [if_neg c, if_neg (by omega)]; rfl
    rw [e, sumF_add, sumF_one, if_pos hk2, ih, List.length_cons]; omega
def coresL (B : List Int) (T : Nat) : List (List Int) := (List.range T).map fun k => beadsR [] (wireL B T k).length
theorem coresL_len (B : List Int) (T : Nat) : (coresL B T).length = T := by simp [coresL]
theorem coresL_get (B : List Int) {T k : Nat} (h : k < T) : (coresL B T)[k]? = some (beadsR [] (wireL B T k).length) := by simp [coresL, h]
theorem coresL_getD (B : List Int) {T k : Nat} (h : k < T) : (coresL B T).getD k [] = beadsR [] (wireL B T k).length := by
  rw [List.getD_eq_getElem?_getD, coresL_get B h]; rfl
theorem onK_cores_len (B : List Int) (T : Nat) : ∀ k, k ≤ T → (onK (coresL B T) T k).length = sumF (fun k => (wireL B T k).length) k
  | 0, _ => rfl
  | k + 1, h => by
    rw [onK_succ, List.length_append, onK_cores_len B T k (by omega), coresL_getD B (by omega), onW, List.length_map, beadsR_len, sumF]
def coreB (B : List Int) (T : Nat) : List Int := shapeL (sortD (onK (coresL B T) T T))
def manyB (B : List Int) (T : Nat) : Int := blocksIn (wiresL B T) T
theorem zeros_hts {n : Nat} (h : n ≤ 1000) : Hts (beadsR [] n) := by
  refine ⟨by rw [beadsR_len]; exact h, fun x hx => ?_⟩
  simp only [beadsR, rng, List.mem_map, List.mem_range] at hx
  obtain ⟨r, hr, rfl⟩ := hx
  simp
  omega
theorem wire_hts {B : List Int} (hB : Beads B) {T : Nat} (hT : 2 ≤ T) (k : Nat) : Hts (wireL B T k) := by
  have h1 := wireL_len B T k
  have h2 := hB.len
  refine ⟨by omega, fun x hx => ?_⟩
  simp only [wireL, List.mem_map, List.mem_filter] at hx
  obtain ⟨b, ⟨hb, _⟩, rfl⟩ := hx
  have := hB.bnd b hb
  obtain ⟨k, _, _, q, hq, hle⟩ := tmod_bnd (b := b) (T := T) this.1 (by omega)
  omega
theorem sortD_mem {B : List Int} {x : Int} : x ∈ sortD B ↔ x ∈ B := (sortD_perm B).mem_iff
theorem onK_mem {WL : List (List Int)} {T : Nat} {x : Int} : ∀ {k : Nat}, x ∈ onK WL T k ↔ ∃ j, j < k ∧ ∃ h ∈ WL.getD j [], x = h * T + j
  | 0 => by simp [onK]
  | k + 1 => by
    rw [onK_succ, List.mem_append, onK_mem (k := k), onW, List.mem_map]
    constructor
    · rintro (⟨j, hj, h⟩ | ⟨h, hh, rfl⟩)
      · exact ⟨j, by omega, h⟩
      · exact ⟨k, by omega, h, hh, rfl⟩
    · rintro ⟨j, hj, h, hh, rfl⟩
      by_cases c : j = k
      · subst c; exact .inr ⟨h, hh, rfl⟩
      · exact .inl ⟨j, by omega, h, hh, rfl⟩
theorem core_fits {B : List Int} (hB : Beads B) {T : Nat} (hT : 2 ≤ T ∧ T ≤ 6) : (onK (coresL B T) T T).length ≤ 12 ∧ Fits (sortD (onK (coresL B T) T T)) := by
  have hl : (onK (coresL B T) T T).length ≤ 12 := by
    rw [onK_cores_len B T T (Nat.le_refl _), wires_total (by omega) fun x hx => (hB.bnd x hx).1]
    exact hB.len
  refine ⟨hl, Fits.perm ⟨by omega, fun x hx => ?_⟩ (sortD_perm _)⟩
  obtain ⟨j, hj, h, hh, rfl⟩ := onK_mem.1 hx
  rw [coresL_getD B hj] at hh
  have hw := wireL_len B T j
  have hbl := hB.len
  have h2 := (zeros_hts (n := (wireL B T j).length) (by omega)).2 h hh
  have h3 : 0 ≤ h * (T : Int) := Int.mul_nonneg h2.1 (by omega)
  have h4 : h * (T : Int) ≤ 100000 * 6 := Int.mul_le_mul h2.2 (by omega) (by omega) (by omega)
  omega
theorem coreOf_rets {X : Caller} (hX : Xok X) (L : List Int) (hS : isShape L = true) (T : Nat) (hT : 2 ≤ T ∧ T ≤ 6) (s : Value) (g : GH) (hs : SlR g s (ints L)) :
    Rets Try.prog X 56 [s, .int .i64 T] g (fun v g' lo => g.next ≤ lo ∧ ∃ u, v = .tuple #[u, .int .i64 (manyB (beadsR L L.length) T)] ∧ SlR g' u (ints (coreB (beadsR L L.length) T))) := by
  refine Rets.run hX.pres p56 (hX.free 56 (by decide) _ _) rfl fun ho => ?_
  have hl := hs.len
  rw [ints_len] at hl
  obtain ⟨c1, c2, c3⟩ := shape_facts hS
  simp +decide (disch := first | assumption | (apply GH.ok_push; assumption) | exact cellV_int _ _ | exact cellV_bool _ | omega) only [go_sem, ↓reduceIte, Nat.reduceEqDiff, Nat.reduceAdd, Int.reduceToNat, hl]
  refine CallD.calm (beads_rets hX L (desc_fits c2 (by omega)) L.length (Nat.le_refl _) (by omega) s g hs) ?_
  rintro b G1 hx1 hb
  have hn1 := hx1.next
  have hB := beadsR_beads hS
  obtain ⟨B, hBe⟩ : ∃ B, beadsR L L.length = B := ⟨_, rfl⟩
  rw [hBe] at hb hB ⊢
  have hB12 := hB.len
  simp +decide (disch := first | assumption | (apply GH.ok_push; assumption) | exact cellV_int _ _ | exact cellV_bool _ | omega) only [go_sem, ↓reduceIte, Nat.reduceEqDiff, Nat.reduceAdd, Int.reduceToNat]
  refine CallD.calm (wires_rets2 hX B (by omega) (fun x hx => by have := hB.bnd x hx; omega) T hT b G1 hb) ?_
  rintro w G2 hx2 ⟨hk2, hok2, rfl, vs, F, hW⟩
  have hn2 := hx2.next
  have hlt2 := hW.lt
  have hWl : ∀ W ∈ wiresL B T, Hts W := by
    intro W hW
    simp only [wiresL, List.mem_map, List.mem_range] at hW
    obtain ⟨k, _, rfl⟩ := hW
    exact wire_hts hB hT.1 k
  have hwlen := wiresL_len B T
  simp +decide (disch := first | assumption | (apply GH.ok_push; assumption) | exact cellV_int _ _ | exact cellV_bool _ | omega) only [go_sem, ↓reduceIte, Nat.reduceEqDiff, Nat.reduceAdd, Int.reduceToNat]
  refine CallD.calm (sumOn_rets hX (wiresL B T) hWl (by omega) _ G2 hW.sl2) ?_
  rintro v G3 hx3 ⟨hk3, hok3, rfl⟩
  have hn3 := hx3.next
  have hmb : blocksIn (wiresL B T) (wiresL B T).length = manyB B T := by rw [hwlen]; rfl
  rw [hmb]
  simp +decide (disch := first | assumption | (apply GH.ok_push; assumption) | exact cellV_int _ _ | exact cellV_bool _ | omega) only [go_sem, ↓reduceIte, Nat.reduceEqDiff, Nat.reduceAdd, Int.reduceToNat, lenL_slice]
  refine Wk.loops (fun m e g' lo => g.next ≤ lo ∧ Kept G1 g' ∧ G3.next ≤ g'.next ∧ ∃ i : Nat, i + m = T ∧ (ev e (.s 6) = .slice (some ⟨G1.next, 0, none⟩) T T ∧ ev e (.s 7) = .int .i64 (manyB B T) ∧ ev e (.s 18) = .slice (some ⟨G1.next, 0, none⟩) T T ∧ ev e (.s 19) = .int .i64 T ∧ ev e (.s 20) = .int .i64 i) ∧
        ∃ vs, g'.get G1.next = cellsOb vs 22 ∧ vs.length = T ∧ ∀ k v, vs[k]? = some v → SlR g' v (ints (if k < i then beadsR [] (wireL B T k).length else wireL B T k)) ∧ ∀ a l c, v = .slice (some a) l c → a.block ≠ G1.next)
    (fun e g' lo => g.next ≤ lo ∧ Kept G1 g' ∧ (ev e (.s 6) = .slice (some ⟨G1.next, 0, none⟩) T T ∧ ev e (.s 7) = .int .i64 (manyB B T)) ∧ Sl2 g' (.slice (some ⟨G1.next, 0, none⟩) T T) (coresL B T)) (n := T) ?_ ?_ ?_
  · refine ⟨by omega, hk2.trans hk3, Nat.le_refl _, 0, by omega, (by simp +decide (disch := first | assumption | (apply GH.ok_push; assumption) | exact cellV_int _ _ | exact cellV_bool _ | omega) only [go_sem, ↓reduceIte, Nat.reduceEqDiff, Nat.reduceAdd, Int.reduceToNat]; first | done | exact rfl), vs, (hk3.gets _ hlt2).trans hW.get, hW.len, fun k v hv => ⟨?_, fun a l c e => ?_⟩⟩
    · rw [if_neg (by omega)]; exact (hW.own k v hv).read.kept hk3
    · rcases hW.own k v hv with ⟨q, _⟩ | ⟨j, q, _, _, _, q2, q3, _⟩
      · rw [q] at e; cases e
      · rw [q] at e; cases e; show j ≠ G1.next; omega
  · rintro e g' lo hog - ⟨hlo, hk, he, hsl⟩
    obtain ⟨f1, f2⟩ := core_fits hB hT
    have hcl := coresL_len B T
    have hzh : ∀ W ∈ coresL B T, Hts W := by
      intro W hW
      simp only [coresL, List.mem_map, List.mem_range] at hW
      obtain ⟨k, _, rfl⟩ := hW
      have := wireL_len B T k
      exact zeros_hts (by omega)
    have hgk := hk.next
    have hon := beadsOn_rets hX (coresL B T) hzh (by omega) (by rw [hcl]; omega) _ g' hsl
    rw [hcl] at hon
    simp +decide (disch := first | assumption | (apply GH.ok_push; assumption) | exact cellV_int _ _ | exact cellV_bool _ | omega) only [go_sem, ↓reduceIte, Nat.reduceEqDiff, Nat.reduceAdd, Int.reduceToNat, he]
    refine CallD.calm hon ?_
    rintro v G4 hx4 hv
    have hn4 := hx4.next
    simp +decide (disch := first | assumption | (apply GH.ok_push; assumption) | exact cellV_int _ _ | exact cellV_bool _ | omega) only [go_sem, ↓reduceIte, Nat.reduceEqDiff, Nat.reduceAdd, Int.reduceToNat, he]
    refine CallD.calm (shapeOf_rets hX _ f2 v G4 hv) ?_
    rintro v2 G5 hx5 hv2
    have hn5 := hx5.next
    simp +decide (disch := first | assumption | (apply GH.ok_push; assumption) | exact cellV_int _ _ | exact cellV_bool _ | omega) only [go_sem, ↓reduceIte, Nat.reduceEqDiff, Nat.reduceAdd, Int.reduceToNat, he]
    intro hx0
    exact ⟨by omega, v2, rfl, hv2⟩
  · rintro m e g' lo ho' hl' ih out ⟨hlo, hk, hG3, i, hi, he, vs, hget, hvl, hvs⟩
    have hgk := hk.next
    by_cases ci : i < T
    · have hvk := List.getElem?_eq_getElem (show i < vs.length by omega)
      obtain ⟨u, hu⟩ : ∃ u, vs[i]'(by omega) = u := ⟨_, rfl⟩
      rw [hu] at hvk
      obtain ⟨hur, hub⟩ := hvs i u hvk
      rw [if_neg (by omega)] at hur
      have hlu := hur.len
      rw [ints_len] at hlu
      have hwl := wireL_len B T i
      have hia := iaddrS_at (j := G1.next) (n := T) (c := T) (m := i) (x := (i : Int)) rfl ci
      simp +decide (disch := first | assumption | (apply GH.ok_push; assumption) | exact cellV_int _ _ | exact cellV_bool _ | omega) only [go_sem, ↓reduceIte, Nat.reduceEqDiff, Nat.reduceAdd, Int.reduceToNat, he, hia, hget, hvk, hlu]
      refine CallD.calm (beadsAt_rets hX [] ⟨by simp, by simp⟩ (wireL B T i).length (by simp) (by omega) (.slice none 0 0) g' SlR.nil) ?_
      rintro w G4 hx4 ⟨rfl, hw4⟩
      have hn4 := hx4.next
      have hget4 : G4.get G1.next = cellsOb vs 22 := (hx4.gets _ (by omega)).trans hget
      have hlt4 : G1.next < G4.next := by omega
      simp +decide (disch := first | assumption | (apply GH.ok_push; assumption) | exact cellV_int _ _ | exact cellV_bool _ | omega) only [go_sem, ↓reduceIte, Nat.reduceEqDiff, Nat.reduceAdd, Int.reduceToNat, he, hia, hget4, hvl]
      have hw := Wrote.set (o := cellsOb (splice i vs [.slice (some ⟨g'.next, 0, none⟩) (wireL B T i).length (wireL B T i).length]) 22) hget4 Nat.one_ne_zero (hx4.ok ho')
      rw [splice_set _ _ _ (by omega)] at hw ⊢
      have hnx := hw.next
      refine ih (m - 1) _ _ _ (by omega) ⟨by omega, hw.kept (hk.ext hx4) (Nat.le_refl _), by omega, i + 1, by omega, (by simp +decide (disch := first | assumption | (apply GH.ok_push; assumption) | exact cellV_int _ _ | exact cellV_bool _ | omega) only [go_sem, ↓reduceIte, Nat.reduceEqDiff, Nat.reduceAdd, Int.reduceToNat, he]; first | done | exact rfl), _, hw.get, by simp [hvl], fun k v hv => ?_⟩
      by_cases c : k = i
      · subst c
        rw [List.getElem?_set_self (by omega)] at hv
        cases hv
        rw [if_pos (by omega)]
        refine ⟨hw4.wrote hw fun a l c e => ?_, fun a l c e => ?_⟩
        · cases e; show g'.next ≠ G1.next; omega
        · cases e; show g'.next ≠ G1.next; omega
      · rw [List.getElem?_set_ne (Ne.symm c)] at hv
        obtain ⟨q1, q2⟩ := hvs k v hv
        refine ⟨?_, q2⟩
        have := (q1.ext hx4).wrote hw q2
        by_cases c2 : k < i
        · rw [if_pos c2] at this; rw [if_pos (by omega)]; exact this
        · rw [if_neg c2] at this; rw [if_neg (by omega)]; exact this
    · simp +decide (disch := first | assumption | (apply GH.ok_push; assumption) | exact cellV_int _ _ | exact cellV_bool _ | omega) only [go_sem, ↓reduceIte, Nat.reduceEqDiff, Nat.reduceAdd, Int.reduceToNat, he]
      refine out _ _ _ ⟨hlo, hk, (by simp +decide (disch := first | assumption | (apply GH.ok_push; assumption) | exact cellV_int _ _ | exact cellV_bool _ | omega) only [go_sem, ↓reduceIte, Nat.reduceEqDiff, Nat.reduceAdd, Int.reduceToNat, he]; first | done | exact rfl), vs, SlR.whole hget (by omega) hvl.symm, by rw [coresL_len]; exact hvl, fun k v M hv hM => ?_⟩
      have hkT : k < T := by have := (List.getElem?_eq_some_iff.1 hv).1; omega
      rw [coresL_get B hkT] at hM
      cases hM
      have := (hvs k v hv).1
      rwa [if_pos (by omega)] at this
end Go.Proofs.Ytieliilnnfjijaa
