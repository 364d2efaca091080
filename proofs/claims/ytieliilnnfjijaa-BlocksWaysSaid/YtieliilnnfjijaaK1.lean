import Derived.Test.YtieliilnnfjijaaDtN
import Derived.Test.YtieliilnnfjijaaDtP
import Derived.Test.YtieliilnnfjijaaKc
set_option linter.all false
set_option linter.unusedSimpArgs false
set_option linter.unnecessarySimpa false
set_option linter.unusedVariables false
set_option linter.unusedSectionVars false
set_option maxRecDepth 100000
set_option maxHeartbeats 4000000
set_option linter.unusedSimpArgs false
set_option linter.unusedVariables false
namespace Go.Proofs.Ytieliilnnfjijaa
open Go.Ds
def ints (D : List Int) : List Value := D.map (Value.int .i64)
theorem ints_get {D : List Int} {i : Nat} (h : i < D.length) : (ints D)[i]? = some (.int .i64 (D.getD i 0)) := by
  simp [ints, h]
theorem ints_len (D : List Int) : (ints D).length = D.length := by simp [ints]
theorem ints_app (D E : List Int) : ints (D ++ E) = ints D ++ ints E := by simp [ints]
theorem ints_cell (D : List Int) : (ints D).all cellV = true := by simp [ints, cellV]
theorem ints_set (O : List Int) (n : Nat) (x : Int) : (ints O).set n (.int .i64 x) = ints (O.set n x) := by simp [ints, List.map_set]
structure Xok (X : Caller) : Prop where
  pres : ∀ i, @CallPres i X
  free : ∀ f, f ≠ 16 → ∀ l h, X f l h = none
  alive : ∀ g : GH, Rets Try.prog X 16 [] g (fun v g' lo => g.next ≤ lo ∧ v = .bool true)
theorem take_snoc (D : List Int) (i : Nat) (h : i < D.length) : D.take (i + 1) = D.take i ++ [D.getD i 0] := by
  rw [List.take_add_one]; simp [h]
theorem take_snoc' {α : Type} (D : List α) (i : Nat) (x : α) (h : D[i]? = some x) : D.take (i + 1) = D.take i ++ [x] := by
  rw [List.take_add_one]; simp [h]
/-- Two slices of integers are the same. -/
theorem same_rets {X : Caller} (hX : Xok X) (A B : List Int) (hA : A.length < 1000000) (hB : B.length < 1000000) (s t : Value) (g : GH) (hs : SlR g s (ints A)) (ht : SlR g t (ints B)) :
    Rets Try.prog X 24 [s, t] g (fun v g' lo => g.next ≤ lo ∧ v = .bool (decide (A = B))) := by
  refine Rets.run hX.pres p24 (hX.free 24 (by decide) _ _) rfl fun ho => ?_
  have hls := hs.len
  have hlt := ht.len
  rw [ints_len] at hls hlt
  by_cases c : A.length = B.length
  · simp +decide (disch := first | assumption | (apply GH.ok_push; assumption) | exact cellV_int _ _ | exact cellV_bool _ | omega) only [go_sem, ↓reduceIte, Nat.reduceEqDiff, Nat.reduceAdd, Int.reduceToNat, hls, hlt]
    refine Wk.loops (fun m e g' lo => g' = g ∧ g.next ≤ lo ∧ ∃ i : Nat, i + m = A.length ∧ (ev e (.s 0) = s ∧ ev e (.s 1) = t ∧ ev e (.s 5) = .int .i64 i) ∧ A.take i = B.take i)
      (fun e g' lo => g' = g ∧ g.next ≤ lo ∧ A = B) (n := A.length) ?_ ?_ ?_
    · exact ⟨rfl, Nat.le_refl _, 0, by omega, (by simp +decide (disch := first | assumption | (apply GH.ok_push; assumption) | exact cellV_int _ _ | exact cellV_bool _ | omega) only [go_sem, ↓reduceIte, Nat.reduceEqDiff, Nat.reduceAdd, Int.reduceToNat]; first | done | exact rfl), rfl⟩
    · rintro e g' lo - - ⟨rfl, hlo, h⟩
      simp +decide (disch := first | assumption | (apply GH.ok_push; assumption) | exact cellV_int _ _ | exact cellV_bool _ | omega) only [go_sem, ↓reduceIte, Nat.reduceEqDiff, Nat.reduceAdd, Int.reduceToNat]
      intro hx
      exact ⟨hlo, by simp [h]⟩
    · rintro m e g' lo ho' hl' ih out ⟨rfl, hlo, i, hi, he, hp⟩
      by_cases c2 : i < A.length
      · obtain ⟨j1, o1, hj1, hp1, hp2⟩ := hs.ptr (ints_get (D := A) (i := i) c2)
        obtain ⟨j2, o2, hj2, hq1, hq2⟩ := ht.ptr (ints_get (D := B) (i := i) (by omega))
        have hp1 := hp1 (i : Int) rfl
        have hq1 := hq1 (i : Int) rfl
        by_cases d : A.getD i 0 = B.getD i 0
        · simp +decide (disch := first | assumption | (apply GH.ok_push; assumption) | exact cellV_int _ _ | exact cellV_bool _ | omega) only [go_sem, ↓reduceIte, Nat.reduceEqDiff, Nat.reduceAdd, Int.reduceToNat, he, hls, hp1, hp2, hq1, hq2, d]
          refine ih (m - 1) _ _ _ (by omega) ⟨rfl, hlo, i + 1, by omega, (by simp +decide (disch := first | assumption | (apply GH.ok_push; assumption) | exact cellV_int _ _ | exact cellV_bool _ | omega) only [go_sem, ↓reduceIte, Nat.reduceEqDiff, Nat.reduceAdd, Int.reduceToNat, he]; first | done | exact rfl), ?_⟩
          rw [take_snoc A i c2, take_snoc B i (by omega), hp, d]
        · simp +decide (disch := first | assumption | (apply GH.ok_push; assumption) | exact cellV_int _ _ | exact cellV_bool _ | omega) only [go_sem, ↓reduceIte, Nat.reduceEqDiff, Nat.reduceAdd, Int.reduceToNat, he, hls, hp1, hp2, hq1, hq2]
          intro hx
          refine ⟨hlo, ?_⟩
          rw [decide_eq_false fun h => d (by rw [h])]
      · simp +decide (disch := first | assumption | (apply GH.ok_push; assumption) | exact cellV_int _ _ | exact cellV_bool _ | omega) only [go_sem, ↓reduceIte, Nat.reduceEqDiff, Nat.reduceAdd, Int.reduceToNat, he, hls]
        refine out _ _ _ ⟨rfl, hlo, ?_⟩
        rw [List.take_of_length_le (by omega), List.take_of_length_le (by omega)] at hp
        exact hp
  · simp +decide (disch := first | assumption | (apply GH.ok_push; assumption) | exact cellV_int _ _ | exact cellV_bool _ | omega) only [go_sem, ↓reduceIte, Nat.reduceEqDiff, Nat.reduceAdd, Int.reduceToNat, hls, hlt]
    intro hx
    exact ⟨Nat.le_refl _, by rw [decide_eq_false fun h => c (by rw [h])]⟩

/-! ## Lists of lists -/
def Sl2 (g : GH) (s : Value) (LL : List (List Int)) : Prop := ∃ vs : List Value, SlR g s vs ∧ vs.length = LL.length ∧ ∀ (i : Nat) v L, vs[i]? = some v → LL[i]? = some L → SlR g v (ints L)
theorem Sl2.nil {g : GH} : Sl2 g (.slice none 0 0) [] := ⟨[], SlR.nil, rfl, fun i v L h => by simp at h⟩
theorem Sl2.kept {g g' : GH} {s : Value} {LL : List (List Int)} (h : Sl2 g s LL) (k : Kept g g') : Sl2 g' s LL := by
  obtain ⟨vs, h1, h2, h3⟩ := h
  exact ⟨vs, h1.kept k, h2, fun i v L a b => (h3 i v L a b).kept k⟩
theorem Sl2.len {g : GH} {s : Value} {LL : List (List Int)} (h : Sl2 g s LL) : lenLF s = some (.int .i64 (LL.length : Int)) := by
  obtain ⟨vs, h1, h2, h3⟩ := h
  rw [h1.len, h2]
theorem Sl2.ptr {g : GH} {s : Value} {LL : List (List Int)} (h : Sl2 g s LL) {i : Nat} (hi : i < LL.length) : ∃ v j o, j < g.next ∧ (∀ n : Int, n = i → iaddrSF 1 s (.int .i64 n) = some (.pointer (some ⟨j, o, none⟩))) ∧ (∀ lo, loadF none (g.at lo) (.pointer (some ⟨j, o, none⟩)) = some v) ∧ SlR g v (ints (LL.getD i [])) := by
  obtain ⟨vs, h1, h2, h3⟩ := h
  have hv := List.getElem?_eq_getElem (show i < vs.length by omega)
  obtain ⟨j, o, a, b, c⟩ := h1.ptr hv
  refine ⟨vs[i], j, o, a, b, c, h3 i _ _ hv ?_⟩
  rw [List.getD_eq_getElem?_getD, List.getElem?_eq_getElem hi]; rfl
theorem take_snocL (D : List (List Int)) (i : Nat) (h : i < D.length) : D.take (i + 1) = D.take i ++ [D.getD i []] := by
  rw [List.take_add_one]; simp [h]
/-- Two lists of lists are the same. -/
theorem shapes_rets {X : Caller} (hX : Xok X) (A B : List (List Int)) (hA : A.length < 1000000) (hB : B.length < 1000000) (hA2 : ∀ L ∈ A, L.length < 1000000) (hB2 : ∀ L ∈ B, L.length < 1000000) (s t : Value) (g : GH) (hs : Sl2 g s A) (ht : Sl2 g t B) :
    Rets Try.prog X 21 [s, t] g (fun v g' lo => g.next ≤ lo ∧ v = .bool (decide (A = B))) := by
  refine Rets.run hX.pres p21 (hX.free 21 (by decide) _ _) rfl fun ho => ?_
  have hls := hs.len
  have hlt := ht.len
  by_cases c : A.length = B.length
  · simp +decide (disch := first | assumption | (apply GH.ok_push; assumption) | exact cellV_int _ _ | exact cellV_bool _ | omega) only [go_sem, ↓reduceIte, Nat.reduceEqDiff, Nat.reduceAdd, Int.reduceToNat, hls, hlt]
    refine Wk.loops (fun m e g' lo => Kept g g' ∧ g.next ≤ lo ∧ ∃ i : Nat, i + m = A.length ∧ (ev e (.s 0) = s ∧ ev e (.s 1) = t ∧ ev e (.s 5) = .int .i64 i) ∧ A.take i = B.take i)
      (fun e g' lo => g.next ≤ lo ∧ A = B) (n := A.length) ?_ ?_ ?_
    · exact ⟨Kept.refl _, Nat.le_refl _, 0, by omega, (by simp +decide (disch := first | assumption | (apply GH.ok_push; assumption) | exact cellV_int _ _ | exact cellV_bool _ | omega) only [go_sem, ↓reduceIte, Nat.reduceEqDiff, Nat.reduceAdd, Int.reduceToNat]; first | done | exact rfl), rfl⟩
    · rintro e g' lo - - ⟨hlo, h⟩
      simp +decide (disch := first | assumption | (apply GH.ok_push; assumption) | exact cellV_int _ _ | exact cellV_bool _ | omega) only [go_sem, ↓reduceIte, Nat.reduceEqDiff, Nat.reduceAdd, Int.reduceToNat]
      intro hx
      exact ⟨hlo, by simp [h]⟩
    · rintro m e g' lo ho' hl' ih out ⟨hk, hlo, i, hi, he, hp⟩
      by_cases c2 : i < A.length
      · obtain ⟨u, j1, o1, hj1, hp1, hp2, hu⟩ := (hs.kept hk).ptr c2
        obtain ⟨w, j2, o2, hj2, hq1, hq2, hw⟩ := (ht.kept hk).ptr (i := i) (by omega)
        have hp1 := hp1 (i : Int) rfl
        have hq1 := hq1 (i : Int) rfl
        have m1 : A.getD i [] ∈ A := by rw [List.getD_eq_getElem?_getD, List.getElem?_eq_getElem c2]; exact List.getElem_mem _
        have m2 : B.getD i [] ∈ B := by rw [List.getD_eq_getElem?_getD, List.getElem?_eq_getElem (show i < B.length by omega)]; exact List.getElem_mem _
        simp +decide (disch := first | assumption | (apply GH.ok_push; assumption) | exact cellV_int _ _ | exact cellV_bool _ | omega) only [go_sem, ↓reduceIte, Nat.reduceEqDiff, Nat.reduceAdd, Int.reduceToNat, he, hls, hp1, hp2, hq1, hq2]
        refine CallD.calm (same_rets hX _ _ (hA2 _ m1) (hB2 _ m2) u w g' hu hw) ?_
        rintro v G hx rfl
        have hn := hx.next
        by_cases d : A.getD i [] = B.getD i []
        · have d' : decide (A.getD i [] = B.getD i []) = true := decide_eq_true d
          simp +decide (disch := first | assumption | (apply GH.ok_push; assumption) | exact cellV_int _ _ | exact cellV_bool _ | omega) only [go_sem, ↓reduceIte, Nat.reduceEqDiff, Nat.reduceAdd, Int.reduceToNat, he, hls, d']
          refine ih (m - 1) _ _ _ (by omega) ⟨hk.ext hx, by omega, i + 1, by omega, (by simp +decide (disch := first | assumption | (apply GH.ok_push; assumption) | exact cellV_int _ _ | exact cellV_bool _ | omega) only [go_sem, ↓reduceIte, Nat.reduceEqDiff, Nat.reduceAdd, Int.reduceToNat, he]; first | done | exact rfl), ?_⟩
          rw [take_snocL A i c2, take_snocL B i (by omega), hp, d]
        · have d' : decide (A.getD i [] = B.getD i []) = false := decide_eq_false d
          simp +decide (disch := first | assumption | (apply GH.ok_push; assumption) | exact cellV_int _ _ | exact cellV_bool _ | omega) only [go_sem, ↓reduceIte, Nat.reduceEqDiff, Nat.reduceAdd, Int.reduceToNat, he, hls, d']
          intro hx
          refine ⟨by omega, ?_⟩
          rw [decide_eq_false fun h => d (by rw [h])]
      · simp +decide (disch := first | assumption | (apply GH.ok_push; assumption) | exact cellV_int _ _ | exact cellV_bool _ | omega) only [go_sem, ↓reduceIte, Nat.reduceEqDiff, Nat.reduceAdd, Int.reduceToNat, he, hls]
        refine out _ _ _ ⟨hlo, ?_⟩
        rw [List.take_of_length_le (by omega), List.take_of_length_le (by omega)] at hp
        exact hp
  · simp +decide (disch := first | assumption | (apply GH.ok_push; assumption) | exact cellV_int _ _ | exact cellV_bool _ | omega) only [go_sem, ↓reduceIte, Nat.reduceEqDiff, Nat.reduceAdd, Int.reduceToNat, hls, hlt]
    intro hx
    exact ⟨Nat.le_refl _, by rw [decide_eq_false fun h => c (by rw [h])]⟩
end Go.Proofs.Ytieliilnnfjijaa
set_option maxRecDepth 100000
set_option maxHeartbeats 4000000
set_option linter.unusedSimpArgs false
set_option linter.unusedVariables false
namespace Go.Proofs.Ytieliilnnfjijaa
open Go.Ds
def sumL : List Int → Int
  | [] => 0
  | x :: l => x + sumL l
theorem sumL_app (A B : List Int) : sumL (A ++ B) = sumL A + sumL B := by
  induction A with
  | nil => simp [sumL]
  | cons x A ih => simp only [List.cons_append, sumL, ih]; omega
theorem sumL_bnd {L : List Int} {a b : Int} (h : ∀ x ∈ L, a ≤ x ∧ x ≤ b) : a * L.length ≤ sumL L ∧ sumL L ≤ b * L.length := by
  induction L with
  | nil => simp [sumL]
  | cons x L ih =>
    have h1 := h x List.mem_cons_self
    have h2 := ih fun y hy => h y (List.mem_cons_of_mem _ hy)
    simp only [sumL, List.length_cons, Int.natCast_add, Int.natCast_one, Int.mul_add, Int.mul_one]
    omega
theorem mem_getD {L : List Int} {i : Nat} (h : i < L.length) : L.getD i 0 ∈ L := by
  rw [List.getD_eq_getElem?_getD, List.getElem?_eq_getElem h]; exact List.getElem_mem _
theorem sumL_snoc (L : List Int) (i : Nat) (h : i < L.length) : sumL (L.take (i + 1)) = sumL (L.take i) + L.getD i 0 := by
  rw [take_snoc L i h, sumL_app]; simp [sumL]
/-- What a list of numbers sums to fits. -/
def Fits (L : List Int) : Prop := L.length ≤ 1000000 ∧ ∀ x ∈ L, -1000000 ≤ x ∧ x ≤ 1000000
theorem Fits.take {L : List Int} (h : Fits L) (i : Nat) : -1000000000000 ≤ sumL (L.take i) ∧ sumL (L.take i) ≤ 1000000000000 := by
  have h1 := sumL_bnd (L := L.take i) (a := -1000000) (b := 1000000) fun x hx => h.2 x (List.mem_of_mem_take hx)
  have h2 : (L.take i).length ≤ 1000000 := by have := h.1; simp; omega
  omega
theorem Fits.sum {L : List Int} (h : Fits L) : -1000000000000 ≤ sumL L ∧ sumL L ≤ 1000000000000 := by
  have := h.take L.length
  rwa [List.take_length] at this
theorem id_rets {X : Caller} (hX : Xok X) (n : Int) (g : GH) : Rets Try.prog X 69 [.int .i64 n] g (fun v g' lo => g' = g ∧ g.next ≤ lo ∧ v = .int .i64 n) := by
  refine Rets.run hX.pres p69 (hX.free 69 (by decide) _ _) rfl fun ho => ?_
  simp +decide (disch := first | assumption | (apply GH.ok_push; assumption) | exact cellV_int _ _ | exact cellV_bool _ | omega) only [go_sem, ↓reduceIte, Nat.reduceEqDiff, Nat.reduceAdd, Int.reduceToNat]
  intro hx
  exact ⟨rfl, Nat.le_refl _, rfl⟩
/-- The sum of all that a function says, where it says the number itself. -/
theorem sum_rets {X : Caller} (hX : Xok X) (L : List Int) (hL : Fits L) (s : Value) (g : GH) (hs : SlR g s (ints L)) :
    Rets Try.prog X 68 [s, .func (.func 69) #[] #[]] g (fun v g' lo => g.next ≤ lo ∧ v = .int .i64 (sumL L)) := by
  refine Rets.run hX.pres p68 (hX.free 68 (by decide) _ _) rfl fun ho => ?_
  have hl := hs.len
  rw [ints_len] at hl
  simp +decide (disch := first | assumption | (apply GH.ok_push; assumption) | exact cellV_int _ _ | exact cellV_bool _ | omega) only [go_sem, ↓reduceIte, Nat.reduceEqDiff, Nat.reduceAdd, Int.reduceToNat, hl]
  refine Wk.loops (fun m e g' lo => g' = g ∧ g.next ≤ lo ∧ ∃ i : Nat, i + m = L.length ∧ (ev e (.s 1) = .func (.func 69) #[] #[] ∧ ev e (.s 8) = s ∧ ev e (.s 9) = .int .i64 L.length ∧ ev e (.s 10) = .int .i64 i ∧ ev e (.s 5) = .int .i64 (sumL (L.take i))))
    (fun e g' lo => g.next ≤ lo ∧ ev e (.s 5) = .int .i64 (sumL L)) (n := L.length) ?_ ?_ ?_
  · exact ⟨rfl, Nat.le_refl _, 0, by omega, (by simp +decide (disch := first | assumption | (apply GH.ok_push; assumption) | exact cellV_int _ _ | exact cellV_bool _ | omega) only [go_sem, ↓reduceIte, Nat.reduceEqDiff, Nat.reduceAdd, Int.reduceToNat, List.take_zero, sumL]; first | done | exact rfl)⟩
  · rintro e g' lo - - ⟨hlo, he⟩
    simp +decide (disch := first | assumption | (apply GH.ok_push; assumption) | exact cellV_int _ _ | exact cellV_bool _ | omega) only [go_sem, ↓reduceIte, Nat.reduceEqDiff, Nat.reduceAdd, Int.reduceToNat, he]
    intro hx
    exact ⟨hlo, rfl⟩
  · rintro m e g' lo ho' hl' ih out ⟨rfl, hlo, i, hi, he⟩
    by_cases c : i < L.length
    · obtain ⟨p, hp1, hp2⟩ := hs.at (ints_get (D := L) (i := i) c)
      have hp1 := hp1 (i : Int) rfl
      have hb := hL.take i
      have hb0 := hL.1
      have hb2 := hL.2 _ (mem_getD c)
      simp +decide (disch := first | assumption | (apply GH.ok_push; assumption) | exact cellV_int _ _ | exact cellV_bool _ | omega) only [go_sem, ↓reduceIte, Nat.reduceEqDiff, Nat.reduceAdd, Int.reduceToNat, he, hp1, hp2]
      refine CallV.go rfl (id_rets hX _ _) ?_
      rintro v G lo2 wr hx ⟨rfl, h2, rfl⟩
      simp +decide (disch := first | assumption | (apply GH.ok_push; assumption) | exact cellV_int _ _ | exact cellV_bool _ | omega) only [go_sem, ↓reduceIte, Nat.reduceEqDiff, Nat.reduceAdd, Int.reduceToNat, he]
      refine ih (m - 1) _ _ _ (by omega) ⟨rfl, by omega, i + 1, by omega, (by simp +decide (disch := first | assumption | (apply GH.ok_push; assumption) | exact cellV_int _ _ | exact cellV_bool _ | omega) only [go_sem, ↓reduceIte, Nat.reduceEqDiff, Nat.reduceAdd, Int.reduceToNat, he, sumL_snoc L i c]; first | done | exact rfl)⟩
    · simp +decide (disch := first | assumption | (apply GH.ok_push; assumption) | exact cellV_int _ _ | exact cellV_bool _ | omega) only [go_sem, ↓reduceIte, Nat.reduceEqDiff, Nat.reduceAdd, Int.reduceToNat, he]
      refine out _ _ _ ⟨hlo, ?_⟩
      rw [List.take_of_length_le (by omega)] at he
      exact he.2.2.2.2
theorem count_rets {X : Caller} (hX : Xok X) (L : List Int) (hL : Fits L) (s : Value) (g : GH) (hs : SlR g s (ints L)) :
    Rets Try.prog X 45 [s] g (fun v g' lo => g.next ≤ lo ∧ v = .int .i64 (sumL L)) := by
  refine Rets.run hX.pres p45 (hX.free 45 (by decide) _ _) rfl fun ho => ?_
  simp +decide (disch := first | assumption | (apply GH.ok_push; assumption) | exact cellV_int _ _ | exact cellV_bool _ | omega) only [go_sem, ↓reduceIte, Nat.reduceEqDiff, Nat.reduceAdd, Int.reduceToNat]
  refine CallD.calm (sum_rets hX L hL s g hs) ?_
  rintro v G hx rfl
  simp +decide (disch := first | assumption | (apply GH.ok_push; assumption) | exact cellV_int _ _ | exact cellV_bool _ | omega) only [go_sem, ↓reduceIte, Nat.reduceEqDiff, Nat.reduceAdd, Int.reduceToNat]
  intro hx0
  exact ⟨Nat.le_refl _, rfl⟩
/-- The reference's sum. -/
theorem refSum_rets {X : Caller} (hX : Xok X) (L : List Int) (hL : Fits L) (s : Value) (g : GH) (hs : SlR g s (ints L)) :
    Rets Try.prog X 42 [s] g (fun v g' lo => g.next ≤ lo ∧ v = .int .i64 (sumL L)) := by
  refine Rets.run hX.pres p42 (hX.free 42 (by decide) _ _) rfl fun ho => ?_
  have hl := hs.len
  rw [ints_len] at hl
  simp +decide (disch := first | assumption | (apply GH.ok_push; assumption) | exact cellV_int _ _ | exact cellV_bool _ | omega) only [go_sem, ↓reduceIte, Nat.reduceEqDiff, Nat.reduceAdd, Int.reduceToNat, hl]
  refine Wk.loops (fun m e g' lo => g' = g ∧ g.next ≤ lo ∧ ∃ i : Nat, i + m = L.length ∧ (ev e (.s 0) = s ∧ ev e (.s 4) = .int .i64 i ∧ ev e (.s 3) = .int .i64 (sumL (L.take i))))
    (fun e g' lo => g.next ≤ lo ∧ ev e (.s 3) = .int .i64 (sumL L)) (n := L.length) ?_ ?_ ?_
  · exact ⟨rfl, Nat.le_refl _, 0, by omega, (by simp +decide (disch := first | assumption | (apply GH.ok_push; assumption) | exact cellV_int _ _ | exact cellV_bool _ | omega) only [go_sem, ↓reduceIte, Nat.reduceEqDiff, Nat.reduceAdd, Int.reduceToNat, List.take_zero, sumL]; first | done | exact rfl)⟩
  · rintro e g' lo - - ⟨hlo, he⟩
    simp +decide (disch := first | assumption | (apply GH.ok_push; assumption) | exact cellV_int _ _ | exact cellV_bool _ | omega) only [go_sem, ↓reduceIte, Nat.reduceEqDiff, Nat.reduceAdd, Int.reduceToNat, he]
    intro hx
    exact ⟨hlo, rfl⟩
  · rintro m e g' lo ho' hl' ih out ⟨rfl, hlo, i, hi, he⟩
    by_cases c : i < L.length
    · obtain ⟨p, hp1, hp2⟩ := hs.at (ints_get (D := L) (i := i) c)
      have hp1 := hp1 (i : Int) rfl
      have hb := hL.take i
      have hb0 := hL.1
      have hb2 := hL.2 _ (mem_getD c)
      simp +decide (disch := first | assumption | (apply GH.ok_push; assumption) | exact cellV_int _ _ | exact cellV_bool _ | omega) only [go_sem, ↓reduceIte, Nat.reduceEqDiff, Nat.reduceAdd, Int.reduceToNat, he, hl, hp1, hp2]
      refine ih (m - 1) _ _ _ (by omega) ⟨rfl, by omega, i + 1, by omega, (by simp +decide (disch := first | assumption | (apply GH.ok_push; assumption) | exact cellV_int _ _ | exact cellV_bool _ | omega) only [go_sem, ↓reduceIte, Nat.reduceEqDiff, Nat.reduceAdd, Int.reduceToNat, he, sumL_snoc L i c]; first | done | exact rfl)⟩
    · simp +decide (disch := first | assumption | (apply GH.ok_push; assumption) | exact cellV_int _ _ | exact cellV_bool _ | omega) only [go_sem, ↓reduceIte, Nat.reduceEqDiff, Nat.reduceAdd, Int.reduceToNat, he, hl]
      refine out _ _ _ ⟨hlo, ?_⟩
      rw [List.take_of_length_le (by omega)] at he
      exact he.2.2

/-! ## Shapes -/
def desc : Int → List Int → Bool
  | _, [] => true
  | m, x :: l => decide (1 ≤ x) && decide (x ≤ m) && desc x l
def isShape (L : List Int) : Bool := decide (L.length ≤ 12) && desc 40 L && decide (sumL L ≤ 40)
def prevD (L : List Int) (i : Nat) : Int := if i = 0 then 40 else L.getD (i - 1) 0
theorem desc_step (m : Int) (L : List Int) (i : Nat) (h : i < L.length) : desc m (L.drop i) = (decide (1 ≤ L.getD i 0) && decide (L.getD i 0 ≤ m) && desc (L.getD i 0) (L.drop (i + 1))) := by
  rw [List.drop_eq_getElem_cons h, desc]
  simp [h]
theorem desc_le : ∀ {m : Int} {L : List Int}, desc m L = true → ∀ x ∈ L, 1 ≤ x ∧ x ≤ m
  | m, [], _, x, hx => by cases hx
  | m, y :: L, h, x, hx => by
    simp only [desc, Bool.and_eq_true, decide_eq_true_eq] at h
    rcases List.mem_cons.1 hx with rfl | hx
    · exact ⟨h.1.1, h.1.2⟩
    · have := desc_le h.2 x hx
      omega
theorem desc_fits {L : List Int} (h : desc 40 L = true) (hl : L.length ≤ 1000000) : Fits L := ⟨hl, fun x hx => by have := desc_le h x hx; omega⟩
theorem prevD_succ (L : List Int) (i : Nat) : prevD L (i + 1) = L.getD i 0 := by simp [prevD]
theorem isShape_rets {X : Caller} (hX : Xok X) (L : List Int) (hL : L.length < 1000000) (s : Value) (g : GH) (hs : SlR g s (ints L)) :
    Rets Try.prog X 17 [s] g (fun v g' lo => g.next ≤ lo ∧ v = .bool (isShape L)) := by
  refine Rets.run hX.pres p17 (hX.free 17 (by decide) _ _) rfl fun ho => ?_
  have hl := hs.len
  rw [ints_len] at hl
  by_cases c0 : 12 < L.length
  · simp +decide (disch := first | assumption | (apply GH.ok_push; assumption) | exact cellV_int _ _ | exact cellV_bool _ | omega) only [go_sem, ↓reduceIte, Nat.reduceEqDiff, Nat.reduceAdd, Int.reduceToNat, hl]
    intro hx
    refine ⟨Nat.le_refl _, ?_⟩
    have : decide (L.length ≤ 12) = false := decide_eq_false (by omega)
    rw [isShape, this]; rfl
  · simp +decide (disch := first | assumption | (apply GH.ok_push; assumption) | exact cellV_int _ _ | exact cellV_bool _ | omega) only [go_sem, ↓reduceIte, Nat.reduceEqDiff, Nat.reduceAdd, Int.reduceToNat, hl]
    refine Wk.loops (fun m e g' lo => g' = g ∧ g.next ≤ lo ∧ ∃ i : Nat, i + m = L.length ∧ (ev e (.s 0) = s ∧ ev e (.s 9) = s ∧ ev e (.s 10) = .int .i64 L.length ∧ ev e (.s 11) = .int .i64 i ∧ ev e (.s 3) = .int .i64 (prevD L i)) ∧ desc 40 L = desc (prevD L i) (L.drop i))
      (fun e g' lo => g' = g ∧ g.next ≤ lo ∧ ev e (.s 0) = s ∧ desc 40 L = true) (n := L.length) ?_ ?_ ?_
    · exact ⟨rfl, Nat.le_refl _, 0, by omega, (by simp +decide (disch := first | assumption | (apply GH.ok_push; assumption) | exact cellV_int _ _ | exact cellV_bool _ | omega) only [go_sem, ↓reduceIte, Nat.reduceEqDiff, Nat.reduceAdd, Int.reduceToNat, prevD]; first | done | exact rfl), rfl⟩
    · rintro e g' lo - - ⟨rfl, hlo, he, hd⟩
      simp +decide (disch := first | assumption | (apply GH.ok_push; assumption) | exact cellV_int _ _ | exact cellV_bool _ | omega) only [go_sem, ↓reduceIte, Nat.reduceEqDiff, Nat.reduceAdd, Int.reduceToNat, he]
      refine CallD.calm (count_rets hX L (desc_fits hd (by omega)) s _ hs) ?_
      rintro v G hx rfl
      have hn := hx.next
      simp +decide (disch := first | assumption | (apply GH.ok_push; assumption) | exact cellV_int _ _ | exact cellV_bool _ | omega) only [go_sem, ↓reduceIte, Nat.reduceEqDiff, Nat.reduceAdd, Int.reduceToNat]
      intro hx0
      refine ⟨by omega, ?_⟩
      rw [isShape, hd, decide_eq_true (show L.length ≤ 12 by omega)]; rfl
    · rintro m e g' lo ho' hl' ih out ⟨rfl, hlo, i, hi, he, hd⟩
      by_cases c : i < L.length
      · obtain ⟨p, hp1, hp2⟩ := hs.at (ints_get (D := L) (i := i) c)
        have hp1 := hp1 (i : Int) rfl
        rw [desc_step _ L i c] at hd
        by_cases c1 : L.getD i 0 < 1
        · simp +decide (disch := first | assumption | (apply GH.ok_push; assumption) | exact cellV_int _ _ | exact cellV_bool _ | omega) only [go_sem, ↓reduceIte, Nat.reduceEqDiff, Nat.reduceAdd, Int.reduceToNat, he, hp1, hp2]
          intro hx
          refine ⟨hlo, ?_⟩
          rw [decide_eq_false (show ¬ 1 ≤ L.getD i 0 by omega)] at hd
          rw [isShape, hd]; simp
        · by_cases c2 : prevD L i < L.getD i 0
          · simp +decide (disch := first | assumption | (apply GH.ok_push; assumption) | exact cellV_int _ _ | exact cellV_bool _ | omega) only [go_sem, ↓reduceIte, Nat.reduceEqDiff, Nat.reduceAdd, Int.reduceToNat, he, hp1, hp2]
            intro hx
            refine ⟨hlo, ?_⟩
            rw [decide_eq_false (show ¬ L.getD i 0 ≤ prevD L i by omega)] at hd
            rw [isShape, hd]; simp
          · simp +decide (disch := first | assumption | (apply GH.ok_push; assumption) | exact cellV_int _ _ | exact cellV_bool _ | omega) only [go_sem, ↓reduceIte, Nat.reduceEqDiff, Nat.reduceAdd, Int.reduceToNat, he, hp1, hp2]
            rw [decide_eq_true (show 1 ≤ L.getD i 0 by omega), decide_eq_true (show L.getD i 0 ≤ prevD L i by omega)] at hd
            exact ih (m - 1) _ _ _ (by omega) ⟨rfl, by omega, i + 1, by omega, (by simp +decide (disch := first | assumption | (apply GH.ok_push; assumption) | exact cellV_int _ _ | exact cellV_bool _ | omega) only [go_sem, ↓reduceIte, Nat.reduceEqDiff, Nat.reduceAdd, Int.reduceToNat, he, prevD_succ]; first | done | exact rfl), by rw [prevD_succ]; exact hd⟩
      · simp +decide (disch := first | assumption | (apply GH.ok_push; assumption) | exact cellV_int _ _ | exact cellV_bool _ | omega) only [go_sem, ↓reduceIte, Nat.reduceEqDiff, Nat.reduceAdd, Int.reduceToNat, he]
        refine out _ _ _ ⟨rfl, hlo, he.1, ?_⟩
        rw [hd, List.drop_eq_nil_of_le (by omega)]; rfl
theorem refIsShape_rets {X : Caller} (hX : Xok X) (L : List Int) (hL : L.length < 1000000) (s : Value) (g : GH) (hs : SlR g s (ints L)) :
    Rets Try.prog X 18 [s] g (fun v g' lo => g.next ≤ lo ∧ v = .bool (isShape L)) := by
  refine Rets.run hX.pres p18 (hX.free 18 (by decide) _ _) rfl fun ho => ?_
  have hl := hs.len
  rw [ints_len] at hl
  by_cases c0 : 12 < L.length
  · simp +decide (disch := first | assumption | (apply GH.ok_push; assumption) | exact cellV_int _ _ | exact cellV_bool _ | omega) only [go_sem, ↓reduceIte, Nat.reduceEqDiff, Nat.reduceAdd, Int.reduceToNat, hl]
    intro hx
    refine ⟨Nat.le_refl _, ?_⟩
    have : decide (L.length ≤ 12) = false := decide_eq_false (by omega)
    rw [isShape, this]; rfl
  · simp +decide (disch := first | assumption | (apply GH.ok_push; assumption) | exact cellV_int _ _ | exact cellV_bool _ | omega) only [go_sem, ↓reduceIte, Nat.reduceEqDiff, Nat.reduceAdd, Int.reduceToNat, hl]
    refine Wk.loops (fun m e g' lo => g' = g ∧ g.next ≤ lo ∧ ∃ i : Nat, i + m = L.length ∧ (ev e (.s 0) = s ∧ ev e (.s 4) = .int .i64 i ∧ ev e (.s 3) = .int .i64 (sumL (L.take i))) ∧ (0 ≤ sumL (L.take i) ∧ sumL (L.take i) ≤ 40 * (i : Int)) ∧ prevD L i ≤ 40 ∧ desc 40 L = desc (prevD L i) (L.drop i))
      (fun e g' lo => g' = g ∧ g.next ≤ lo ∧ ev e (.s 3) = .int .i64 (sumL L) ∧ desc 40 L = true) (n := L.length) ?_ ?_ ?_
    · exact ⟨rfl, Nat.le_refl _, 0, by omega, (by simp +decide (disch := first | assumption | (apply GH.ok_push; assumption) | exact cellV_int _ _ | exact cellV_bool _ | omega) only [go_sem, ↓reduceIte, Nat.reduceEqDiff, Nat.reduceAdd, Int.reduceToNat, List.take_zero, sumL]; first | done | exact rfl), by simp [sumL], Int.le_refl _, rfl⟩
    · rintro e g' lo - - ⟨rfl, hlo, he, hd⟩
      simp +decide (disch := first | assumption | (apply GH.ok_push; assumption) | exact cellV_int _ _ | exact cellV_bool _ | omega) only [go_sem, ↓reduceIte, Nat.reduceEqDiff, Nat.reduceAdd, Int.reduceToNat, he]
      intro hx0
      refine ⟨by omega, ?_⟩
      rw [isShape, hd, decide_eq_true (show L.length ≤ 12 by omega)]; rfl
    · rintro m e g' lo ho' hl' ih out ⟨rfl, hlo, i, hi, he, hsm, hpr, hd⟩
      by_cases c : i < L.length
      · obtain ⟨p, hp1, hp2⟩ := hs.at (ints_get (D := L) (i := i) c)
        have hp1 := hp1 (i : Int) rfl
        rw [desc_step _ L i c] at hd
        by_cases c1 : L.getD i 0 < 1
        · simp +decide (disch := first | assumption | (apply GH.ok_push; assumption) | exact cellV_int _ _ | exact cellV_bool _ | omega) only [go_sem, ↓reduceIte, Nat.reduceEqDiff, Nat.reduceAdd, Int.reduceToNat, he, hl, hp1, hp2]
          intro hx
          refine ⟨hlo, ?_⟩
          rw [decide_eq_false (show ¬ 1 ≤ L.getD i 0 by omega)] at hd
          rw [isShape, hd]; simp
        · by_cases c2 : 40 < L.getD i 0
          · simp +decide (disch := first | assumption | (apply GH.ok_push; assumption) | exact cellV_int _ _ | exact cellV_bool _ | omega) only [go_sem, ↓reduceIte, Nat.reduceEqDiff, Nat.reduceAdd, Int.reduceToNat, he, hl, hp1, hp2]
            intro hx
            refine ⟨hlo, ?_⟩
            rw [decide_eq_false (show ¬ L.getD i 0 ≤ prevD L i by omega)] at hd
            rw [isShape, hd]; simp
          · have fin : L.getD i 0 ≤ prevD L i → desc 40 L = desc (prevD L (i + 1)) (L.drop (i + 1)) := fun h => by
              rw [decide_eq_true (show 1 ≤ L.getD i 0 by omega), decide_eq_true h] at hd
              rw [prevD_succ]; exact hd
            have hsn := sumL_snoc L i c
            by_cases c3 : i = 0
            · simp +decide (disch := first | assumption | (apply GH.ok_push; assumption) | exact cellV_int _ _ | exact cellV_bool _ | omega) only [go_sem, ↓reduceIte, Nat.reduceEqDiff, Nat.reduceAdd, Int.reduceToNat, he, hl, hp1, hp2]
              exact ih (m - 1) _ _ _ (by omega) ⟨rfl, by omega, i + 1, by omega, (by simp +decide (disch := first | assumption | (apply GH.ok_push; assumption) | exact cellV_int _ _ | exact cellV_bool _ | omega) only [go_sem, ↓reduceIte, Nat.reduceEqDiff, Nat.reduceAdd, Int.reduceToNat, he, hsn]; first | done | exact rfl), by omega, by rw [prevD_succ]; omega, fin (by rw [prevD, if_pos c3]; omega)⟩
            · obtain ⟨j2, o2, hj2, hq1, hq2⟩ := hs.ptr (ints_get (D := L) (i := i - 1) (by omega))
              have hq1 := hq1 ((i : Int) - 1) (by omega)
              have hpv : prevD L i = L.getD (i - 1) 0 := by rw [prevD, if_neg c3]
              by_cases c4 : prevD L i < L.getD i 0
              · rw [hpv] at c4
                simp +decide (disch := first | assumption | (apply GH.ok_push; assumption) | exact cellV_int _ _ | exact cellV_bool _ | omega) only [go_sem, ↓reduceIte, Nat.reduceEqDiff, Nat.reduceAdd, Int.reduceToNat, he, hl, hp1, hp2, hq1, hq2]
                intro hx
                refine ⟨hlo, ?_⟩
                rw [decide_eq_false (show ¬ L.getD i 0 ≤ prevD L i by omega)] at hd
                rw [isShape, hd]; simp
              · have fin' := fin (by omega)
                rw [hpv] at c4
                simp +decide (disch := first | assumption | (apply GH.ok_push; assumption) | exact cellV_int _ _ | exact cellV_bool _ | omega) only [go_sem, ↓reduceIte, Nat.reduceEqDiff, Nat.reduceAdd, Int.reduceToNat, he, hl, hp1, hp2, hq1, hq2]
                exact ih (m - 1) _ _ _ (by omega) ⟨rfl, by omega, i + 1, by omega, (by simp +decide (disch := first | assumption | (apply GH.ok_push; assumption) | exact cellV_int _ _ | exact cellV_bool _ | omega) only [go_sem, ↓reduceIte, Nat.reduceEqDiff, Nat.reduceAdd, Int.reduceToNat, he, hsn]; first | done | exact rfl), by omega, by rw [prevD_succ]; omega, fin'⟩
      · simp +decide (disch := first | assumption | (apply GH.ok_push; assumption) | exact cellV_int _ _ | exact cellV_bool _ | omega) only [go_sem, ↓reduceIte, Nat.reduceEqDiff, Nat.reduceAdd, Int.reduceToNat, he, hl]
        rw [List.take_of_length_le (by omega)] at he
        refine out _ _ _ ⟨rfl, hlo, he.2.2, ?_⟩
        rw [hd, List.drop_eq_nil_of_le (by omega)]; rfl
end Go.Proofs.Ytieliilnnfjijaa
set_option maxRecDepth 100000
set_option maxHeartbeats 4000000
set_option linter.unusedSimpArgs false
set_option linter.unusedVariables false
namespace Go.Proofs.Ytieliilnnfjijaa
open Go.Ds
def fewB (L : List Int) (LL : List (List Int)) : Bool := decide (L.length ≤ 60) && decide (LL.length ≤ 20) && LL.all (fun M => decide (M.length ≤ 60))
theorem getD_cons {LL : List (List Int)} {i : Nat} (h : i < LL.length) : LL.drop i = LL.getD i [] :: LL.drop (i + 1) := by
  rw [List.drop_eq_getElem_cons h]; simp [h]
theorem few_rets {X : Caller} (hX : Xok X) (L : List Int) (LL : List (List Int)) (s t : Value) (g : GH) (hs : SlR g s (ints L)) (ht : Sl2 g t LL) :
    Rets Try.prog X 15 [s, t] g (fun v g' lo => g.next ≤ lo ∧ v = .bool (fewB L LL)) := by
  refine Rets.run hX.pres p15 (hX.free 15 (by decide) _ _) rfl fun ho => ?_
  have hl := hs.len
  rw [ints_len] at hl
  have hl2 := ht.len
  by_cases c0 : 60 < L.length
  · simp +decide (disch := first | assumption | (apply GH.ok_push; assumption) | exact cellV_int _ _ | exact cellV_bool _ | omega) only [go_sem, ↓reduceIte, Nat.reduceEqDiff, Nat.reduceAdd, Int.reduceToNat, hl, hl2]
    intro hx
    refine ⟨Nat.le_refl _, ?_⟩
    rw [fewB, decide_eq_false (show ¬ L.length ≤ 60 by omega)]; rfl
  · by_cases c1 : 20 < LL.length
    · simp +decide (disch := first | assumption | (apply GH.ok_push; assumption) | exact cellV_int _ _ | exact cellV_bool _ | omega) only [go_sem, ↓reduceIte, Nat.reduceEqDiff, Nat.reduceAdd, Int.reduceToNat, hl, hl2]
      intro hx
      refine ⟨Nat.le_refl _, ?_⟩
      rw [fewB, decide_eq_false (show ¬ LL.length ≤ 20 by omega)]; simp
    · simp +decide (disch := first | assumption | (apply GH.ok_push; assumption) | exact cellV_int _ _ | exact cellV_bool _ | omega) only [go_sem, ↓reduceIte, Nat.reduceEqDiff, Nat.reduceAdd, Int.reduceToNat, hl, hl2]
      refine Wk.loops (fun m e g' lo => g' = g ∧ g.next ≤ lo ∧ ∃ i : Nat, i + m = LL.length ∧ (ev e (.s 1) = t ∧ ev e (.s 5) = .int .i64 i) ∧ fewB L LL = (LL.drop i).all (fun M => decide (M.length ≤ 60)))
        (fun e g' lo => g' = g ∧ g.next ≤ lo ∧ fewB L LL = true) (n := LL.length) ?_ ?_ ?_
      · refine ⟨rfl, Nat.le_refl _, 0, by omega, (by simp +decide (disch := first | assumption | (apply GH.ok_push; assumption) | exact cellV_int _ _ | exact cellV_bool _ | omega) only [go_sem, ↓reduceIte, Nat.reduceEqDiff, Nat.reduceAdd, Int.reduceToNat]; first | done | exact rfl), ?_⟩
        rw [fewB, decide_eq_true (show L.length ≤ 60 by omega), decide_eq_true (show LL.length ≤ 20 by omega)]; rfl
      · rintro e g' lo - - ⟨rfl, hlo, hf⟩
        simp +decide (disch := first | assumption | (apply GH.ok_push; assumption) | exact cellV_int _ _ | exact cellV_bool _ | omega) only [go_sem, ↓reduceIte, Nat.reduceEqDiff, Nat.reduceAdd, Int.reduceToNat]
        intro hx
        exact ⟨hlo, by rw [hf]⟩
      · rintro m e g' lo ho' hl' ih out ⟨rfl, hlo, i, hi, he, hf⟩
        by_cases c : i < LL.length
        · obtain ⟨u, j1, o1, hj1, hp1, hp2, hu⟩ := ht.ptr c
          have hp1 := hp1 (i : Int) rfl
          have hlu := hu.len
          rw [ints_len] at hlu
          rw [getD_cons c, List.all_cons] at hf
          by_cases d : 60 < (LL.getD i []).length
          · simp +decide (disch := first | assumption | (apply GH.ok_push; assumption) | exact cellV_int _ _ | exact cellV_bool _ | omega) only [go_sem, ↓reduceIte, Nat.reduceEqDiff, Nat.reduceAdd, Int.reduceToNat, he, hl2, hp1, hp2, hlu]
            intro hx
            refine ⟨hlo, ?_⟩
            rw [hf, decide_eq_false (show ¬ (LL.getD i []).length ≤ 60 by omega)]; rfl
          · simp +decide (disch := first | assumption | (apply GH.ok_push; assumption) | exact cellV_int _ _ | exact cellV_bool _ | omega) only [go_sem, ↓reduceIte, Nat.reduceEqDiff, Nat.reduceAdd, Int.reduceToNat, he, hl2, hp1, hp2, hlu]
            rw [decide_eq_true (show (LL.getD i []).length ≤ 60 by omega)] at hf
            exact ih (m - 1) _ _ _ (by omega) ⟨rfl, hlo, i + 1, by omega, (by simp +decide (disch := first | assumption | (apply GH.ok_push; assumption) | exact cellV_int _ _ | exact cellV_bool _ | omega) only [go_sem, ↓reduceIte, Nat.reduceEqDiff, Nat.reduceAdd, Int.reduceToNat, he]; first | done | exact rfl), hf⟩
        · simp +decide (disch := first | assumption | (apply GH.ok_push; assumption) | exact cellV_int _ _ | exact cellV_bool _ | omega) only [go_sem, ↓reduceIte, Nat.reduceEqDiff, Nat.reduceAdd, Int.reduceToNat, he, hl2]
          refine out _ _ _ ⟨rfl, hlo, ?_⟩
          rw [hf, List.drop_eq_nil_of_le (by omega)]; rfl

/-! ## Rows that a function gives -/
def rng (n : Nat) (f : Nat → Int) : List Int := (List.range n).map f
theorem rng_len (n : Nat) (f : Nat → Int) : (rng n f).length = n := by simp [rng]
theorem rng_get {n i : Nat} (f : Nat → Int) (h : i < n) : (rng n f).getD i 0 = f i := by simp [rng, h]
theorem rng_succ (n : Nat) (f : Nat → Int) : rng (n + 1) f = rng n f ++ [f n] := by simp [rng, List.range_succ]
theorem rng_congr {n : Nat} {f h : Nat → Int} (k : ∀ i, i < n → f i = h i) : rng n f = rng n h := by
  unfold rng
  apply List.map_congr_left
  intro i hi
  exact k i (List.mem_range.1 hi)
theorem rng_set {n : Nat} (f : Nat → Int) (c : Nat) (x : Int) : (rng n f).set c x = rng n (fun k => if k = c then x else f k) := by
  apply List.ext_getElem
  · simp [rng]
  · intro i h1 h2
    simp only [rng, List.length_map, List.length_range, List.length_set] at h1 h2
    simp only [rng, List.getElem_set, List.getElem_map, List.getElem_range]
    by_cases q : c = i
    · subst q; simp
    · rw [if_neg q, if_neg (Ne.symm q)]
theorem list_rng (L : List Int) : L = rng L.length (fun i => L.getD i 0) := by
  apply List.ext_getElem
  · simp [rng]
  · intro i h1 h2; simp [rng, h1]
theorem repeat_rng (n : Nat) : repeatN [.int .i64 0] n = ints (rng n fun _ => 0) := by
  rw [repeatN_replicate]
  simp only [ints, rng, List.map_map]
  apply List.ext_getElem <;> simp

/-! ## Columns -/
def cnt : List Int → Int → Int
  | [], _ => 0
  | x :: l, c => (if c < x then 1 else 0) + cnt l c
theorem cnt_app (A B : List Int) (c : Int) : cnt (A ++ B) c = cnt A c + cnt B c := by
  induction A with
  | nil => simp [cnt]
  | cons x A ih => simp only [List.cons_append, cnt, ih]; omega
theorem cnt_snoc (L : List Int) (i : Nat) (h : i < L.length) (c : Int) : cnt (L.take (i + 1)) c = cnt (L.take i) c + if c < L.getD i 0 then 1 else 0 := by
  rw [take_snoc L i h, cnt_app]; simp [cnt]
theorem cnt_bnd (L : List Int) (c : Int) : 0 ≤ cnt L c ∧ cnt L c ≤ L.length := by
  induction L with
  | nil => simp [cnt]
  | cons x L ih => simp only [cnt, List.length_cons]; split <;> omega
theorem cnt_take (L : List Int) (i : Nat) (c : Int) : 0 ≤ cnt (L.take i) c ∧ cnt (L.take i) c ≤ L.length := by
  have := cnt_bnd (L.take i) c
  have h : (L.take i).length ≤ L.length := by simp; omega
  omega
def head (L : List Int) : Nat := (L.getD 0 0).toNat
def colsL (L : List Int) : List Int := rng (head L) (fun c => cnt L c)
theorem desc_getD {m : Int} {L : List Int} (h : desc m L = true) {i : Nat} (hi : i < L.length) : 1 ≤ L.getD i 0 ∧ L.getD i 0 ≤ m := desc_le h _ (mem_getD hi)
theorem desc_head {L : List Int} (h : desc 40 L = true) {i : Nat} (hi : i < L.length) : L.getD i 0 ≤ (head L : Int) := by
  cases L with
  | nil => simp at hi
  | cons x L =>
    have h0 := h
    simp only [desc, Bool.and_eq_true, decide_eq_true_eq] at h
    have hh : (head (x :: L) : Int) = x := by simp [head]; omega
    rw [hh]
    cases i with
    | zero => simp
    | succ i =>
      have := desc_getD h.2 (i := i) (by simpa using hi)
      simpa using this.2
theorem head_le {L : List Int} (h : desc 40 L = true) : head L ≤ 40 := by
  cases L with
  | nil => simp [head]
  | cons x L =>
    have := desc_getD h (i := 0) (by simp)
    simp [head] at *; omega
theorem head_pos {L : List Int} (h : desc 40 L = true) (hl : 0 < L.length) : L.getD 0 0 = (head L : Int) ∧ 1 ≤ head L := by
  have := desc_getD h hl
  simp only [head]
  omega

/-- The reference's columns. -/
theorem refColumns_rets {X : Caller} (hX : Xok X) (L : List Int) (hL : L.length ≤ 1000) (hd : desc 40 L = true) (s : Value) (g : GH) (hs : SlR g s (ints L)) :
    Rets Try.prog X 44 [s] g (fun v g' lo => g.next ≤ lo ∧ SlR g' v (ints (colsL L))) := by
  refine Rets.run hX.pres p44 (hX.free 44 (by decide) _ _) rfl fun ho => ?_
  have hl := hs.len
  rw [ints_len] at hl
  have hh := head_le hd
  simp +decide (disch := first | assumption | (apply GH.ok_push; assumption) | exact cellV_int _ _ | exact cellV_bool _ | omega) only [go_sem, ↓reduceIte, Nat.reduceEqDiff, Nat.reduceAdd, Int.reduceToNat, hl]
  refine Wk.loops (fun m e g' lo => g.next ≤ lo ∧ Kept g g' ∧ ∃ c : Nat, c + m = head L ∧ (ev e (.s 0) = s ∧ ev e (.s 4) = .int .i64 c) ∧ ∃ o, ev e (.s 3) = o ∧ Own g' o (ints (rng c (fun c => cnt L c))) 3 g.next)
    (fun e g' lo => g.next ≤ lo ∧ ∃ o, ev e (.s 3) = o ∧ Own g' o (ints (colsL L)) 3 g.next) (n := head L) ?_ ?_ ?_
  · exact ⟨Nat.le_refl _, Kept.refl _, 0, by omega, (by simp +decide (disch := first | assumption | (apply GH.ok_push; assumption) | exact cellV_int _ _ | exact cellV_bool _ | omega) only [go_sem, ↓reduceIte, Nat.reduceEqDiff, Nat.reduceAdd, Int.reduceToNat]; first | done | exact rfl), .slice none 0 0, (by simp +decide (disch := first | assumption | (apply GH.ok_push; assumption) | exact cellV_int _ _ | exact cellV_bool _ | omega) only [go_sem, ↓reduceIte, Nat.reduceEqDiff, Nat.reduceAdd, Int.reduceToNat]; first | done | exact rfl), Own.nil⟩
  · rintro e g' lo - - ⟨hlo, o, h3, hown⟩
    simp +decide (disch := first | assumption | (apply GH.ok_push; assumption) | exact cellV_int _ _ | exact cellV_bool _ | omega) only [go_sem, ↓reduceIte, Nat.reduceEqDiff, Nat.reduceAdd, Int.reduceToNat, h3]
    exact fun hx => ⟨hlo, hown.read⟩
  · rintro m e g' lo ho' hl' ih out ⟨hlo, hk, c, hc, he, o, h3, hown⟩
    have hs' := hs.kept hk
    by_cases c0 : 0 < L.length
    · obtain ⟨hp0, hp00⟩ := head_pos hd c0
      obtain ⟨p, hp1, hp2⟩ := hs'.at (ints_get (D := L) (i := 0) c0)
      have hp1 := hp1 0 rfl
      rw [hp0] at hp2
      by_cases c1 : c < head L
      · simp +decide (disch := first | assumption | (apply GH.ok_push; assumption) | exact cellV_int _ _ | exact cellV_bool _ | omega) only [go_sem, ↓reduceIte, Nat.reduceEqDiff, Nat.reduceAdd, Int.reduceToNat, he, hl, hp1, hp2]
        refine Wk.loops (fun m e g2 lo2 => g2 = g' ∧ g.next ≤ lo2 ∧ ∃ i : Nat, i + m = L.length ∧ (ev e (.s 0) = s ∧ ev e (.s 4) = .int .i64 c ∧ ev e (.s 3) = o ∧ ev e (.s 6) = .int .i64 i ∧ ev e (.s 5) = .int .i64 (cnt (L.take i) c)))
          (fun e g2 lo2 => g2 = g' ∧ g.next ≤ lo2 ∧ (ev e (.s 0) = s ∧ ev e (.s 4) = .int .i64 c ∧ ev e (.s 3) = o ∧ ev e (.s 5) = .int .i64 (cnt L c))) (n := L.length) ?_ ?_ ?_
        · exact ⟨rfl, hlo, 0, by omega, (by simp +decide (disch := first | assumption | (apply GH.ok_push; assumption) | exact cellV_int _ _ | exact cellV_bool _ | omega) only [go_sem, ↓reduceIte, Nat.reduceEqDiff, Nat.reduceAdd, Int.reduceToNat, he, h3, List.take_zero, cnt]; first | done | exact rfl)⟩
        · rintro e g2 lo2 - - ⟨rfl, hlo2, he⟩
          simp +decide (disch := first | assumption | (apply GH.ok_push; assumption) | exact cellV_int _ _ | exact cellV_bool _ | omega) only [go_sem, ↓reduceIte, Nat.reduceEqDiff, Nat.reduceAdd, Int.reduceToNat, he]
          refine AppD.own (hown.push ho' _) (SlR.one ho' _ _) (by simp) rfl (by simp [ints_len, rng_len]; omega) (by have := hk.next; simp [GH.push]; omega) hlo2 (GH.ok_push ho') (fun s' g2 lo2 sp wr hgr => ?_)
          simp +decide (disch := first | assumption | (apply GH.ok_push; assumption) | exact cellV_int _ _ | exact cellV_bool _ | omega) only [go_sem, ↓reduceIte, Nat.reduceEqDiff, Nat.reduceAdd, Int.reduceToNat, he]
          refine ih (m - 1) _ _ _ (by omega) ⟨hgr.low, (hk.push ho' _).grew hgr (Nat.le_refl _), c + 1, by omega, (by simp +decide (disch := first | assumption | (apply GH.ok_push; assumption) | exact cellV_int _ _ | exact cellV_bool _ | omega) only [go_sem, ↓reduceIte, Nat.reduceEqDiff, Nat.reduceAdd, Int.reduceToNat, he]; first | done | exact rfl), s', (by simp +decide (disch := first | assumption | (apply GH.ok_push; assumption) | exact cellV_int _ _ | exact cellV_bool _ | omega) only [go_sem, ↓reduceIte, Nat.reduceEqDiff, Nat.reduceAdd, Int.reduceToNat]; first | done | exact rfl), ?_⟩
          rw [rng_succ, ints_app]
          exact hgr.own
        · rintro m2 e g2 lo2 ho2 hl2 ih2 out2 ⟨rfl, hlo2, i, hi, he⟩
          by_cases ci : i < L.length
          · obtain ⟨q, hq1, hq2⟩ := hs'.at (ints_get (D := L) (i := i) ci)
            have hq1 := hq1 (i : Int) rfl
            have hcs := cnt_snoc L i ci c
            have hcb := cnt_take L i c
            by_cases c2 : (c : Int) < L.getD i 0
            · rw [if_pos c2] at hcs
              simp +decide (disch := first | assumption | (apply GH.ok_push; assumption) | exact cellV_int _ _ | exact cellV_bool _ | omega) only [go_sem, ↓reduceIte, Nat.reduceEqDiff, Nat.reduceAdd, Int.reduceToNat, he, hl, hq1, hq2]
              exact ih2 (m2 - 1) _ _ _ (by omega) ⟨rfl, hlo2, i + 1, by omega, (by simp +decide (disch := first | assumption | (apply GH.ok_push; assumption) | exact cellV_int _ _ | exact cellV_bool _ | omega) only [go_sem, ↓reduceIte, Nat.reduceEqDiff, Nat.reduceAdd, Int.reduceToNat, he, hcs]; first | done | exact rfl)⟩
            · rw [if_neg c2, Int.add_zero] at hcs
              simp +decide (disch := first | assumption | (apply GH.ok_push; assumption) | exact cellV_int _ _ | exact cellV_bool _ | omega) only [go_sem, ↓reduceIte, Nat.reduceEqDiff, Nat.reduceAdd, Int.reduceToNat, he, hl, hq1, hq2]
              exact ih2 (m2 - 1) _ _ _ (by omega) ⟨rfl, hlo2, i + 1, by omega, (by simp +decide (disch := first | assumption | (apply GH.ok_push; assumption) | exact cellV_int _ _ | exact cellV_bool _ | omega) only [go_sem, ↓reduceIte, Nat.reduceEqDiff, Nat.reduceAdd, Int.reduceToNat, he, hcs]; first | done | exact rfl)⟩
          · simp +decide (disch := first | assumption | (apply GH.ok_push; assumption) | exact cellV_int _ _ | exact cellV_bool _ | omega) only [go_sem, ↓reduceIte, Nat.reduceEqDiff, Nat.reduceAdd, Int.reduceToNat, he, hl]
            exact out2 _ _ _ ⟨rfl, hlo2, (by simp +decide (disch := first | assumption | (apply GH.ok_push; assumption) | exact cellV_int _ _ | exact cellV_bool _ | omega) only [go_sem, ↓reduceIte, Nat.reduceEqDiff, Nat.reduceAdd, Int.reduceToNat, he, List.take_of_length_le (show L.length ≤ i by omega)]; first | done | exact rfl)⟩
      · simp +decide (disch := first | assumption | (apply GH.ok_push; assumption) | exact cellV_int _ _ | exact cellV_bool _ | omega) only [go_sem, ↓reduceIte, Nat.reduceEqDiff, Nat.reduceAdd, Int.reduceToNat, he, hl, hp1, hp2]
        refine out _ _ _ ⟨hlo, o, (by simp +decide (disch := first | assumption | (apply GH.ok_push; assumption) | exact cellV_int _ _ | exact cellV_bool _ | omega) only [go_sem, ↓reduceIte, Nat.reduceEqDiff, Nat.reduceAdd, Int.reduceToNat, h3]; first | done | exact rfl), ?_⟩
        rw [show c = head L by omega] at hown
        exact hown
    · have hnil : L = [] := List.eq_nil_of_length_eq_zero (by omega)
      simp +decide (disch := first | assumption | (apply GH.ok_push; assumption) | exact cellV_int _ _ | exact cellV_bool _ | omega) only [go_sem, ↓reduceIte, Nat.reduceEqDiff, Nat.reduceAdd, Int.reduceToNat, he, hl]
      refine out _ _ _ ⟨hlo, o, (by simp +decide (disch := first | assumption | (apply GH.ok_push; assumption) | exact cellV_int _ _ | exact cellV_bool _ | omega) only [go_sem, ↓reduceIte, Nat.reduceEqDiff, Nat.reduceAdd, Int.reduceToNat, h3]; first | done | exact rfl), ?_⟩
      have h0 : head L = 0 := by rw [hnil]; rfl
      rw [show c = head L by omega] at hown
      exact hown
/-- The program's columns. -/
theorem columns_rets {X : Caller} (hX : Xok X) (L : List Int) (hL : L.length ≤ 1000) (hd : desc 40 L = true) (s : Value) (g : GH) (hs : SlR g s (ints L)) :
    Rets Try.prog X 50 [s] g (fun v g' lo => g.next ≤ lo ∧ SlR g' v (ints (colsL L))) := by
  refine Rets.run hX.pres p50 (hX.free 50 (by decide) _ _) rfl fun ho => ?_
  have hl := hs.len
  rw [ints_len] at hl
  have hh := head_le hd
  by_cases c0 : 0 < L.length
  · obtain ⟨hp0, hp00⟩ := head_pos hd c0
    obtain ⟨p, hp1, hp2⟩ := hs.at (ints_get (D := L) (i := 0) c0)
    have hp1 := hp1 0 rfl
    rw [hp0] at hp2
    simp +decide (disch := first | assumption | (apply GH.ok_push; assumption) | exact cellV_int _ _ | exact cellV_bool _ | omega) only [go_sem, ↓reduceIte, Nat.reduceEqDiff, Nat.reduceAdd, Int.reduceToNat, hl, hp1, hp2]
    refine Wk.mkslice (n := head L) (c := head L) (by simp +decide (disch := first | assumption | (apply GH.ok_push; assumption) | exact cellV_int _ _ | exact cellV_bool _ | omega) only [go_sem, ↓reduceIte, Nat.reduceEqDiff, Nat.reduceAdd, Int.reduceToNat]; first | done | exact rfl) (by simp +decide (disch := first | assumption | (apply GH.ok_push; assumption) | exact cellV_int _ _ | exact cellV_bool _ | omega) only [go_sem, ↓reduceIte, Nat.reduceEqDiff, Nat.reduceAdd, Int.reduceToNat]; first | done | exact rfl) (Nat.le_refl _) (by omega) ?_
    simp +decide (disch := first | assumption | (apply GH.ok_push; assumption) | exact cellV_int _ _ | exact cellV_bool _ | omega) only [go_sem, ↓reduceIte, Nat.reduceEqDiff, Nat.reduceAdd, Int.reduceToNat, hl]
    refine Wk.loops (fun m e g' lo => g.next ≤ lo ∧ Kept g g' ∧ g.next < g'.next ∧ ∃ i : Nat, i + m = L.length ∧ (ev e (.s 14) = s ∧ ev e (.s 15) = .int .i64 L.length ∧ ev e (.s 16) = .int .i64 i ∧ ev e (.s 3) = .slice (some ⟨g.next, 0, none⟩) (head L) (head L)) ∧ g'.get g.next = cellsOb (ints (rng (head L) (fun c => cnt (L.take i) c))) 3)
      (fun e g' lo => g.next ≤ lo ∧ g.next < g'.next ∧ ev e (.s 3) = .slice (some ⟨g.next, 0, none⟩) (head L) (head L) ∧ g'.get g.next = cellsOb (ints (colsL L)) 3) (n := L.length) ?_ ?_ ?_
    · refine ⟨Nat.le_refl _, (Kept.refl g).push ho _, Nat.lt_succ_self _, 0, by omega, (by simp +decide (disch := first | assumption | (apply GH.ok_push; assumption) | exact cellV_int _ _ | exact cellV_bool _ | omega) only [go_sem, ↓reduceIte, Nat.reduceEqDiff, Nat.reduceAdd, Int.reduceToNat, hl]; first | done | exact rfl), ?_⟩
      rw [GH.get_push ho, if_pos rfl, repeat_rng]
      rfl
    · rintro e g' lo - - ⟨hlo, hn, he, hget⟩
      simp +decide (disch := first | assumption | (apply GH.ok_push; assumption) | exact cellV_int _ _ | exact cellV_bool _ | omega) only [go_sem, ↓reduceIte, Nat.reduceEqDiff, Nat.reduceAdd, Int.reduceToNat, he]
      exact fun hx => ⟨hlo, SlR.whole hget hn (by rw [ints_len, colsL, rng_len])⟩
    · rintro m e g' lo ho' hl' ih out ⟨hlo, hk, hn, i, hi, he, hget⟩
      by_cases ci : i < L.length
      · obtain ⟨q, hq1, hq2⟩ := (hs.kept hk).at (ints_get (D := L) (i := i) ci)
        have hq1 := hq1 (i : Int) rfl
        have hrow := desc_getD hd ci
        have hrh := desc_head hd ci
        simp +decide (disch := first | assumption | (apply GH.ok_push; assumption) | exact cellV_int _ _ | exact cellV_bool _ | omega) only [go_sem, ↓reduceIte, Nat.reduceEqDiff, Nat.reduceAdd, Int.reduceToNat, he, hq1, hq2]
        refine Wk.loops (fun m e g2 lo2 => g.next ≤ lo2 ∧ Kept g g2 ∧ g.next < g2.next ∧ ∃ c : Nat, (c : Int) + m = L.getD i 0 ∧ (ev e (.s 14) = s ∧ ev e (.s 15) = .int .i64 L.length ∧ ev e (.s 16) = .int .i64 i ∧ ev e (.s 3) = .slice (some ⟨g.next, 0, none⟩) (head L) (head L) ∧ ev e (.s 20) = .int .i64 (L.getD i 0) ∧ ev e (.s 21) = .int .i64 c) ∧ g2.get g.next = cellsOb (ints (rng (head L) (fun k => cnt (L.take i) k + if k < c then 1 else 0))) 3)
          (fun e g2 lo2 => g.next ≤ lo2 ∧ Kept g g2 ∧ g.next < g2.next ∧ (ev e (.s 14) = s ∧ ev e (.s 15) = .int .i64 L.length ∧ ev e (.s 16) = .int .i64 i ∧ ev e (.s 3) = .slice (some ⟨g.next, 0, none⟩) (head L) (head L)) ∧ g2.get g.next = cellsOb (ints (rng (head L) (fun c => cnt (L.take (i + 1)) c))) 3) (n := (L.getD i 0).toNat) ?_ ?_ ?_
        · refine ⟨hlo, hk, hn, 0, by omega, (by simp +decide (disch := first | assumption | (apply GH.ok_push; assumption) | exact cellV_int _ _ | exact cellV_bool _ | omega) only [go_sem, ↓reduceIte, Nat.reduceEqDiff, Nat.reduceAdd, Int.reduceToNat, he]; first | done | exact rfl), ?_⟩
          rw [hget]
          congr 2
          exact rng_congr fun k hk => by simp
        · rintro e g2 lo2 - - ⟨hlo2, hk2, hn2, he, hget2⟩
          simp +decide (disch := first | assumption | (apply GH.ok_push; assumption) | exact cellV_int _ _ | exact cellV_bool _ | omega) only [go_sem, ↓reduceIte, Nat.reduceEqDiff, Nat.reduceAdd, Int.reduceToNat, he]
          exact ih (m - 1) _ _ _ (by omega) ⟨hlo2, hk2, hn2, i + 1, by omega, (by simp +decide (disch := first | assumption | (apply GH.ok_push; assumption) | exact cellV_int _ _ | exact cellV_bool _ | omega) only [go_sem, ↓reduceIte, Nat.reduceEqDiff, Nat.reduceAdd, Int.reduceToNat, he]; first | done | exact rfl), hget2⟩
        · rintro m2 e g2 lo2 ho2 hl2 ih2 out2 ⟨hlo2, hk2, hn2, c, hc, he, hget2⟩
          by_cases c1 : (c : Int) < L.getD i 0
          · have hcl : c < head L := by omega
            have hia := iaddrS_at (j := g.next) (n := head L) (c := head L) (m := c) (x := (c : Int)) rfl hcl
            have hgc : (ints (rng (head L) (fun k => cnt (L.take i) k + if k < c then 1 else 0)))[c]? = some (.int .i64 (cnt (L.take i) c)) := by
              rw [ints_get (by rw [rng_len]; exact hcl), rng_get _ hcl]; simp
            have hcb := cnt_take L i c
            have hlen : (ints (rng (head L) (fun k => cnt (L.take i) k + if k < c then 1 else 0))).length = head L := by rw [ints_len, rng_len]
            simp +decide (disch := first | assumption | (apply GH.ok_push; assumption) | exact cellV_int _ _ | exact cellV_bool _ | omega) only [go_sem, ↓reduceIte, Nat.reduceEqDiff, Nat.reduceAdd, Int.reduceToNat, he, hia, hget2, hgc, hlen]
            have hw := Wrote.set (o := cellsOb (splice c (ints (rng (head L) (fun k => cnt (L.take i) k + if k < c then 1 else 0))) [.int .i64 (cnt (L.take i) c + 1)]) 3) hget2 Nat.one_ne_zero ho2
            refine ih2 (m2 - 1) _ _ _ (by omega) ⟨by omega, hw.kept hk2 (Nat.le_refl _), hn2, c + 1, by omega, (by simp +decide (disch := first | assumption | (apply GH.ok_push; assumption) | exact cellV_int _ _ | exact cellV_bool _ | omega) only [go_sem, ↓reduceIte, Nat.reduceEqDiff, Nat.reduceAdd, Int.reduceToNat, he]; first | done | exact rfl), ?_⟩
            rw [hw.get, splice_set _ _ _ (by rw [hlen]; exact hcl), ints_set, rng_set]
            congr 2
            refine rng_congr fun k hk => ?_
            by_cases hkc : k = c
            · subst hkc; simp
            · rw [if_neg hkc]
              by_cases hkl : k < c
              · rw [if_pos hkl, if_pos (by omega)]
              · rw [if_neg hkl, if_neg (by omega)]
          · simp +decide (disch := first | assumption | (apply GH.ok_push; assumption) | exact cellV_int _ _ | exact cellV_bool _ | omega) only [go_sem, ↓reduceIte, Nat.reduceEqDiff, Nat.reduceAdd, Int.reduceToNat, he]
            refine out2 _ _ _ ⟨hlo2, hk2, hn2, (by simp +decide (disch := first | assumption | (apply GH.ok_push; assumption) | exact cellV_int _ _ | exact cellV_bool _ | omega) only [go_sem, ↓reduceIte, Nat.reduceEqDiff, Nat.reduceAdd, Int.reduceToNat, he]; first | done | exact rfl), ?_⟩
            rw [hget2]
            congr 2
            refine rng_congr fun k hk => ?_
            rw [cnt_snoc L i ci]
            by_cases hkl : k < c
            · rw [if_pos hkl, if_pos (by omega)]
            · rw [if_neg hkl, if_neg (by omega)]
      · simp +decide (disch := first | assumption | (apply GH.ok_push; assumption) | exact cellV_int _ _ | exact cellV_bool _ | omega) only [go_sem, ↓reduceIte, Nat.reduceEqDiff, Nat.reduceAdd, Int.reduceToNat, he]
        refine out _ _ _ ⟨hlo, hn, (by simp +decide (disch := first | assumption | (apply GH.ok_push; assumption) | exact cellV_int _ _ | exact cellV_bool _ | omega) only [go_sem, ↓reduceIte, Nat.reduceEqDiff, Nat.reduceAdd, Int.reduceToNat, he]; first | done | exact rfl), ?_⟩
        rw [hget, List.take_of_length_le (by omega)]; rfl
  · have hnil : L = [] := List.eq_nil_of_length_eq_zero (by omega)
    have h0 : (L.length : Int) = 0 := by omega
    simp +decide (disch := first | assumption | (apply GH.ok_push; assumption) | exact cellV_int _ _ | exact cellV_bool _ | omega) only [go_sem, ↓reduceIte, Nat.reduceEqDiff, Nat.reduceAdd, Int.reduceToNat, hl]
    intro hx
    refine ⟨Nat.le_refl _, ?_⟩
    rw [hnil]
    exact SlR.nil
end Go.Proofs.Ytieliilnnfjijaa
