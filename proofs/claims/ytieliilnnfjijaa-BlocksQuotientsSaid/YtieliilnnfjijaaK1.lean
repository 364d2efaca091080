import Derived.Test.YtieliilnnfjijaaDtN
import Derived.Test.YtieliilnnfjijaaDtO
import Derived.Test.YtieliilnnfjijaaKc
set_option linter.all false
set_option linter.unusedSimpArgs false
set_option linter.unnecessarySimpa false
set_option linter.unusedVariables false
set_option linter.unusedSectionVars false
set_option maxRecDepth 100000
set_option maxHeartbeats 4000000
set_option linter.unusedSimpArgs false
set_option linter.unusedVariables false
namespace Go.Proofs.Ytieliilnnfjijaa
open Go.Ds
def ints (D : List Int) : List Value := D.map (Value.int .i64)
theorem ints_get {D : List Int} {i : Nat} (h : i < D.length) : (ints D)[i]? = some (.int .i64 (D.getD i 0)) := by
  simp [ints, h]
theorem ints_len (D : List Int) : (ints D).length = D.length := by simp [ints]
theorem ints_app (D E : List Int) : ints (D ++ E) = ints D ++ ints E := by simp [ints]
theorem ints_cell (D : List Int) : (ints D).all cellV = true := by simp [ints, cellV]
theorem ints_set (O : List Int) (n : Nat) (x : Int) : (ints O).set n (.int .i64 x) = ints (O.set n x) := by simp [ints, List.map_set]
/-- The greatest first. -/
def sortD (B : List Int) : List Int := B.mergeSort (fun a b => decide (b ≤ a))
structure Xok (X : Caller) : Prop where
  pres : ∀ i, @CallPres i X
  free : ∀ f, (f ≠ 16 ∧ f ≠ 78) → ∀ l h, X f l h = none
  alive : ∀ g : GH, Rets Try.prog X 16 [] g (fun v g' lo => g.next ≤ lo ∧ v = .bool true)
  sort : ∀ args h, X 78 args h = sortX 78 79 sortD 78 args h
theorem take_snoc (D : List Int) (i : Nat) (h : i < D.length) : D.take (i + 1) = D.take i ++ [D.getD i 0] := by
  rw [List.take_add_one]; simp [h]
theorem take_snoc' {α : Type} (D : List α) (i : Nat) (x : α) (h : D[i]? = some x) : D.take (i + 1) = D.take i ++ [x] := by
  rw [List.take_add_one]; simp [h]
/-- Two slices of integers are the same. -/
theorem same_rets {X : Caller} (hX : Xok X) (A B : List Int) (hA : A.length < 1000000) (hB : B.length < 1000000) (s t : Value) (g : GH) (hs : SlR g s (ints A)) (ht : SlR g t (ints B)) :
    Rets Try.prog X 24 [s, t] g (fun v g' lo => g.next ≤ lo ∧ v = .bool (decide (A = B))) := by
  refine Rets.run hX.pres p24 (hX.free 24 (by decide) _ _) rfl fun ho => ?_
  have hls := hs.len
  have hlt := ht.len
  rw [ints_len] at hls hlt
  by_cases c : A.length = B.length
  · simp +decide (disch := first | assumption | (apply GH.ok_push; assumption) | exact cellV_int _ _ | exact cellV_bool _ | omega) only [go_sem, ↓reduceIte, Nat.reduceEqDiff, Nat.reduceAdd, Int.reduceToNat, hls, hlt]
    refine Wk.loops (fun m e g' lo => g' = g ∧ g.next ≤ lo ∧ ∃ i : Nat, i + m = A.length ∧ (ev e (.s 0) = s ∧ ev e (.s 1) = t ∧ ev e (.s 5) = .int .i64 i) ∧ A.take i = B.take i)
      (fun e g' lo => g' = g ∧ g.next ≤ lo ∧ A = B) (n := A.length) ?_ ?_ ?_
    · exact ⟨rfl, Nat.le_refl _, 0, by omega, (by simp +decide (disch := first | assumption | (apply GH.ok_push; assumption) | exact cellV_int _ _ | exact cellV_bool _ | omega) only [go_sem, ↓reduceIte, Nat.reduceEqDiff, Nat.reduceAdd, Int.reduceToNat]; first | done | exact rfl), rfl⟩
    · rintro e g' lo - - ⟨rfl, hlo, h⟩
      simp +decide (disch := first | assumption | (apply GH.ok_push; assumption) | exact cellV_int _ _ | exact cellV_bool _ | omega) only [go_sem, ↓reduceIte, Nat.reduceEqDiff, Nat.reduceAdd, Int.reduceToNat]
      intro hx
      exact ⟨hlo, by simp [h]⟩
    · rintro m e g' lo ho' hl' ih out ⟨rfl, hlo, i, hi, he, hp⟩
      by_cases c2 : i < A.length
      · obtain ⟨j1, o1, hj1, hp1, hp2⟩ := hs.ptr (ints_get (D := A) (i := i) c2)
        obtain ⟨j2, o2, hj2, hq1, hq2⟩ := ht.ptr (ints_get (D := B) (i := i) (by omega))
        have hp1 := hp1 (i : Int) rfl
        have hq1 := hq1 (i : Int) rfl
        by_cases d : A.getD i 0 = B.getD i 0
        · simp +decide (disch := first | assumption | (apply GH.ok_push; assumption) | exact cellV_int _ _ | exact cellV_bool _ | omega) only [go_sem, ↓reduceIte, Nat.reduceEqDiff, Nat.reduceAdd, Int.reduceToNat, he, hls, hp1, hp2, hq1, hq2, d]
          refine ih (m - 1) _ _ _ (by omega) ⟨rfl, hlo, i + 1, by omega, (by simp +decide (disch := first | assumption | (apply GH.ok_push; assumption) | exact cellV_int _ _ | exact cellV_bool _ | omega) only [go_sem, ↓reduceIte, Nat.reduceEqDiff, Nat.reduceAdd, Int.reduceToNat, he]; first | done | exact rfl), ?_⟩
          rw [take_snoc A i c2, take_snoc B i (by omega), hp, d]
        · simp +decide (disch := first | assumption | (apply GH.ok_push; assumption) | exact cellV_int _ _ | exact cellV_bool _ | omega) only [go_sem, ↓reduceIte, Nat.reduceEqDiff, Nat.reduceAdd, Int.reduceToNat, he, hls, hp1, hp2, hq1, hq2]
          intro hx
          refine ⟨hlo, ?_⟩
          rw [decide_eq_false fun h => d (by rw [h])]
      · simp +decide (disch := first | assumption | (apply GH.ok_push; assumption) | exact cellV_int _ _ | exact cellV_bool _ | omega) only [go_sem, ↓reduceIte, Nat.reduceEqDiff, Nat.reduceAdd, Int.reduceToNat, he, hls]
        refine out _ _ _ ⟨rfl, hlo, ?_⟩
        rw [List.take_of_length_le (by omega), List.take_of_length_le (by omega)] at hp
        exact hp
  · simp +decide (disch := first | assumption | (apply GH.ok_push; assumption) | exact cellV_int _ _ | exact cellV_bool _ | omega) only [go_sem, ↓reduceIte, Nat.reduceEqDiff, Nat.reduceAdd, Int.reduceToNat, hls, hlt]
    intro hx
    exact ⟨Nat.le_refl _, by rw [decide_eq_false fun h => c (by rw [h])]⟩

/-! ## Lists of lists -/
def Sl2 (g : GH) (s : Value) (LL : List (List Int)) : Prop := ∃ vs : List Value, SlR g s vs ∧ vs.length = LL.length ∧ ∀ (i : Nat) v L, vs[i]? = some v → LL[i]? = some L → SlR g v (ints L)
theorem Sl2.nil {g : GH} : Sl2 g (.slice none 0 0) [] := ⟨[], SlR.nil, rfl, fun i v L h => by simp at h⟩
theorem Sl2.kept {g g' : GH} {s : Value} {LL : List (List Int)} (h : Sl2 g s LL) (k : Kept g g') : Sl2 g' s LL := by
  obtain ⟨vs, h1, h2, h3⟩ := h
  exact ⟨vs, h1.kept k, h2, fun i v L a b => (h3 i v L a b).kept k⟩
theorem Sl2.len {g : GH} {s : Value} {LL : List (List Int)} (h : Sl2 g s LL) : lenLF s = some (.int .i64 (LL.length : Int)) := by
  obtain ⟨vs, h1, h2, h3⟩ := h
  rw [h1.len, h2]
theorem Sl2.ptr {g : GH} {s : Value} {LL : List (List Int)} (h : Sl2 g s LL) {i : Nat} (hi : i < LL.length) : ∃ v j o, j < g.next ∧ (∀ n : Int, n = i → iaddrSF 1 s (.int .i64 n) = some (.pointer (some ⟨j, o, none⟩))) ∧ (∀ lo, loadF none (g.at lo) (.pointer (some ⟨j, o, none⟩)) = some v) ∧ SlR g v (ints (LL.getD i [])) := by
  obtain ⟨vs, h1, h2, h3⟩ := h
  have hv := List.getElem?_eq_getElem (show i < vs.length by omega)
  obtain ⟨j, o, a, b, c⟩ := h1.ptr hv
  refine ⟨vs[i], j, o, a, b, c, h3 i _ _ hv ?_⟩
  rw [List.getD_eq_getElem?_getD, List.getElem?_eq_getElem hi]; rfl
theorem take_snocL (D : List (List Int)) (i : Nat) (h : i < D.length) : D.take (i + 1) = D.take i ++ [D.getD i []] := by
  rw [List.take_add_one]; simp [h]
/-- Two lists of lists are the same. -/
theorem shapes_rets {X : Caller} (hX : Xok X) (A B : List (List Int)) (hA : A.length < 1000000) (hB : B.length < 1000000) (hA2 : ∀ L ∈ A, L.length < 1000000) (hB2 : ∀ L ∈ B, L.length < 1000000) (s t : Value) (g : GH) (hs : Sl2 g s A) (ht : Sl2 g t B) :
    Rets Try.prog X 21 [s, t] g (fun v g' lo => g.next ≤ lo ∧ v = .bool (decide (A = B))) := by
  refine Rets.run hX.pres p21 (hX.free 21 (by decide) _ _) rfl fun ho => ?_
  have hls := hs.len
  have hlt := ht.len
  by_cases c : A.length = B.length
  · simp +decide (disch := first | assumption | (apply GH.ok_push; assumption) | exact cellV_int _ _ | exact cellV_bool _ | omega) only [go_sem, ↓reduceIte, Nat.reduceEqDiff, Nat.reduceAdd, Int.reduceToNat, hls, hlt]
    refine Wk.loops (fun m e g' lo => Kept g g' ∧ g.next ≤ lo ∧ ∃ i : Nat, i + m = A.length ∧ (ev e (.s 0) = s ∧ ev e (.s 1) = t ∧ ev e (.s 5) = .int .i64 i) ∧ A.take i = B.take i)
      (fun e g' lo => g.next ≤ lo ∧ A = B) (n := A.length) ?_ ?_ ?_
    · exact ⟨Kept.refl _, Nat.le_refl _, 0, by omega, (by simp +decide (disch := first | assumption | (apply GH.ok_push; assumption) | exact cellV_int _ _ | exact cellV_bool _ | omega) only [go_sem, ↓reduceIte, Nat.reduceEqDiff, Nat.reduceAdd, Int.reduceToNat]; first | done | exact rfl), rfl⟩
    · rintro e g' lo - - ⟨hlo, h⟩
      simp +decide (disch := first | assumption | (apply GH.ok_push; assumption) | exact cellV_int _ _ | exact cellV_bool _ | omega) only [go_sem, ↓reduceIte, Nat.reduceEqDiff, Nat.reduceAdd, Int.reduceToNat]
      intro hx
      exact ⟨hlo, by simp [h]⟩
    · rintro m e g' lo ho' hl' ih out ⟨hk, hlo, i, hi, he, hp⟩
      by_cases c2 : i < A.length
      · obtain ⟨u, j1, o1, hj1, hp1, hp2, hu⟩ := (hs.kept hk).ptr c2
        obtain ⟨w, j2, o2, hj2, hq1, hq2, hw⟩ := (ht.kept hk).ptr (i := i) (by omega)
        have hp1 := hp1 (i : Int) rfl
        have hq1 := hq1 (i : Int) rfl
        have m1 : A.getD i [] ∈ A := by rw [List.getD_eq_getElem?_getD, List.getElem?_eq_getElem c2]; exact List.getElem_mem _
        have m2 : B.getD i [] ∈ B := by rw [List.getD_eq_getElem?_getD, List.getElem?_eq_getElem (show i < B.length by omega)]; exact List.getElem_mem _
        simp +decide (disch := first | assumption | (apply GH.ok_push; assumption) | exact cellV_int _ _ | exact cellV_bool _ | omega) only [go_sem, ↓reduceIte, Nat.reduceEqDiff, Nat.reduceAdd, Int.reduceToNat, he, hls, hp1, hp2, hq1, hq2]
        refine CallD.calm (same_rets hX _ _ (hA2 _ m1) (hB2 _ m2) u w g' hu hw) ?_
        rintro v G hx rfl
        have hn := hx.next
        by_cases d : A.getD i [] = B.getD i []
        · have d' : decide (A.getD i [] = B.getD i []) = true := decide_eq_true d
          simp +decide (disch := first | assumption | (apply GH.ok_push; assumption) | exact cellV_int _ _ | exact cellV_bool _ | omega) only [go_sem, ↓reduceIte, Nat.reduceEqDiff, Nat.reduceAdd, Int.reduceToNat, he, hls, d']
          refine ih (m - 1) _ _ _ (by omega) ⟨hk.ext hx, by omega, i + 1, by omega, (by simp +decide (disch := first | assumption | (apply GH.ok_push; assumption) | exact cellV_int _ _ | exact cellV_bool _ | omega) only [go_sem, ↓reduceIte, Nat.reduceEqDiff, Nat.reduceAdd, Int.reduceToNat, he]; first | done | exact rfl), ?_⟩
          rw [take_snocL A i c2, take_snocL B i (by omega), hp, d]
        · have d' : decide (A.getD i [] = B.getD i []) = false := decide_eq_false d
          simp +decide (disch := first | assumption | (apply GH.ok_push; assumption) | exact cellV_int _ _ | exact cellV_bool _ | omega) only [go_sem, ↓reduceIte, Nat.reduceEqDiff, Nat.reduceAdd, Int.reduceToNat, he, hls, d']
          intro hx
          refine ⟨by omega, ?_⟩
          rw [decide_eq_false fun h => d (by rw [h])]
      · simp +decide (disch := first | assumption | (apply GH.ok_push; assumption) | exact cellV_int _ _ | exact cellV_bool _ | omega) only [go_sem, ↓reduceIte, Nat.reduceEqDiff, Nat.reduceAdd, Int.reduceToNat, he, hls]
        refine out _ _ _ ⟨hlo, ?_⟩
        rw [List.take_of_length_le (by omega), List.take_of_length_le (by omega)] at hp
        exact hp
  · simp +decide (disch := first | assumption | (apply GH.ok_push; assumption) | exact cellV_int _ _ | exact cellV_bool _ | omega) only [go_sem, ↓reduceIte, Nat.reduceEqDiff, Nat.reduceAdd, Int.reduceToNat, hls, hlt]
    intro hx
    exact ⟨Nat.le_refl _, by rw [decide_eq_false fun h => c (by rw [h])]⟩
end Go.Proofs.Ytieliilnnfjijaa
set_option maxRecDepth 100000
set_option maxHeartbeats 4000000
set_option linter.unusedSimpArgs false
set_option linter.unusedVariables false
namespace Go.Proofs.Ytieliilnnfjijaa
open Go.Ds
def sumL : List Int → Int
  | [] => 0
  | x :: l => x + sumL l
theorem sumL_app (A B : List Int) : sumL (A ++ B) = sumL A + sumL B := by
  induction A with
  | nil => simp [sumL]
  | cons x A ih => simp only [List.cons_append, sumL, ih]; omega
theorem sumL_bnd {L : List Int} {a b : Int} (h : ∀ x ∈ L, a ≤ x ∧ x ≤ b) : a * L.length ≤ sumL L ∧ sumL L ≤ b * L.length := by
  induction L with
  | nil => simp [sumL]
  | cons x L ih =>
    have h1 := h x List.mem_cons_self
    have h2 := ih fun y hy => h y (List.mem_cons_of_mem _ hy)
    simp only [sumL, List.length_cons, Int.natCast_add, Int.natCast_one, Int.mul_add, Int.mul_one]
    omega
theorem mem_getD {L : List Int} {i : Nat} (h : i < L.length) : L.getD i 0 ∈ L := by
  rw [List.getD_eq_getElem?_getD, List.getElem?_eq_getElem h]; exact List.getElem_mem _
theorem sumL_snoc (L : List Int) (i : Nat) (h : i < L.length) : sumL (L.take (i + 1)) = sumL (L.take i) + L.getD i 0 := by
  rw [take_snoc L i h, sumL_app]; simp [sumL]
/-- What a list of numbers sums to fits. -/
def Fits (L : List Int) : Prop := L.length ≤ 1000000 ∧ ∀ x ∈ L, -1000000 ≤ x ∧ x ≤ 1000000
theorem Fits.take {L : List Int} (h : Fits L) (i : Nat) : -1000000000000 ≤ sumL (L.take i) ∧ sumL (L.take i) ≤ 1000000000000 := by
  have h1 := sumL_bnd (L := L.take i) (a := -1000000) (b := 1000000) fun x hx => h.2 x (List.mem_of_mem_take hx)
  have h2 : (L.take i).length ≤ 1000000 := by have := h.1; simp; omega
  omega
theorem Fits.sum {L : List Int} (h : Fits L) : -1000000000000 ≤ sumL L ∧ sumL L ≤ 1000000000000 := by
  have := h.take L.length
  rwa [List.take_length] at this
theorem id_rets {X : Caller} (hX : Xok X) (n : Int) (g : GH) : Rets Try.prog X 69 [.int .i64 n] g (fun v g' lo => g' = g ∧ g.next ≤ lo ∧ v = .int .i64 n) := by
  refine Rets.run hX.pres p69 (hX.free 69 (by decide) _ _) rfl fun ho => ?_
  simp +decide (disch := first | assumption | (apply GH.ok_push; assumption) | exact cellV_int _ _ | exact cellV_bool _ | omega) only [go_sem, ↓reduceIte, Nat.reduceEqDiff, Nat.reduceAdd, Int.reduceToNat]
  intro hx
  exact ⟨rfl, Nat.le_refl _, rfl⟩
/-- The sum of all that a function says, where it says the number itself. -/
theorem sum_rets {X : Caller} (hX : Xok X) (L : List Int) (hL : Fits L) (s : Value) (g : GH) (hs : SlR g s (ints L)) :
    Rets Try.prog X 68 [s, .func (.func 69) #[] #[]] g (fun v g' lo => g.next ≤ lo ∧ v = .int .i64 (sumL L)) := by
  refine Rets.run hX.pres p68 (hX.free 68 (by decide) _ _) rfl fun ho => ?_
  have hl := hs.len
  rw [ints_len] at hl
  simp +decide (disch := first | assumption | (apply GH.ok_push; assumption) | exact cellV_int _ _ | exact cellV_bool _ | omega) only [go_sem, ↓reduceIte, Nat.reduceEqDiff, Nat.reduceAdd, Int.reduceToNat, hl]
  refine Wk.loops (fun m e g' lo => g' = g ∧ g.next ≤ lo ∧ ∃ i : Nat, i + m = L.length ∧ (ev e (.s 1) = .func (.func 69) #[] #[] ∧ ev e (.s 8) = s ∧ ev e (.s 9) = .int .i64 L.length ∧ ev e (.s 10) = .int .i64 i ∧ ev e (.s 5) = .int .i64 (sumL (L.take i))))
    (fun e g' lo => g.next ≤ lo ∧ ev e (.s 5) = .int .i64 (sumL L)) (n := L.length) ?_ ?_ ?_
  · exact ⟨rfl, Nat.le_refl _, 0, by omega, (by simp +decide (disch := first | assumption | (apply GH.ok_push; assumption) | exact cellV_int _ _ | exact cellV_bool _ | omega) only [go_sem, ↓reduceIte, Nat.reduceEqDiff, Nat.reduceAdd, Int.reduceToNat, List.take_zero, sumL]; first | done | exact rfl)⟩
  · rintro e g' lo - - ⟨hlo, he⟩
    simp +decide (disch := first | assumption | (apply GH.ok_push; assumption) | exact cellV_int _ _ | exact cellV_bool _ | omega) only [go_sem, ↓reduceIte, Nat.reduceEqDiff, Nat.reduceAdd, Int.reduceToNat, he]
    intro hx
    exact ⟨hlo, rfl⟩
  · rintro m e g' lo ho' hl' ih out ⟨rfl, hlo, i, hi, he⟩
    by_cases c : i < L.length
    · obtain ⟨p, hp1, hp2⟩ := hs.at (ints_get (D := L) (i := i) c)
      have hp1 := hp1 (i : Int) rfl
      have hb := hL.take i
      have hb0 := hL.1
      have hb2 := hL.2 _ (mem_getD c)
      simp +decide (disch := first | assumption | (apply GH.ok_push; assumption) | exact cellV_int _ _ | exact cellV_bool _ | omega) only [go_sem, ↓reduceIte, Nat.reduceEqDiff, Nat.reduceAdd, Int.reduceToNat, he, hp1, hp2]
      refine CallV.go rfl (id_rets hX _ _) ?_
      rintro v G lo2 wr hx ⟨rfl, h2, rfl⟩
      simp +decide (disch := first | assumption | (apply GH.ok_push; assumption) | exact cellV_int _ _ | exact cellV_bool _ | omega) only [go_sem, ↓reduceIte, Nat.reduceEqDiff, Nat.reduceAdd, Int.reduceToNat, he]
      refine ih (m - 1) _ _ _ (by omega) ⟨rfl, by omega, i + 1, by omega, (by simp +decide (disch := first | assumption | (apply GH.ok_push; assumption) | exact cellV_int _ _ | exact cellV_bool _ | omega) only [go_sem, ↓reduceIte, Nat.reduceEqDiff, Nat.reduceAdd, Int.reduceToNat, he, sumL_snoc L i c]; first | done | exact rfl)⟩
    · simp +decide (disch := first | assumption | (apply GH.ok_push; assumption) | exact cellV_int _ _ | exact cellV_bool _ | omega) only [go_sem, ↓reduceIte, Nat.reduceEqDiff, Nat.reduceAdd, Int.reduceToNat, he]
      refine out _ _ _ ⟨hlo, ?_⟩
      rw [List.take_of_length_le (by omega)] at he
      exact he.2.2.2.2
theorem count_rets {X : Caller} (hX : Xok X) (L : List Int) (hL : Fits L) (s : Value) (g : GH) (hs : SlR g s (ints L)) :
    Rets Try.prog X 45 [s] g (fun v g' lo => g.next ≤ lo ∧ v = .int .i64 (sumL L)) := by
  refine Rets.run hX.pres p45 (hX.free 45 (by decide) _ _) rfl fun ho => ?_
  simp +decide (disch := first | assumption | (apply GH.ok_push; assumption) | exact cellV_int _ _ | exact cellV_bool _ | omega) only [go_sem, ↓reduceIte, Nat.reduceEqDiff, Nat.reduceAdd, Int.reduceToNat]
  refine CallD.calm (sum_rets hX L hL s g hs) ?_
  rintro v G hx rfl
  simp +decide (disch := first | assumption | (apply GH.ok_push; assumption) | exact cellV_int _ _ | exact cellV_bool _ | omega) only [go_sem, ↓reduceIte, Nat.reduceEqDiff, Nat.reduceAdd, Int.reduceToNat]
  intro hx0
  exact ⟨Nat.le_refl _, rfl⟩
/-- The reference's sum. -/
theorem refSum_rets {X : Caller} (hX : Xok X) (L : List Int) (hL : Fits L) (s : Value) (g : GH) (hs : SlR g s (ints L)) :
    Rets Try.prog X 42 [s] g (fun v g' lo => g.next ≤ lo ∧ v = .int .i64 (sumL L)) := by
  refine Rets.run hX.pres p42 (hX.free 42 (by decide) _ _) rfl fun ho => ?_
  have hl := hs.len
  rw [ints_len] at hl
  simp +decide (disch := first | assumption | (apply GH.ok_push; assumption) | exact cellV_int _ _ | exact cellV_bool _ | omega) only [go_sem, ↓reduceIte, Nat.reduceEqDiff, Nat.reduceAdd, Int.reduceToNat, hl]
  refine Wk.loops (fun m e g' lo => g' = g ∧ g.next ≤ lo ∧ ∃ i : Nat, i + m = L.length ∧ (ev e (.s 0) = s ∧ ev e (.s 4) = .int .i64 i ∧ ev e (.s 3) = .int .i64 (sumL (L.take i))))
    (fun e g' lo => g.next ≤ lo ∧ ev e (.s 3) = .int .i64 (sumL L)) (n := L.length) ?_ ?_ ?_
  · exact ⟨rfl, Nat.le_refl _, 0, by omega, (by simp +decide (disch := first | assumption | (apply GH.ok_push; assumption) | exact cellV_int _ _ | exact cellV_bool _ | omega) only [go_sem, ↓reduceIte, Nat.reduceEqDiff, Nat.reduceAdd, Int.reduceToNat, List.take_zero, sumL]; first | done | exact rfl)⟩
  · rintro e g' lo - - ⟨hlo, he⟩
    simp +decide (disch := first | assumption | (apply GH.ok_push; assumption) | exact cellV_int _ _ | exact cellV_bool _ | omega) only [go_sem, ↓reduceIte, Nat.reduceEqDiff, Nat.reduceAdd, Int.reduceToNat, he]
    intro hx
    exact ⟨hlo, rfl⟩
  · rintro m e g' lo ho' hl' ih out ⟨rfl, hlo, i, hi, he⟩
    by_cases c : i < L.length
    · obtain ⟨p, hp1, hp2⟩ := hs.at (ints_get (D := L) (i := i) c)
      have hp1 := hp1 (i : Int) rfl
      have hb := hL.take i
      have hb0 := hL.1
      have hb2 := hL.2 _ (mem_getD c)
      simp +decide (disch := first | assumption | (apply GH.ok_push; assumption) | exact cellV_int _ _ | exact cellV_bool _ | omega) only [go_sem, ↓reduceIte, Nat.reduceEqDiff, Nat.reduceAdd, Int.reduceToNat, he, hl, hp1, hp2]
      refine ih (m - 1) _ _ _ (by omega) ⟨rfl, by omega, i + 1, by omega, (by simp +decide (disch := first | assumption | (apply GH.ok_push; assumption) | exact cellV_int _ _ | exact cellV_bool _ | omega) only [go_sem, ↓reduceIte, Nat.reduceEqDiff, Nat.reduceAdd, Int.reduceToNat, he, sumL_snoc L i c]; first | done | exact rfl)⟩
    · simp +decide (disch := first | assumption | (apply GH.ok_push; assumption) | exact cellV_int _ _ | exact cellV_bool _ | omega) only [go_sem, ↓reduceIte, Nat.reduceEqDiff, Nat.reduceAdd, Int.reduceToNat, he, hl]
      refine out _ _ _ ⟨hlo, ?_⟩
      rw [List.take_of_length_le (by omega)] at he
      exact he.2.2

/-! ## Shapes -/
def desc : Int → List Int → Bool
  | _, [] => true
  | m, x :: l => decide (1 ≤ x) && decide (x ≤ m) && desc x l
def isShape (L : List Int) : Bool := decide (L.length ≤ 12) && desc 40 L && decide (sumL L ≤ 40)
def prevD (L : List Int) (i : Nat) : Int := if i = 0 then 40 else L.getD (i - 1) 0
theorem desc_step (m : Int) (L : List Int) (i : Nat) (h : i < L.length) : desc m (L.drop i) = (decide (1 ≤ L.getD i 0) && decide (L.getD i 0 ≤ m) && desc (L.getD i 0) (L.drop (i + 1))) := by
  rw [List.drop_eq_getElem_cons h, desc]
  simp [h]
theorem desc_le : ∀ {m : Int} {L : List Int}, desc m L = true → ∀ x ∈ L, 1 ≤ x ∧ x ≤ m
  | m, [], _, x, hx => by cases hx
  | m, y :: L, h, x, hx => by
    simp only [desc, Bool.and_eq_true, decide_eq_true_eq] at h
    rcases List.mem_cons.1 hx with rfl | hx
    · exact ⟨h.1.1, h.1.2⟩
    · have := desc_le h.2 x hx
      omega
theorem desc_fits {L : List Int} (h : desc 40 L = true) (hl : L.length ≤ 1000000) : Fits L := ⟨hl, fun x hx => by have := desc_le h x hx; omega⟩
theorem prevD_succ (L : List Int) (i : Nat) : prevD L (i + 1) = L.getD i 0 := by simp [prevD]
theorem isShape_rets {X : Caller} (hX : Xok X) (L : List Int) (hL : L.length < 1000000) (s : Value) (g : GH) (hs : SlR g s (ints L)) :
    Rets Try.prog X 17 [s] g (fun v g' lo => g.next ≤ lo ∧ v = .bool (isShape L)) := by
  refine Rets.run hX.pres p17 (hX.free 17 (by decide) _ _) rfl fun ho => ?_
  have hl := hs.len
  rw [ints_len] at hl
  by_cases c0 : 12 < L.length
  · simp +decide (disch := first | assumption | (apply GH.ok_push; assumption) | exact cellV_int _ _ | exact cellV_bool _ | omega) only [go_sem, ↓reduceIte, Nat.reduceEqDiff, Nat.reduceAdd, Int.reduceToNat, hl]
    intro hx
    refine ⟨Nat.le_refl _, ?_⟩
    have : decide (L.length ≤ 12) = false := decide_eq_false (by omega)
    rw [isShape, this]; rfl
  · simp +decide (disch := first | assumption | (apply GH.ok_push; assumption) | exact cellV_int _ _ | exact cellV_bool _ | omega) only [go_sem, ↓reduceIte, Nat.reduceEqDiff, Nat.reduceAdd, Int.reduceToNat, hl]
    refine Wk.loops (fun m e g' lo => g' = g ∧ g.next ≤ lo ∧ ∃ i : Nat, i + m = L.length ∧ (ev e (.s 0) = s ∧ ev e (.s 9) = s ∧ ev e (.s 10) = .int .i64 L.length ∧ ev e (.s 11) = .int .i64 i ∧ ev e (.s 3) = .int .i64 (prevD L i)) ∧ desc 40 L = desc (prevD L i) (L.drop i))
      (fun e g' lo => g' = g ∧ g.next ≤ lo ∧ ev e (.s 0) = s ∧ desc 40 L = true) (n := L.length) ?_ ?_ ?_
    · exact ⟨rfl, Nat.le_refl _, 0, by omega, (by simp +decide (disch := first | assumption | (apply GH.ok_push; assumption) | exact cellV_int _ _ | exact cellV_bool _ | omega) only [go_sem, ↓reduceIte, Nat.reduceEqDiff, Nat.reduceAdd, Int.reduceToNat, prevD]; first | done | exact rfl), rfl⟩
    · rintro e g' lo - - ⟨rfl, hlo, he, hd⟩
      simp +decide (disch := first | assumption | (apply GH.ok_push; assumption) | exact cellV_int _ _ | exact cellV_bool _ | omega) only [go_sem, ↓reduceIte, Nat.reduceEqDiff, Nat.reduceAdd, Int.reduceToNat, he]
      refine CallD.calm (count_rets hX L (desc_fits hd (by omega)) s _ hs) ?_
      rintro v G hx rfl
      have hn := hx.next
      simp +decide (disch := first | assumption | (apply GH.ok_push; assumption) | exact cellV_int _ _ | exact cellV_bool _ | omega) only [go_sem, ↓reduceIte, Nat.reduceEqDiff, Nat.reduceAdd, Int.reduceToNat]
      intro hx0
      refine ⟨by omega, ?_⟩
      rw [isShape, hd, decide_eq_true (show L.length ≤ 12 by omega)]; rfl
    · rintro m e g' lo ho' hl' ih out ⟨rfl, hlo, i, hi, he, hd⟩
      by_cases c : i < L.length
      · obtain ⟨p, hp1, hp2⟩ := hs.at (ints_get (D := L) (i := i) c)
        have hp1 := hp1 (i : Int) rfl
        rw [desc_step _ L i c] at hd
        by_cases c1 : L.getD i 0 < 1
        · simp +decide (disch := first | assumption | (apply GH.ok_push; assumption) | exact cellV_int _ _ | exact cellV_bool _ | omega) only [go_sem, ↓reduceIte, Nat.reduceEqDiff, Nat.reduceAdd, Int.reduceToNat, he, hp1, hp2]
          intro hx
          refine ⟨hlo, ?_⟩
          rw [decide_eq_false (show ¬ 1 ≤ L.getD i 0 by omega)] at hd
          rw [isShape, hd]; simp
        · by_cases c2 : prevD L i < L.getD i 0
          · simp +decide (disch := first | assumption | (apply GH.ok_push; assumption) | exact cellV_int _ _ | exact cellV_bool _ | omega) only [go_sem, ↓reduceIte, Nat.reduceEqDiff, Nat.reduceAdd, Int.reduceToNat, he, hp1, hp2]
            intro hx
            refine ⟨hlo, ?_⟩
            rw [decide_eq_false (show ¬ L.getD i 0 ≤ prevD L i by omega)] at hd
            rw [isShape, hd]; simp
          · simp +decide (disch := first | assumption | (apply GH.ok_push; assumption) | exact cellV_int _ _ | exact cellV_bool _ | omega) only [go_sem, ↓reduceIte, Nat.reduceEqDiff, Nat.reduceAdd, Int.reduceToNat, he, hp1, hp2]
            rw [decide_eq_true (show 1 ≤ L.getD i 0 by omega), decide_eq_true (show L.getD i 0 ≤ prevD L i by omega)] at hd
            exact ih (m - 1) _ _ _ (by omega) ⟨rfl, by omega, i + 1, by omega, (by simp +decide (disch := first | assumption | (apply GH.ok_push; assumption) | exact cellV_int _ _ | exact cellV_bool _ | omega) only [go_sem, ↓reduceIte, Nat.reduceEqDiff, Nat.reduceAdd, Int.reduceToNat, he, prevD_succ]; first | done | exact rfl), by rw [prevD_succ]; exact hd⟩
      · simp +decide (disch := first | assumption | (apply GH.ok_push; assumption) | exact cellV_int _ _ | exact cellV_bool _ | omega) only [go_sem, ↓reduceIte, Nat.reduceEqDiff, Nat.reduceAdd, Int.reduceToNat, he]
        refine out _ _ _ ⟨rfl, hlo, he.1, ?_⟩
        rw [hd, List.drop_eq_nil_of_le (by omega)]; rfl
theorem refIsShape_rets {X : Caller} (hX : Xok X) (L : List Int) (hL : L.length < 1000000) (s : Value) (g : GH) (hs : SlR g s (ints L)) :
    Rets Try.prog X 18 [s] g (fun v g' lo => g.next ≤ lo ∧ v = .bool (isShape L)) := by
  refine Rets.run hX.pres p18 (hX.free 18 (by decide) _ _) rfl fun ho => ?_
  have hl := hs.len
  rw [ints_len] at hl
  by_cases c0 : 12 < L.length
  · simp +decide (disch := first | assumption | (apply GH.ok_push; assumption) | exact cellV_int _ _ | exact cellV_bool _ | omega) only [go_sem, ↓reduceIte, Nat.reduceEqDiff, Nat.reduceAdd, Int.reduceToNat, hl]
    intro hx
    refine ⟨Nat.le_refl _, ?_⟩
    have : decide (L.length ≤ 12) = false := decide_eq_false (by omega)
    rw [isShape, this]; rfl
  · simp +decide (disch := first | assumption | (apply GH.ok_push; assumption) | exact cellV_int _ _ | exact cellV_bool _ | omega) only [go_sem, ↓reduceIte, Nat.reduceEqDiff, Nat.reduceAdd, Int.reduceToNat, hl]
    refine Wk.loops (fun m e g' lo => g' = g ∧ g.next ≤ lo ∧ ∃ i : Nat, i + m = L.length ∧ (ev e (.s 0) = s ∧ ev e (.s 4) = .int .i64 i ∧ ev e (.s 3) = .int .i64 (sumL (L.take i))) ∧ (0 ≤ sumL (L.take i) ∧ sumL (L.take i) ≤ 40 * (i : Int)) ∧ prevD L i ≤ 40 ∧ desc 40 L = desc (prevD L i) (L.drop i))
      (fun e g' lo => g' = g ∧ g.next ≤ lo ∧ ev e (.s 3) = .int .i64 (sumL L) ∧ desc 40 L = true) (n := L.length) ?_ ?_ ?_
    · exact ⟨rfl, Nat.le_refl _, 0, by omega, (by simp +decide (disch := first | assumption | (apply GH.ok_push; assumption) | exact cellV_int _ _ | exact cellV_bool _ | omega) only [go_sem, ↓reduceIte, Nat.reduceEqDiff, Nat.reduceAdd, Int.reduceToNat, List.take_zero, sumL]; first | done | exact rfl), by simp [sumL], Int.le_refl _, rfl⟩
    · rintro e g' lo - - ⟨rfl, hlo, he, hd⟩
      simp +decide (disch := first | assumption | (apply GH.ok_push; assumption) | exact cellV_int _ _ | exact cellV_bool _ | omega) only [go_sem, ↓reduceIte, Nat.reduceEqDiff, Nat.reduceAdd, Int.reduceToNat, he]
      intro hx0
      refine ⟨by omega, ?_⟩
      rw [isShape, hd, decide_eq_true (show L.length ≤ 12 by omega)]; rfl
    · rintro m e g' lo ho' hl' ih out ⟨rfl, hlo, i, hi, he, hsm, hpr, hd⟩
      by_cases c : i < L.length
      · obtain ⟨p, hp1, hp2⟩ := hs.at (ints_get (D := L) (i := i) c)
        have hp1 := hp1 (i : Int) rfl
        rw [desc_step _ L i c] at hd
        by_cases c1 : L.getD i 0 < 1
        · simp +decide (disch := first | assumption | (apply GH.ok_push; assumption) | exact cellV_int _ _ | exact cellV_bool _ | omega) only [go_sem, ↓reduceIte, Nat.reduceEqDiff, Nat.reduceAdd, Int.reduceToNat, he, hl, hp1, hp2]
          intro hx
          refine ⟨hlo, ?_⟩
          rw [decide_eq_false (show ¬ 1 ≤ L.getD i 0 by omega)] at hd
          rw [isShape, hd]; simp
        · by_cases c2 : 40 < L.getD i 0
          · simp +decide (disch := first | assumption | (apply GH.ok_push; assumption) | exact cellV_int _ _ | exact cellV_bool _ | omega) only [go_sem, ↓reduceIte, Nat.reduceEqDiff, Nat.reduceAdd, Int.reduceToNat, he, hl, hp1, hp2]
            intro hx
            refine ⟨hlo, ?_⟩
            rw [decide_eq_false (show ¬ L.getD i 0 ≤ prevD L i by omega)] at hd
            rw [isShape, hd]; simp
          · have fin : L.getD i 0 ≤ prevD L i → desc 40 L = desc (prevD L (i + 1)) (L.drop (i + 1)) := fun h => by
              rw [decide_eq_true (show 1 ≤ L.getD i 0 by omega), decide_eq_true h] at hd
              rw [prevD_succ]; exact hd
            have hsn := sumL_snoc L i c
            by_cases c3 : i = 0
            · simp +decide (disch := first | assumption | (apply GH.ok_push; assumption) | exact cellV_int _ _ | exact cellV_bool _ | omega) only [go_sem, ↓reduceIte, Nat.reduceEqDiff, Nat.reduceAdd, Int.reduceToNat, he, hl, hp1, hp2]
              exact ih (m - 1) _ _ _ (by omega) ⟨rfl, by omega, i + 1, by omega, (by simp +decide (disch := first | assumption | (apply GH.ok_push; assumption) | exact cellV_int _ _ | exact cellV_bool _ | omega) only [go_sem, ↓reduceIte, Nat.reduceEqDiff, Nat.reduceAdd, Int.reduceToNat, he, hsn]; first | done | exact rfl), by omega, by rw [prevD_succ]; omega, fin (by rw [prevD, if_pos c3]; omega)⟩
            · obtain ⟨j2, o2, hj2, hq1, hq2⟩ := hs.ptr (ints_get (D := L) (i := i - 1) (by omega))
              have hq1 := hq1 ((i : Int) - 1) (by omega)
              have hpv : prevD L i = L.getD (i - 1) 0 := by rw [prevD, if_neg c3]
              by_cases c4 : prevD L i < L.getD i 0
              · rw [hpv] at c4
                simp +decide (disch := first | assumption | (apply GH.ok_push; assumption) | exact cellV_int _ _ | exact cellV_bool _ | omega) only [go_sem, ↓reduceIte, Nat.reduceEqDiff, Nat.reduceAdd, Int.reduceToNat, he, hl, hp1, hp2, hq1, hq2]
                intro hx
                refine ⟨hlo, ?_⟩
                rw [decide_eq_false (show ¬ L.getD i 0 ≤ prevD L i by omega)] at hd
                rw [isShape, hd]; simp
              · have fin' := fin (by omega)
                rw [hpv] at c4
                simp +decide (disch := first | assumption | (apply GH.ok_push; assumption) | exact cellV_int _ _ | exact cellV_bool _ | omega) only [go_sem, ↓reduceIte, Nat.reduceEqDiff, Nat.reduceAdd, Int.reduceToNat, he, hl, hp1, hp2, hq1, hq2]
                exact ih (m - 1) _ _ _ (by omega) ⟨rfl, by omega, i + 1, by omega, (by simp +decide (disch := first | assumption | (apply GH.ok_push; assumption) | exact cellV_int _ _ | exact cellV_bool _ | omega) only [go_sem, ↓reduceIte, Nat.reduceEqDiff, Nat.reduceAdd, Int.reduceToNat, he, hsn]; first | done | exact rfl), by omega, by rw [prevD_succ]; omega, fin'⟩
      · simp +decide (disch := first | assumption | (apply GH.ok_push; assumption) | exact cellV_int _ _ | exact cellV_bool _ | omega) only [go_sem, ↓reduceIte, Nat.reduceEqDiff, Nat.reduceAdd, Int.reduceToNat, he, hl]
        rw [List.take_of_length_le (by omega)] at he
        refine out _ _ _ ⟨rfl, hlo, he.2.2, ?_⟩
        rw [hd, List.drop_eq_nil_of_le (by omega)]; rfl
end Go.Proofs.Ytieliilnnfjijaa
set_option maxRecDepth 100000
set_option maxHeartbeats 4000000
set_option linter.unusedSimpArgs false
set_option linter.unusedVariables false
namespace Go.Proofs.Ytieliilnnfjijaa
open Go.Ds
def fewB (L : List Int) (LL : List (List Int)) : Bool := decide (L.length ≤ 60) && decide (LL.length ≤ 20) && LL.all (fun M => decide (M.length ≤ 60))
theorem getD_cons {LL : List (List Int)} {i : Nat} (h : i < LL.length) : LL.drop i = LL.getD i [] :: LL.drop (i + 1) := by
  rw [List.drop_eq_getElem_cons h]; simp [h]
theorem few_rets {X : Caller} (hX : Xok X) (L : List Int) (LL : List (List Int)) (s t : Value) (g : GH) (hs : SlR g s (ints L)) (ht : Sl2 g t LL) :
    Rets Try.prog X 15 [s, t] g (fun v g' lo => g.next ≤ lo ∧ v = .bool (fewB L LL)) := by
  refine Rets.run hX.pres p15 (hX.free 15 (by decide) _ _) rfl fun ho => ?_
  have hl := hs.len
  rw [ints_len] at hl
  have hl2 := ht.len
  by_cases c0 : 60 < L.length
  · simp +decide (disch := first | assumption | (apply GH.ok_push; assumption) | exact cellV_int _ _ | exact cellV_bool _ | omega) only [go_sem, ↓reduceIte, Nat.reduceEqDiff, Nat.reduceAdd, Int.reduceToNat, hl, hl2]
    intro hx
    refine ⟨Nat.le_refl _, ?_⟩
    rw [fewB, decide_eq_false (show ¬ L.length ≤ 60 by omega)]; rfl
  · by_cases c1 : 20 < LL.length
    · simp +decide (disch := first | assumption | (apply GH.ok_push; assumption) | exact cellV_int _ _ | exact cellV_bool _ | omega) only [go_sem, ↓reduceIte, Nat.reduceEqDiff, Nat.reduceAdd, Int.reduceToNat, hl, hl2]
      intro hx
      refine ⟨Nat.le_refl _, ?_⟩
      rw [fewB, decide_eq_false (show ¬ LL.length ≤ 20 by omega)]; simp
    · simp +decide (disch := first | assumption | (apply GH.ok_push; assumption) | exact cellV_int _ _ | exact cellV_bool _ | omega) only [go_sem, ↓reduceIte, Nat.reduceEqDiff, Nat.reduceAdd, Int.reduceToNat, hl, hl2]
      refine Wk.loops (fun m e g' lo => g' = g ∧ g.next ≤ lo ∧ ∃ i : Nat, i + m = LL.length ∧ (ev e (.s 1) = t ∧ ev e (.s 5) = .int .i64 i) ∧ fewB L LL = (LL.drop i).all (fun M => decide (M.length ≤ 60)))
        (fun e g' lo => g' = g ∧ g.next ≤ lo ∧ fewB L LL = true) (n := LL.length) ?_ ?_ ?_
      · refine ⟨rfl, Nat.le_refl _, 0, by omega, (by simp +decide (disch := first | assumption | (apply GH.ok_push; assumption) | exact cellV_int _ _ | exact cellV_bool _ | omega) only [go_sem, ↓reduceIte, Nat.reduceEqDiff, Nat.reduceAdd, Int.reduceToNat]; first | done | exact rfl), ?_⟩
        rw [fewB, decide_eq_true (show L.length ≤ 60 by omega), decide_eq_true (show LL.length ≤ 20 by omega)]; rfl
      · rintro e g' lo - - ⟨rfl, hlo, hf⟩
        simp +decide (disch := first | assumption | (apply GH.ok_push; assumption) | exact cellV_int _ _ | exact cellV_bool _ | omega) only [go_sem, ↓reduceIte, Nat.reduceEqDiff, Nat.reduceAdd, Int.reduceToNat]
        intro hx
        exact ⟨hlo, by rw [hf]⟩
      · rintro m e g' lo ho' hl' ih out ⟨rfl, hlo, i, hi, he, hf⟩
        by_cases c : i < LL.length
        · obtain ⟨u, j1, o1, hj1, hp1, hp2, hu⟩ := ht.ptr c
          have hp1 := hp1 (i : Int) rfl
          have hlu := hu.len
          rw [ints_len] at hlu
          rw [getD_cons c, List.all_cons] at hf
          by_cases d : 60 < (LL.getD i []).length
          · simp +decide (disch := first | assumption | (apply GH.ok_push; assumption) | exact cellV_int _ _ | exact cellV_bool _ | omega) only [go_sem, ↓reduceIte, Nat.reduceEqDiff, Nat.reduceAdd, Int.reduceToNat, he, hl2, hp1, hp2, hlu]
            intro hx
            refine ⟨hlo, ?_⟩
            rw [hf, decide_eq_false (show ¬ (LL.getD i []).length ≤ 60 by omega)]; rfl
          · simp +decide (disch := first | assumption | (apply GH.ok_push; assumption) | exact cellV_int _ _ | exact cellV_bool _ | omega) only [go_sem, ↓reduceIte, Nat.reduceEqDiff, Nat.reduceAdd, Int.reduceToNat, he, hl2, hp1, hp2, hlu]
            rw [decide_eq_true (show (LL.getD i []).length ≤ 60 by omega)] at hf
            exact ih (m - 1) _ _ _ (by omega) ⟨rfl, hlo, i + 1, by omega, (by simp +decide (disch := first | assumption | (apply GH.ok_push; assumption) | exact cellV_int _ _ | exact cellV_bool _ | omega) only [go_sem, ↓reduceIte, Nat.reduceEqDiff, Nat.reduceAdd, Int.reduceToNat, he]; first | done | exact rfl), hf⟩
        · simp +decide (disch := first | assumption | (apply GH.ok_push; assumption) | exact cellV_int _ _ | exact cellV_bool _ | omega) only [go_sem, ↓reduceIte, Nat.reduceEqDiff, Nat.reduceAdd, Int.reduceToNat, he, hl2]
          refine out _ _ _ ⟨rfl, hlo, ?_⟩
          rw [hf, List.drop_eq_nil_of_le (by omega)]; rfl

/-! ## Rows that a function gives -/
def rng (n : Nat) (f : Nat → Int) : List Int := (List.range n).map f
theorem rng_len (n : Nat) (f : Nat → Int) : (rng n f).length = n := by simp [rng]
theorem rng_get {n i : Nat} (f : Nat → Int) (h : i < n) : (rng n f).getD i 0 = f i := by simp [rng, h]
theorem rng_succ (n : Nat) (f : Nat → Int) : rng (n + 1) f = rng n f ++ [f n] := by simp [rng, List.range_succ]
theorem rng_congr {n : Nat} {f h : Nat → Int} (k : ∀ i, i < n → f i = h i) : rng n f = rng n h := by
  unfold rng
  apply List.map_congr_left
  intro i hi
  exact k i (List.mem_range.1 hi)
theorem rng_set {n : Nat} (f : Nat → Int) (c : Nat) (x : Int) : (rng n f).set c x = rng n (fun k => if k = c then x else f k) := by
  apply List.ext_getElem
  · simp [rng]
  · intro i h1 h2
    simp only [rng, List.length_map, List.length_range, List.length_set] at h1 h2
    simp only [rng, List.getElem_set, List.getElem_map, List.getElem_range]
    by_cases q : c = i
    · subst q; simp
    · rw [if_neg q, if_neg (Ne.symm q)]
theorem list_rng (L : List Int) : L = rng L.length (fun i => L.getD i 0) := by
  apply List.ext_getElem
  · simp [rng]
  · intro i h1 h2; simp [rng, h1]
theorem repeat_rng (n : Nat) : repeatN [.int .i64 0] n = ints (rng n fun _ => 0) := by
  rw [repeatN_replicate]
  simp only [ints, rng, List.map_map]
  apply List.ext_getElem <;> simp

/-! ## Columns -/
def cnt : List Int → Int → Int
  | [], _ => 0
  | x :: l, c => (if c < x then 1 else 0) + cnt l c
theorem cnt_app (A B : List Int) (c : Int) : cnt (A ++ B) c = cnt A c + cnt B c := by
  induction A with
  | nil => simp [cnt]
  | cons x A ih => simp only [List.cons_append, cnt, ih]; omega
theorem cnt_snoc (L : List Int) (i : Nat) (h : i < L.length) (c : Int) : cnt (L.take (i + 1)) c = cnt (L.take i) c + if c < L.getD i 0 then 1 else 0 := by
  rw [take_snoc L i h, cnt_app]; simp [cnt]
theorem cnt_bnd (L : List Int) (c : Int) : 0 ≤ cnt L c ∧ cnt L c ≤ L.length := by
  induction L with
  | nil => simp [cnt]
  | cons x L ih => simp only [cnt, List.length_cons]; split <;> omega
theorem cnt_take (L : List Int) (i : Nat) (c : Int) : 0 ≤ cnt (L.take i) c ∧ cnt (L.take i) c ≤ L.length := by
  have := cnt_bnd (L.take i) c
  have h : (L.take i).length ≤ L.length := by simp; omega
  omega
def head (L : List Int) : Nat := (L.getD 0 0).toNat
def colsL (L : List Int) : List Int := rng (head L) (fun c => cnt L c)
theorem desc_getD {m : Int} {L : List Int} (h : desc m L = true) {i : Nat} (hi : i < L.length) : 1 ≤ L.getD i 0 ∧ L.getD i 0 ≤ m := desc_le h _ (mem_getD hi)
theorem desc_head {L : List Int} (h : desc 40 L = true) {i : Nat} (hi : i < L.length) : L.getD i 0 ≤ (head L : Int) := by
  cases L with
  | nil => simp at hi
  | cons x L =>
    have h0 := h
    simp only [desc, Bool.and_eq_true, decide_eq_true_eq] at h
    have hh : (head (x :: L) : Int) = x := by simp [head]; omega
    rw [hh]
    cases i with
    | zero => simp
    | succ i =>
      have := desc_getD h.2 (i := i) (by simpa using hi)
      simpa using this.2
theorem head_le {L : List Int} (h : desc 40 L = true) : head L ≤ 40 := by
  cases L with
  | nil => simp [head]
  | cons x L =>
    have := desc_getD h (i := 0) (by simp)
    simp [head] at *; omega
theorem head_pos {L : List Int} (h : desc 40 L = true) (hl : 0 < L.length) : L.getD 0 0 = (head L : Int) ∧ 1 ≤ head L := by
  have := desc_getD h hl
  simp only [head]
  omega

/-- The reference's columns. -/
theorem refColumns_rets {X : Caller} (hX : Xok X) (L : List Int) (hL : L.length ≤ 1000) (hd : desc 40 L = true) (s : Value) (g : GH) (hs : SlR g s (ints L)) :
    Rets Try.prog X 44 [s] g (fun v g' lo => g.next ≤ lo ∧ SlR g' v (ints (colsL L))) := by
  refine Rets.run hX.pres p44 (hX.free 44 (by decide) _ _) rfl fun ho => ?_
  have hl := hs.len
  rw [ints_len] at hl
  have hh := head_le hd
  simp +decide (disch := first | assumption | (apply GH.ok_push; assumption) | exact cellV_int _ _ | exact cellV_bool _ | omega) only [go_sem, ↓reduceIte, Nat.reduceEqDiff, Nat.reduceAdd, Int.reduceToNat, hl]
  refine Wk.loops (fun m e g' lo => g.next ≤ lo ∧ Kept g g' ∧ ∃ c : Nat, c + m = head L ∧ (ev e (.s 0) = s ∧ ev e (.s 4) = .int .i64 c) ∧ ∃ o, ev e (.s 3) = o ∧ Own g' o (ints (rng c (fun c => cnt L c))) 3 g.next)
    (fun e g' lo => g.next ≤ lo ∧ ∃ o, ev e (.s 3) = o ∧ Own g' o (ints (colsL L)) 3 g.next) (n := head L) ?_ ?_ ?_
  · exact ⟨Nat.le_refl _, Kept.refl _, 0, by omega, (by simp +decide (disch := first | assumption | (apply GH.ok_push; assumption) | exact cellV_int _ _ | exact cellV_bool _ | omega) only [go_sem, ↓reduceIte, Nat.reduceEqDiff, Nat.reduceAdd, Int.reduceToNat]; first | done | exact rfl), .slice none 0 0, (by simp +decide (disch := first | assumption | (apply GH.ok_push; assumption) | exact cellV_int _ _ | exact cellV_bool _ | omega) only [go_sem, ↓reduceIte, Nat.reduceEqDiff, Nat.reduceAdd, Int.reduceToNat]; first | done | exact rfl), Own.nil⟩
  · rintro e g' lo - - ⟨hlo, o, h3, hown⟩
    simp +decide (disch := first | assumption | (apply GH.ok_push; assumption) | exact cellV_int _ _ | exact cellV_bool _ | omega) only [go_sem, ↓reduceIte, Nat.reduceEqDiff, Nat.reduceAdd, Int.reduceToNat, h3]
    exact fun hx => ⟨hlo, hown.read⟩
  · rintro m e g' lo ho' hl' ih out ⟨hlo, hk, c, hc, he, o, h3, hown⟩
    have hs' := hs.kept hk
    by_cases c0 : 0 < L.length
    · obtain ⟨hp0, hp00⟩ := head_pos hd c0
      obtain ⟨p, hp1, hp2⟩ := hs'.at (ints_get (D := L) (i := 0) c0)
      have hp1 := hp1 0 rfl
      rw [hp0] at hp2
      by_cases c1 : c < head L
      · simp +decide (disch := first | assumption | (apply GH.ok_push; assumption) | exact cellV_int _ _ | exact cellV_bool _ | omega) only [go_sem, ↓reduceIte, Nat.reduceEqDiff, Nat.reduceAdd, Int.reduceToNat, he, hl, hp1, hp2]
        refine Wk.loops (fun m e g2 lo2 => g2 = g' ∧ g.next ≤ lo2 ∧ ∃ i : Nat, i + m = L.length ∧ (ev e (.s 0) = s ∧ ev e (.s 4) = .int .i64 c ∧ ev e (.s 3) = o ∧ ev e (.s 6) = .int .i64 i ∧ ev e (.s 5) = .int .i64 (cnt (L.take i) c)))
          (fun e g2 lo2 => g2 = g' ∧ g.next ≤ lo2 ∧ (ev e (.s 0) = s ∧ ev e (.s 4) = .int .i64 c ∧ ev e (.s 3) = o ∧ ev e (.s 5) = .int .i64 (cnt L c))) (n := L.length) ?_ ?_ ?_
        · exact ⟨rfl, hlo, 0, by omega, (by simp +decide (disch := first | assumption | (apply GH.ok_push; assumption) | exact cellV_int _ _ | exact cellV_bool _ | omega) only [go_sem, ↓reduceIte, Nat.reduceEqDiff, Nat.reduceAdd, Int.reduceToNat, he, h3, List.take_zero, cnt]; first | done | exact rfl)⟩
        · rintro e g2 lo2 - - ⟨rfl, hlo2, he⟩
          simp +decide (disch := first | assumption | (apply GH.ok_push; assumption) | exact cellV_int _ _ | exact cellV_bool _ | omega) only [go_sem, ↓reduceIte, Nat.reduceEqDiff, Nat.reduceAdd, Int.reduceToNat, he]
          refine AppD.own (hown.push ho' _) (SlR.one ho' _ _) (by simp) rfl (by simp [ints_len, rng_len]; omega) (by have := hk.next; simp [GH.push]; omega) hlo2 (GH.ok_push ho') (fun s' g2 lo2 sp wr hgr => ?_)
          simp +decide (disch := first | assumption | (apply GH.ok_push; assumption) | exact cellV_int _ _ | exact cellV_bool _ | omega) only [go_sem, ↓reduceIte, Nat.reduceEqDiff, Nat.reduceAdd, Int.reduceToNat, he]
          refine ih (m - 1) _ _ _ (by omega) ⟨hgr.low, (hk.push ho' _).grew hgr (Nat.le_refl _), c + 1, by omega, (by simp +decide (disch := first | assumption | (apply GH.ok_push; assumption) | exact cellV_int _ _ | exact cellV_bool _ | omega) only [go_sem, ↓reduceIte, Nat.reduceEqDiff, Nat.reduceAdd, Int.reduceToNat, he]; first | done | exact rfl), s', (by simp +decide (disch := first | assumption | (apply GH.ok_push; assumption) | exact cellV_int _ _ | exact cellV_bool _ | omega) only [go_sem, ↓reduceIte, Nat.reduceEqDiff, Nat.reduceAdd, Int.reduceToNat]; first | done | exact rfl), ?_⟩
          rw [rng_succ, ints_app]
          exact hgr.own
        · rintro m2 e g2 lo2 ho2 hl2 ih2 out2 ⟨rfl, hlo2, i, hi, he⟩
          by_cases ci : i < L.length
          · obtain ⟨q, hq1, hq2⟩ := hs'.at (ints_get (D := L) (i := i) ci)
            have hq1 := hq1 (i : Int) rfl
            have hcs := cnt_snoc L i ci c
            have hcb := cnt_take L i c
            by_cases c2 : (c : Int) < L.getD i 0
            · rw [if_pos c2] at hcs
              simp +decide (disch := first | assumption | (apply GH.ok_push; assumption) | exact cellV_int _ _ | exact cellV_bool _ | omega) only [go_sem, ↓reduceIte, Nat.reduceEqDiff, Nat.reduceAdd, Int.reduceToNat, he, hl, hq1, hq2]
              exact ih2 (m2 - 1) _ _ _ (by omega) ⟨rfl, hlo2, i + 1, by omega, (by simp +decide (disch := first | assumption | (apply GH.ok_push; assumption) | exact cellV_int _ _ | exact cellV_bool _ | omega) only [go_sem, ↓reduceIte, Nat.reduceEqDiff, Nat.reduceAdd, Int.reduceToNat, he, hcs]; first | done | exact rfl)⟩
            · rw [if_neg c2, Int.add_zero] at hcs
              simp +decide (disch := first | assumption | (apply GH.ok_push; assumption) | exact cellV_int _ _ | exact cellV_bool _ | omega) only [go_sem, ↓reduceIte, Nat.reduceEqDiff, Nat.reduceAdd, Int.reduceToNat, he, hl, hq1, hq2]
              exact ih2 (m2 - 1) _ _ _ (by omega) ⟨rfl, hlo2, i + 1, by omega, (by simp +decide (disch := first | assumption | (apply GH.ok_push; assumption) | exact cellV_int _ _ | exact cellV_bool _ | omega) only [go_sem, ↓reduceIte, Nat.reduceEqDiff, Nat.reduceAdd, Int.reduceToNat, he, hcs]; first | done | exact rfl)⟩
          · simp +decide (disch := first | assumption | (apply GH.ok_push; assumption) | exact cellV_int _ _ | exact cellV_bool _ | omega) only [go_sem, ↓reduceIte, Nat.reduceEqDiff, Nat.reduceAdd, Int.reduceToNat, he, hl]
            exact out2 _ _ _ ⟨rfl, hlo2, (by simp +decide (disch := first | assumption | (apply GH.ok_push; assumption) | exact cellV_int _ _ | exact cellV_bool _ | omega) only [go_sem, ↓reduceIte, Nat.reduceEqDiff, Nat.reduceAdd, Int.reduceToNat, he, List.take_of_length_le (show L.length ≤ i by omega)]; first | done | exact rfl)⟩
      · simp +decide (disch := first | assumption | (apply GH.ok_push; assumption) | exact cellV_int _ _ | exact cellV_bool _ | omega) only [go_sem, ↓reduceIte, Nat.reduceEqDiff, Nat.reduceAdd, Int.reduceToNat, he, hl, hp1, hp2]
        refine out _ _ _ ⟨hlo, o, (by simp +decide (disch := first | assumption | (apply GH.ok_push; assumption) | exact cellV_int _ _ | exact cellV_bool _ | omega) only [go_sem, ↓reduceIte, Nat.reduceEqDiff, Nat.reduceAdd, Int.reduceToNat, h3]; first | done | exact rfl), ?_⟩
        rw [show c = head L by omega] at hown
        exact hown
    · have hnil : L = [] := List.eq_nil_of_length_eq_zero (by omega)
      simp +decide (disch := first | assumption | (apply GH.ok_push; assumption) | exact cellV_int _ _ | exact cellV_bool _ | omega) only [go_sem, ↓reduceIte, Nat.reduceEqDiff, Nat.reduceAdd, Int.reduceToNat, he, hl]
      refine out _ _ _ ⟨hlo, o, (by simp +decide (disch := first | assumption | (apply GH.ok_push; assumption) | exact cellV_int _ _ | exact cellV_bool _ | omega) only [go_sem, ↓reduceIte, Nat.reduceEqDiff, Nat.reduceAdd, Int.reduceToNat, h3]; first | done | exact rfl), ?_⟩
      have h0 : head L = 0 := by rw [hnil]; rfl
      rw [show c = head L by omega] at hown
      exact hown
/-- The program's columns. -/
theorem columns_rets {X : Caller} (hX : Xok X) (L : List Int) (hL : L.length ≤ 1000) (hd : desc 40 L = true) (s : Value) (g : GH) (hs : SlR g s (ints L)) :
    Rets Try.prog X 50 [s] g (fun v g' lo => g.next ≤ lo ∧ SlR g' v (ints (colsL L))) := by
  refine Rets.run hX.pres p50 (hX.free 50 (by decide) _ _) rfl fun ho => ?_
  have hl := hs.len
  rw [ints_len] at hl
  have hh := head_le hd
  by_cases c0 : 0 < L.length
  · obtain ⟨hp0, hp00⟩ := head_pos hd c0
    obtain ⟨p, hp1, hp2⟩ := hs.at (ints_get (D := L) (i := 0) c0)
    have hp1 := hp1 0 rfl
    rw [hp0] at hp2
    simp +decide (disch := first | assumption | (apply GH.ok_push; assumption) | exact cellV_int _ _ | exact cellV_bool _ | omega) only [go_sem, ↓reduceIte, Nat.reduceEqDiff, Nat.reduceAdd, Int.reduceToNat, hl, hp1, hp2]
    refine Wk.mkslice (n := head L) (c := head L) (by simp +decide (disch := first | assumption | (apply GH.ok_push; assumption) | exact cellV_int _ _ | exact cellV_bool _ | omega) only [go_sem, ↓reduceIte, Nat.reduceEqDiff, Nat.reduceAdd, Int.reduceToNat]; first | done | exact rfl) (by simp +decide (disch := first | assumption | (apply GH.ok_push; assumption) | exact cellV_int _ _ | exact cellV_bool _ | omega) only [go_sem, ↓reduceIte, Nat.reduceEqDiff, Nat.reduceAdd, Int.reduceToNat]; first | done | exact rfl) (Nat.le_refl _) (by omega) ?_
    simp +decide (disch := first | assumption | (apply GH.ok_push; assumption) | exact cellV_int _ _ | exact cellV_bool _ | omega) only [go_sem, ↓reduceIte, Nat.reduceEqDiff, Nat.reduceAdd, Int.reduceToNat, hl]
    refine Wk.loops (fun m e g' lo => g.next ≤ lo ∧ Kept g g' ∧ g.next < g'.next ∧ ∃ i : Nat, i + m = L.length ∧ (ev e (.s 14) = s ∧ ev e (.s 15) = .int .i64 L.length ∧ ev e (.s 16) = .int .i64 i ∧ ev e (.s 3) = .slice (some ⟨g.next, 0, none⟩) (head L) (head L)) ∧ g'.get g.next = cellsOb (ints (rng (head L) (fun c => cnt (L.take i) c))) 3)
      (fun e g' lo => g.next ≤ lo ∧ g.next < g'.next ∧ ev e (.s 3) = .slice (some ⟨g.next, 0, none⟩) (head L) (head L) ∧ g'.get g.next = cellsOb (ints (colsL L)) 3) (n := L.length) ?_ ?_ ?_
    · refine ⟨Nat.le_refl _, (Kept.refl g).push ho _, Nat.lt_succ_self _, 0, by omega, (by simp +decide (disch := first | assumption | (apply GH.ok_push; assumption) | exact cellV_int _ _ | exact cellV_bool _ | omega) only [go_sem, ↓reduceIte, Nat.reduceEqDiff, Nat.reduceAdd, Int.reduceToNat, hl]; first | done | exact rfl), ?_⟩
      rw [GH.get_push ho, if_pos rfl, repeat_rng]
      rfl
    · rintro e g' lo - - ⟨hlo, hn, he, hget⟩
      simp +decide (disch := first | assumption | (apply GH.ok_push; assumption) | exact cellV_int _ _ | exact cellV_bool _ | omega) only [go_sem, ↓reduceIte, Nat.reduceEqDiff, Nat.reduceAdd, Int.reduceToNat, he]
      exact fun hx => ⟨hlo, SlR.whole hget hn (by rw [ints_len, colsL, rng_len])⟩
    · rintro m e g' lo ho' hl' ih out ⟨hlo, hk, hn, i, hi, he, hget⟩
      by_cases ci : i < L.length
      · obtain ⟨q, hq1, hq2⟩ := (hs.kept hk).at (ints_get (D := L) (i := i) ci)
        have hq1 := hq1 (i : Int) rfl
        have hrow := desc_getD hd ci
        have hrh := desc_head hd ci
        simp +decide (disch := first | assumption | (apply GH.ok_push; assumption) | exact cellV_int _ _ | exact cellV_bool _ | omega) only [go_sem, ↓reduceIte, Nat.reduceEqDiff, Nat.reduceAdd, Int.reduceToNat, he, hq1, hq2]
        refine Wk.loops (fun m e g2 lo2 => g.next ≤ lo2 ∧ Kept g g2 ∧ g.next < g2.next ∧ ∃ c : Nat, (c : Int) + m = L.getD i 0 ∧ (ev e (.s 14) = s ∧ ev e (.s 15) = .int .i64 L.length ∧ ev e (.s 16) = .int .i64 i ∧ ev e (.s 3) = .slice (some ⟨g.next, 0, none⟩) (head L) (head L) ∧ ev e (.s 20) = .int .i64 (L.getD i 0) ∧ ev e (.s 21) = .int .i64 c) ∧ g2.get g.next = cellsOb (ints (rng (head L) (fun k => cnt (L.take i) k + if k < c then 1 else 0))) 3)
          (fun e g2 lo2 => g.next ≤ lo2 ∧ Kept g g2 ∧ g.next < g2.next ∧ (ev e (.s 14) = s ∧ ev e (.s 15) = .int .i64 L.length ∧ ev e (.s 16) = .int .i64 i ∧ ev e (.s 3) = .slice (some ⟨g.next, 0, none⟩) (head L) (head L)) ∧ g2.get g.next = cellsOb (ints (rng (head L) (fun c => cnt (L.take (i + 1)) c))) 3) (n := (L.getD i 0).toNat) ?_ ?_ ?_
        · refine ⟨hlo, hk, hn, 0, by omega, (by simp +decide (disch := first | assumption | (apply GH.ok_push; assumption) | exact cellV_int _ _ | exact cellV_bool _ | omega) only [go_sem, ↓reduceIte, Nat.reduceEqDiff, Nat.reduceAdd, Int.reduceToNat, he]; first | done | exact rfl), ?_⟩
          rw [hget]
          congr 2
          exact rng_congr fun k hk => by simp
        · rintro e g2 lo2 - - ⟨hlo2, hk2, hn2, he, hget2⟩
          simp +decide (disch := first | assumption | (apply GH.ok_push; assumption) | exact cellV_int _ _ | exact cellV_bool _ | omega) only [go_sem, ↓reduceIte, Nat.reduceEqDiff, Nat.reduceAdd, Int.reduceToNat, he]
          exact ih (m - 1) _ _ _ (by omega) ⟨hlo2, hk2, hn2, i + 1, by omega, (by simp +decide (disch := first | assumption | (apply GH.ok_push; assumption) | exact cellV_int _ _ | exact cellV_bool _ | omega) only [go_sem, ↓reduceIte, Nat.reduceEqDiff, Nat.reduceAdd, Int.reduceToNat, he]; first | done | exact rfl), hget2⟩
        · rintro m2 e g2 lo2 ho2 hl2 ih2 out2 ⟨hlo2, hk2, hn2, c, hc, he, hget2⟩
          by_cases c1 : (c : Int) < L.getD i 0
          · have hcl : c < head L := by omega
            have hia := iaddrS_at (j := g.next) (n := head L) (c := head L) (m := c) (x := (c : Int)) rfl hcl
            have hgc : (ints (rng (head L) (fun k => cnt (L.take i) k + if k < c then 1 else 0)))[c]? = some (.int .i64 (cnt (L.take i) c)) := by
              rw [ints_get (by rw [rng_len]; exact hcl), rng_get _ hcl]; simp
            have hcb := cnt_take L i c
            have hlen : (ints (rng (head L) (fun k => cnt (L.take i) k + if k < c then 1 else 0))).length = head L := by rw [ints_len, rng_len]
            simp +decide (disch := first | assumption | (apply GH.ok_push; assumption) | exact cellV_int _ _ | exact cellV_bool _ | omega) only [go_sem, ↓reduceIte, Nat.reduceEqDiff, Nat.reduceAdd, Int.reduceToNat, he, hia, hget2, hgc, hlen]
            have hw := Wrote.set (o := cellsOb (splice c (ints (rng (head L) (fun k => cnt (L.take i) k + if k < c then 1 else 0))) [.int .i64 (cnt (L.take i) c + 1)]) 3) hget2 Nat.one_ne_zero ho2
            refine ih2 (m2 - 1) _ _ _ (by omega) ⟨by omega, hw.kept hk2 (Nat.le_refl _), hn2, c + 1, by omega, (by simp +decide (disch := first | assumption | (apply GH.ok_push; assumption) | exact cellV_int _ _ | exact cellV_bool _ | omega) only [go_sem, ↓reduceIte, Nat.reduceEqDiff, Nat.reduceAdd, Int.reduceToNat, he]; first | done | exact rfl), ?_⟩
            rw [hw.get, splice_set _ _ _ (by rw [hlen]; exact hcl), ints_set, rng_set]
            congr 2
            refine rng_congr fun k hk => ?_
            by_cases hkc : k = c
            · subst hkc; simp
            · rw [if_neg hkc]
              by_cases hkl : k < c
              · rw [if_pos hkl, if_pos (by omega)]
              · rw [if_neg hkl, if_neg (by omega)]
          · simp +decide (disch := first | assumption | (apply GH.ok_push; assumption) | exact cellV_int _ _ | exact cellV_bool _ | omega) only [go_sem, ↓reduceIte, Nat.reduceEqDiff, Nat.reduceAdd, Int.reduceToNat, he]
            refine out2 _ _ _ ⟨hlo2, hk2, hn2, (by simp +decide (disch := first | assumption | (apply GH.ok_push; assumption) | exact cellV_int _ _ | exact cellV_bool _ | omega) only [go_sem, ↓reduceIte, Nat.reduceEqDiff, Nat.reduceAdd, Int.reduceToNat, he]; first | done | exact rfl), ?_⟩
            rw [hget2]
            congr 2
            refine rng_congr fun k hk => ?_
            rw [cnt_snoc L i ci]
            by_cases hkl : k < c
            · rw [if_pos hkl, if_pos (by omega)]
            · rw [if_neg hkl, if_neg (by omega)]
      · simp +decide (disch := first | assumption | (apply GH.ok_push; assumption) | exact cellV_int _ _ | exact cellV_bool _ | omega) only [go_sem, ↓reduceIte, Nat.reduceEqDiff, Nat.reduceAdd, Int.reduceToNat, he]
        refine out _ _ _ ⟨hlo, hn, (by simp +decide (disch := first | assumption | (apply GH.ok_push; assumption) | exact cellV_int _ _ | exact cellV_bool _ | omega) only [go_sem, ↓reduceIte, Nat.reduceEqDiff, Nat.reduceAdd, Int.reduceToNat, he]; first | done | exact rfl), ?_⟩
        rw [hget, List.take_of_length_le (by omega)]; rfl
  · have hnil : L = [] := List.eq_nil_of_length_eq_zero (by omega)
    have h0 : (L.length : Int) = 0 := by omega
    simp +decide (disch := first | assumption | (apply GH.ok_push; assumption) | exact cellV_int _ _ | exact cellV_bool _ | omega) only [go_sem, ↓reduceIte, Nat.reduceEqDiff, Nat.reduceAdd, Int.reduceToNat, hl]
    intro hx
    refine ⟨Nat.le_refl _, ?_⟩
    rw [hnil]
    exact SlR.nil
end Go.Proofs.Ytieliilnnfjijaa
set_option maxRecDepth 100000
set_option maxHeartbeats 4000000
set_option linter.unusedSimpArgs false
set_option linter.unusedVariables false
namespace Go.Proofs.Ytieliilnnfjijaa
open Go.Ds
/-! ## Beads -/
def beadsR (L : List Int) (n : Nat) : List Int := rng n (fun r => L.getD r 0 + n - 1 - r)
theorem beadsR_len (L : List Int) (n : Nat) : (beadsR L n).length = n := rng_len _ _
theorem Fits.getD {L : List Int} (h : Fits L) (i : Nat) : -1000000 ≤ L.getD i 0 ∧ L.getD i 0 ≤ 1000000 := by
  by_cases c : i < L.length
  · exact h.2 _ (mem_getD c)
  · rw [List.getD_eq_getElem?_getD, List.getElem?_eq_none (by omega)]; decide
theorem refBeads_rets {X : Caller} (hX : Xok X) (L : List Int) (hf : Fits L) (s : Value) (g : GH) (hs : SlR g s (ints L)) :
    Rets Try.prog X 49 [s] g (fun v g' lo => g.next ≤ lo ∧ SlR g' v (ints (beadsR L L.length))) := by
  refine Rets.run hX.pres p49 (hX.free 49 (by decide) _ _) rfl fun ho => ?_
  have hl := hs.len
  rw [ints_len] at hl
  have hf0 := hf.1
  simp +decide (disch := first | assumption | (apply GH.ok_push; assumption) | exact cellV_int _ _ | exact cellV_bool _ | omega) only [go_sem, ↓reduceIte, Nat.reduceEqDiff, Nat.reduceAdd, Int.reduceToNat, hl]
  refine Wk.loops (fun m e g' lo => g.next ≤ lo ∧ Kept g g' ∧ ∃ i : Nat, i + m = L.length ∧ (ev e (.s 0) = s ∧ ev e (.s 4) = .int .i64 i) ∧ ∃ o, ev e (.s 3) = o ∧ Own g' o (ints (rng i (fun r => L.getD r 0 + L.length - 1 - r))) 3 g.next)
    (fun e g' lo => g.next ≤ lo ∧ ∃ o, ev e (.s 3) = o ∧ Own g' o (ints (beadsR L L.length)) 3 g.next) (n := L.length) ?_ ?_ ?_
  · exact ⟨Nat.le_refl _, Kept.refl _, 0, by omega, (by simp +decide (disch := first | assumption | (apply GH.ok_push; assumption) | exact cellV_int _ _ | exact cellV_bool _ | omega) only [go_sem, ↓reduceIte, Nat.reduceEqDiff, Nat.reduceAdd, Int.reduceToNat]; first | done | exact rfl), .slice none 0 0, (by simp +decide (disch := first | assumption | (apply GH.ok_push; assumption) | exact cellV_int _ _ | exact cellV_bool _ | omega) only [go_sem, ↓reduceIte, Nat.reduceEqDiff, Nat.reduceAdd, Int.reduceToNat]; first | done | exact rfl), Own.nil⟩
  · rintro e g' lo - - ⟨hlo, o, h3, hown⟩
    simp +decide (disch := first | assumption | (apply GH.ok_push; assumption) | exact cellV_int _ _ | exact cellV_bool _ | omega) only [go_sem, ↓reduceIte, Nat.reduceEqDiff, Nat.reduceAdd, Int.reduceToNat, h3]
    exact fun hx => ⟨hlo, hown.read⟩
  · rintro m e g' lo ho' hl' ih out ⟨hlo, hk, i, hi, he, o, h3, hown⟩
    by_cases c : i < L.length
    · obtain ⟨p, hp1, hp2⟩ := (hs.kept hk).at (ints_get (D := L) (i := i) c)
      have hp1 := hp1 (i : Int) rfl
      have hb := hf.getD i
      simp +decide (disch := first | assumption | (apply GH.ok_push; assumption) | exact cellV_int _ _ | exact cellV_bool _ | omega) only [go_sem, ↓reduceIte, Nat.reduceEqDiff, Nat.reduceAdd, Int.reduceToNat, he, h3, hl, hp1, hp2]
      refine AppD.own (hown.push ho' _) (SlR.one ho' _ _) (by simp) rfl (by simp [ints_len, rng_len]; omega) (by have := hk.next; simp [GH.push]; omega) hlo (GH.ok_push ho') (fun s' g2 lo2 sp wr hgr => ?_)
      simp +decide (disch := first | assumption | (apply GH.ok_push; assumption) | exact cellV_int _ _ | exact cellV_bool _ | omega) only [go_sem, ↓reduceIte, Nat.reduceEqDiff, Nat.reduceAdd, Int.reduceToNat, he]
      refine ih (m - 1) _ _ _ (by omega) ⟨hgr.low, (hk.push ho' _).grew hgr (Nat.le_refl _), i + 1, by omega, (by simp +decide (disch := first | assumption | (apply GH.ok_push; assumption) | exact cellV_int _ _ | exact cellV_bool _ | omega) only [go_sem, ↓reduceIte, Nat.reduceEqDiff, Nat.reduceAdd, Int.reduceToNat, he]; first | done | exact rfl), s', (by simp +decide (disch := first | assumption | (apply GH.ok_push; assumption) | exact cellV_int _ _ | exact cellV_bool _ | omega) only [go_sem, ↓reduceIte, Nat.reduceEqDiff, Nat.reduceAdd, Int.reduceToNat]; first | done | exact rfl), ?_⟩
      rw [rng_succ, ints_app]
      exact hgr.own
    · simp +decide (disch := first | assumption | (apply GH.ok_push; assumption) | exact cellV_int _ _ | exact cellV_bool _ | omega) only [go_sem, ↓reduceIte, Nat.reduceEqDiff, Nat.reduceAdd, Int.reduceToNat, he, h3, hl]
      refine out _ _ _ ⟨hlo, o, (by simp +decide (disch := first | assumption | (apply GH.ok_push; assumption) | exact cellV_int _ _ | exact cellV_bool _ | omega) only [go_sem, ↓reduceIte, Nat.reduceEqDiff, Nat.reduceAdd, Int.reduceToNat, h3]; first | done | exact rfl), ?_⟩
      rw [show i = L.length by omega] at hown; exact hown
theorem zeros_after (L : List Int) (n : Nat) (h : L.length ≤ n) : ints L ++ (ints (rng n fun _ => 0)).drop L.length = ints (rng n (fun r => L.getD r 0)) := by
  apply List.ext_getElem?
  intro i
  by_cases c : i < L.length
  · rw [List.getElem?_append_left (by rw [ints_len]; exact c), ints_get c, ints_get (by rw [rng_len]; omega), rng_get _ (by omega)]
  · rw [List.getElem?_append_right (by rw [ints_len]; omega), ints_len, List.getElem?_drop, show L.length + (i - L.length) = i by omega]
    by_cases d : i < n
    · rw [ints_get (by rw [rng_len]; omega), ints_get (by rw [rng_len]; omega), rng_get _ d, rng_get _ d]
      rw [List.getD_eq_getElem?_getD, List.getElem?_eq_none (by omega)]; rfl
    · rw [List.getElem?_eq_none (by rw [ints_len, rng_len]; omega), List.getElem?_eq_none (by rw [ints_len, rng_len]; omega)]
theorem beadsAt_rets {X : Caller} (hX : Xok X) (L : List Int) (hf : Fits L) (n : Nat) (hn : L.length ≤ n) (hn2 : n ≤ 1000000) (s : Value) (g : GH) (hs : SlR g s (ints L)) :
    Rets Try.prog X 48 [s, .int .i64 n] g (fun v g' lo => g.next ≤ lo ∧ v = .slice (some ⟨g.next, 0, none⟩) n n ∧ SlR g' v (ints (beadsR L n))) := by
  refine Rets.run hX.pres p48 (hX.free 48 (by decide) _ _) rfl fun ho => ?_
  simp +decide (disch := first | assumption | (apply GH.ok_push; assumption) | exact cellV_int _ _ | exact cellV_bool _ | omega) only [go_sem, ↓reduceIte, Nat.reduceEqDiff, Nat.reduceAdd, Int.reduceToNat]
  refine Wk.mkslice (n := n) (c := n) (by simp +decide (disch := first | assumption | (apply GH.ok_push; assumption) | exact cellV_int _ _ | exact cellV_bool _ | omega) only [go_sem, ↓reduceIte, Nat.reduceEqDiff, Nat.reduceAdd, Int.reduceToNat]; first | done | exact rfl) (by simp +decide (disch := first | assumption | (apply GH.ok_push; assumption) | exact cellV_int _ _ | exact cellV_bool _ | omega) only [go_sem, ↓reduceIte, Nat.reduceEqDiff, Nat.reduceAdd, Int.reduceToNat]; first | done | exact rfl) (Nat.le_refl _) (by omega) ?_
  simp +decide (disch := first | assumption | (apply GH.ok_push; assumption) | exact cellV_int _ _ | exact cellV_bool _ | omega) only [go_sem, ↓reduceIte, Nat.reduceEqDiff, Nat.reduceAdd, Int.reduceToNat]
  have hs1 := hs.push ho (cellsOb (repeatN [Value.int .i64 0] n) 3)
  refine Wk.cpy (j := g.next) (n := n) (c := n) (cells := ints (rng n fun _ => 0)) (new := ints L) (t := 3) (sv := s) (by simp +decide (disch := first | assumption | (apply GH.ok_push; assumption) | exact cellV_int _ _ | exact cellV_bool _ | omega) only [go_sem, ↓reduceIte, Nat.reduceEqDiff, Nat.reduceAdd, Int.reduceToNat]; first | done | exact rfl) (by simp +decide (disch := first | assumption | (apply GH.ok_push; assumption) | exact cellV_int _ _ | exact cellV_bool _ | omega) only [go_sem, ↓reduceIte, Nat.reduceEqDiff, Nat.reduceAdd, Int.reduceToNat]; first | done | exact rfl) hs1 (by rw [GH.get_push ho, if_pos rfl, repeat_rng]) (by rw [ints_len, rng_len]; omega) (Nat.lt_succ_self _) (ints_cell _) (by rw [ints_len]; exact hn) (GH.ok_push ho) ?_
  intro G lo sp wr hw hlo
  rw [ints_len, zeros_after L n hn] at hw
  have hkG := hw.kept ((Kept.refl g).push ho _) (Nat.le_refl _)
  have hnx : g.next < G.next := by rw [hw.next]; exact Nat.lt_succ_self _
  have hget := hw.get
  simp +decide (disch := first | assumption | (apply GH.ok_push; assumption) | exact cellV_int _ _ | exact cellV_bool _ | omega) only [go_sem, ↓reduceIte, Nat.reduceEqDiff, Nat.reduceAdd, Int.reduceToNat]
  refine Wk.loops (fun m e g' lo => g.next ≤ lo ∧ Kept g g' ∧ g.next < g'.next ∧ ∃ i : Nat, i + m = n ∧ (ev e (.s 1) = .int .i64 n ∧ ev e (.s 5) = .slice (some ⟨g.next, 0, none⟩) n n ∧ ev e (.s 13) = .int .i64 n ∧ ev e (.s 14) = .int .i64 i) ∧ g'.get g.next = cellsOb (ints (rng n (fun r => L.getD r 0 + if r < i then (n : Int) - 1 - r else 0))) 3)
    (fun e g' lo => g.next ≤ lo ∧ g.next < g'.next ∧ ev e (.s 5) = .slice (some ⟨g.next, 0, none⟩) n n ∧ g'.get g.next = cellsOb (ints (beadsR L n)) 3) (n := n) ?_ ?_ ?_
  · refine ⟨by omega, hkG, hnx, 0, by omega, (by simp +decide (disch := first | assumption | (apply GH.ok_push; assumption) | exact cellV_int _ _ | exact cellV_bool _ | omega) only [go_sem, ↓reduceIte, Nat.reduceEqDiff, Nat.reduceAdd, Int.reduceToNat, lenL_slice]; first | done | exact rfl), ?_⟩
    rw [hget]
    congr 2
    exact rng_congr fun k hk => by simp
  · rintro e g' lo - - ⟨hlo, hn, he, hget⟩
    simp +decide (disch := first | assumption | (apply GH.ok_push; assumption) | exact cellV_int _ _ | exact cellV_bool _ | omega) only [go_sem, ↓reduceIte, Nat.reduceEqDiff, Nat.reduceAdd, Int.reduceToNat, he]
    exact fun hx => ⟨hlo, rfl, SlR.whole hget hn (by rw [ints_len, beadsR_len])⟩
  · rintro m e g' lo ho' hl' ih out ⟨hlo, hk, hnx, i, hi, he, hget⟩
    by_cases c : i < n
    · have hia := iaddrS_at (j := g.next) (n := n) (c := n) (m := i) (x := (i : Int)) rfl c
      have hgc : (ints (rng n (fun r => L.getD r 0 + if r < i then (n : Int) - 1 - r else 0)))[i]? = some (.int .i64 (L.getD i 0)) := by
        rw [ints_get (by rw [rng_len]; exact c), rng_get _ c]; simp
      have hlen : (ints (rng n (fun r => L.getD r 0 + if r < i then (n : Int) - 1 - r else 0))).length = n := by rw [ints_len, rng_len]
      have hb := hf.getD i
      simp +decide (disch := first | assumption | (apply GH.ok_push; assumption) | exact cellV_int _ _ | exact cellV_bool _ | omega) only [go_sem, ↓reduceIte, Nat.reduceEqDiff, Nat.reduceAdd, Int.reduceToNat, he, hia, hget, hgc, hlen]
      have hw := Wrote.set (o := cellsOb (splice i (ints (rng n (fun r => L.getD r 0 + if r < i then (n : Int) - 1 - r else 0))) [.int .i64 (L.getD i 0 + ((n : Int) - 1 - i))]) 3) hget Nat.one_ne_zero ho'
      refine ih (m - 1) _ _ _ (by omega) ⟨by omega, hw.kept hk (Nat.le_refl _), hnx, i + 1, by omega, (by simp +decide (disch := first | assumption | (apply GH.ok_push; assumption) | exact cellV_int _ _ | exact cellV_bool _ | omega) only [go_sem, ↓reduceIte, Nat.reduceEqDiff, Nat.reduceAdd, Int.reduceToNat, he]; first | done | exact rfl), ?_⟩
      rw [hw.get, splice_set _ _ _ (by rw [hlen]; exact c), ints_set, rng_set]
      congr 2
      refine rng_congr fun k hk => ?_
      by_cases hkc : k = i
      · subst hkc; simp
      · rw [if_neg hkc]
        by_cases hkl : k < i
        · rw [if_pos hkl, if_pos (by omega)]
        · rw [if_neg hkl, if_neg (by omega)]
    · simp +decide (disch := first | assumption | (apply GH.ok_push; assumption) | exact cellV_int _ _ | exact cellV_bool _ | omega) only [go_sem, ↓reduceIte, Nat.reduceEqDiff, Nat.reduceAdd, Int.reduceToNat, he]
      refine out _ _ _ ⟨hlo, hnx, (by simp +decide (disch := first | assumption | (apply GH.ok_push; assumption) | exact cellV_int _ _ | exact cellV_bool _ | omega) only [go_sem, ↓reduceIte, Nat.reduceEqDiff, Nat.reduceAdd, Int.reduceToNat, he]; first | done | exact rfl), ?_⟩
      rw [hget]
      congr 2
      refine rng_congr fun k hk => ?_
      rw [if_pos (by omega)]; omega

theorem beads_rets {X : Caller} (hX : Xok X) (L : List Int) (hf : Fits L) (n : Nat) (hn : L.length ≤ n) (hn2 : n ≤ 1000000) (s : Value) (g : GH) (hs : SlR g s (ints L)) :
    Rets Try.prog X 48 [s, .int .i64 n] g (fun v g' lo => g.next ≤ lo ∧ SlR g' v (ints (beadsR L n))) :=
  (beadsAt_rets hX L hf n hn hn2 s g hs).mono fun v g' lo _ h => ⟨h.1, h.2.2⟩
/-! ## Hooks -/
def hookV (L : List Int) (r c : Nat) : Int := L.getD r 0 - c + cnt L c - r - 1
def hookRow (L : List Int) (r : Nat) : List Int := rng (L.getD r 0).toNat (hookV L r)
def hooksL (L : List Int) : List (List Int) := (List.range L.length).map (hookRow L)
theorem hooksL_len (L : List Int) : (hooksL L).length = L.length := by simp [hooksL]
theorem hooksL_get {L : List Int} {r : Nat} (h : r < L.length) : (hooksL L)[r]? = some (hookRow L r) := by simp [hooksL, h]
theorem colsL_get {L : List Int} {c : Nat} (h : c < head L) : (ints (colsL L))[c]? = some (.int .i64 (cnt L c)) := by
  rw [ints_get (by rw [colsL, rng_len]; exact h), colsL, rng_get _ h]
theorem snoc_vals {g : GH} {vs : List Value} {F : Nat → List Int} {r : Nat} {v : Value} (hlen : vs.length = r) (h : ∀ k u, vs[k]? = some u → SlR g u (ints (F k))) (hv : SlR g v (ints (F r))) : ∀ k u, (vs ++ [v])[k]? = some u → SlR g u (ints (F k)) := by
  intro k u hu
  by_cases c : k < r
  · rw [List.getElem?_append_left (by omega)] at hu
    exact h k u hu
  · rw [List.getElem?_append_right (by omega), hlen] at hu
    have hk : k = r := by
      have := (List.getElem?_eq_some_iff.1 hu).1
      simp at this; omega
    subst hk
    simp at hu
    subst hu
    exact hv
theorem refLengths_rets {X : Caller} (hX : Xok X) (L : List Int) (hL : L.length ≤ 1000) (hd : desc 40 L = true) (s : Value) (g : GH) (hs : SlR g s (ints L)) :
    Rets Try.prog X 47 [s] g (fun v g' lo => g.next ≤ lo ∧ Sl2 g' v (hooksL L)) := by
  refine Rets.run hX.pres p47 (hX.free 47 (by decide) _ _) rfl fun ho => ?_
  have hl := hs.len
  rw [ints_len] at hl
  have hh := head_le hd
  simp +decide (disch := first | assumption | (apply GH.ok_push; assumption) | exact cellV_int _ _ | exact cellV_bool _ | omega) only [go_sem, ↓reduceIte, Nat.reduceEqDiff, Nat.reduceAdd, Int.reduceToNat, hl]
  refine CallD.calm (refColumns_rets hX L hL hd s g hs) ?_
  rintro v G hx hcol
  have hoG := hx.ok ho
  have hkG := hx.kept
  simp +decide (disch := first | assumption | (apply GH.ok_push; assumption) | exact cellV_int _ _ | exact cellV_bool _ | omega) only [go_sem, ↓reduceIte, Nat.reduceEqDiff, Nat.reduceAdd, Int.reduceToNat]
  refine Wk.loops (fun m e g' lo => g.next ≤ lo ∧ Kept G g' ∧ ∃ i : Nat, i + m = L.length ∧ (ev e (.s 0) = s ∧ ev e (.s 3) = v ∧ ev e (.s 5) = .int .i64 i) ∧ ∃ o vs, ev e (.s 4) = o ∧ Own g' o vs 22 G.next ∧ vs.length = i ∧ ∀ k u, vs[k]? = some u → SlR g' u (ints (hookRow L k)))
    (fun e g' lo => g.next ≤ lo ∧ ∃ o, ev e (.s 4) = o ∧ Sl2 g' o (hooksL L)) (n := L.length) ?_ ?_ ?_
  · exact ⟨Nat.le_refl _, Kept.refl _, 0, by omega, (by simp +decide (disch := first | assumption | (apply GH.ok_push; assumption) | exact cellV_int _ _ | exact cellV_bool _ | omega) only [go_sem, ↓reduceIte, Nat.reduceEqDiff, Nat.reduceAdd, Int.reduceToNat]; first | done | exact rfl), .slice none 0 0, [], (by simp +decide (disch := first | assumption | (apply GH.ok_push; assumption) | exact cellV_int _ _ | exact cellV_bool _ | omega) only [go_sem, ↓reduceIte, Nat.reduceEqDiff, Nat.reduceAdd, Int.reduceToNat]; first | done | exact rfl), Own.nil, rfl, fun k u h => by simp at h⟩
  · rintro e g' lo - - ⟨hlo, o, h3, hown⟩
    simp +decide (disch := first | assumption | (apply GH.ok_push; assumption) | exact cellV_int _ _ | exact cellV_bool _ | omega) only [go_sem, ↓reduceIte, Nat.reduceEqDiff, Nat.reduceAdd, Int.reduceToNat, h3]
    exact fun hx => ⟨hlo, hown⟩
  · rintro m e g' lo ho' hl' ih out ⟨hlo, hk, i, hi, he, o, vs, h4, hown, hvl, hvs⟩
    have hs' := hs.kept (hkG.trans hk)
    have hcol' := hcol.kept hk
    have hgn := hkG.next
    have hgn2 := hk.next
    by_cases ci : i < L.length
    · obtain ⟨j1, o1, hj1, hp1, hp2⟩ := hs'.ptr (ints_get (D := L) (i := i) ci)
      have hp1 := hp1 (i : Int) rfl
      have hrow := desc_getD hd ci
      have hrh := desc_head hd ci
      simp +decide (disch := first | assumption | (apply GH.ok_push; assumption) | exact cellV_int _ _ | exact cellV_bool _ | omega) only [go_sem, ↓reduceIte, Nat.reduceEqDiff, Nat.reduceAdd, Int.reduceToNat, he, hl]
      refine Wk.loops (fun m e g2 lo2 => g.next ≤ lo2 ∧ Kept g' g2 ∧ ∃ c : Nat, (c : Int) + m = L.getD i 0 ∧ (ev e (.s 0) = s ∧ ev e (.s 3) = v ∧ ev e (.s 4) = o ∧ ev e (.s 5) = .int .i64 i ∧ ev e (.s 7) = .int .i64 c) ∧ ∃ u, ev e (.s 6) = u ∧ Own g2 u (ints (rng c (hookV L i))) 3 g'.next)
        (fun e g2 lo2 => g.next ≤ lo2 ∧ Kept g' g2 ∧ (ev e (.s 0) = s ∧ ev e (.s 3) = v ∧ ev e (.s 4) = o ∧ ev e (.s 5) = .int .i64 i) ∧ ∃ u, ev e (.s 6) = u ∧ SlR g2 u (ints (hookRow L i))) (n := (L.getD i 0).toNat) ?_ ?_ ?_
      · exact ⟨hlo, Kept.refl _, 0, by omega, (by simp +decide (disch := first | assumption | (apply GH.ok_push; assumption) | exact cellV_int _ _ | exact cellV_bool _ | omega) only [go_sem, ↓reduceIte, Nat.reduceEqDiff, Nat.reduceAdd, Int.reduceToNat, he, h4]; first | done | exact rfl), .slice none 0 0, (by simp +decide (disch := first | assumption | (apply GH.ok_push; assumption) | exact cellV_int _ _ | exact cellV_bool _ | omega) only [go_sem, ↓reduceIte, Nat.reduceEqDiff, Nat.reduceAdd, Int.reduceToNat]; first | done | exact rfl), Own.nil⟩
      · rintro e g2 lo2 ho2 - ⟨hlo2, hk2, he, u, h6, hu⟩
        have hcell := hu.cell
        have hn2 := hk2.next
        have hkp := hk2.push ho2 (cellsOb [u] 22)
        simp +decide (disch := first | assumption | (apply GH.ok_push; assumption) | exact cellV_int _ _ | exact cellV_bool _ | omega) only [go_sem, ↓reduceIte, Nat.reduceEqDiff, Nat.reduceAdd, Int.reduceToNat, he, h6, hcell]
        refine AppD.own2 (hown.kept hkp) (SlR.one ho2 _ _) (by simp) (by simp [hcell]) (by simp [hvl]; omega) (by simp [GH.push]; omega) hlo2 hgn (GH.ok_push ho2) (fun s' g3 lo3 sp wr hgr hlo3 => ?_)
        simp +decide (disch := first | assumption | (apply GH.ok_push; assumption) | exact cellV_int _ _ | exact cellV_bool _ | omega) only [go_sem, ↓reduceIte, Nat.reduceEqDiff, Nat.reduceAdd, Int.reduceToNat, he]
        refine ih (m - 1) _ _ _ (by omega) ⟨hlo3, (hk.trans hkp).grew2 hgr (Nat.le_refl _), i + 1, by omega, (by simp +decide (disch := first | assumption | (apply GH.ok_push; assumption) | exact cellV_int _ _ | exact cellV_bool _ | omega) only [go_sem, ↓reduceIte, Nat.reduceEqDiff, Nat.reduceAdd, Int.reduceToNat, he]; first | done | exact rfl), s', vs ++ [u], (by simp +decide (disch := first | assumption | (apply GH.ok_push; assumption) | exact cellV_int _ _ | exact cellV_bool _ | omega) only [go_sem, ↓reduceIte, Nat.reduceEqDiff, Nat.reduceAdd, Int.reduceToNat]; first | done | exact rfl), hgr.own, by simp [hvl], ?_⟩
        refine snoc_vals hvl (fun k w hw => ?_) ?_
        · exact hgr.read _ _ ((hvs k w hw).kept hkp)
        · exact hgr.read _ _ (hu.push ho2 _)
      · rintro m2 e g2 lo2 ho2 hl2 ih2 out2 ⟨hlo2, hk2, c, hc, he, u, h6, hu⟩
        have hn2 := hk2.next
        by_cases cc : (c : Int) < L.getD i 0
        · obtain ⟨j2, o2, hj2, hq1, hq2⟩ := (hs'.kept hk2).ptr (ints_get (D := L) (i := i) ci)
          have hq1 := hq1 (i : Int) rfl
          obtain ⟨j3, o3, hj3, hr1, hr2⟩ := (hcol'.kept hk2).ptr (colsL_get (L := L) (c := c) (by omega))
          have hr1 := hr1 (c : Int) rfl
          have hcb := cnt_bnd L c
          have hkp := hk2.push ho2 (cellsOb [.int .i64 (hookV L i c)] 3)
          have hval : L.getD i 0 - c + cnt L c - i - 1 = hookV L i c := rfl
          simp +decide (disch := first | assumption | (apply GH.ok_push; assumption) | exact cellV_int _ _ | exact cellV_bool _ | omega) only [go_sem, ↓reduceIte, Nat.reduceEqDiff, Nat.reduceAdd, Int.reduceToNat, he, h6, hq1, hq2, hr1, hr2, hval]
          refine AppD.own2 (hu.push ho2 _) (SlR.one ho2 _ _) (by simp) rfl (by simp [ints_len, rng_len]; omega) (by simp [GH.push]; omega) hlo2 (by omega) (GH.ok_push ho2) (fun s' g3 lo3 sp wr hgr hlo3 => ?_)
          simp +decide (disch := first | assumption | (apply GH.ok_push; assumption) | exact cellV_int _ _ | exact cellV_bool _ | omega) only [go_sem, ↓reduceIte, Nat.reduceEqDiff, Nat.reduceAdd, Int.reduceToNat, he]
          refine ih2 (m2 - 1) _ _ _ (by omega) ⟨hlo3, hkp.grew2 hgr (Nat.le_refl _), c + 1, by omega, (by simp +decide (disch := first | assumption | (apply GH.ok_push; assumption) | exact cellV_int _ _ | exact cellV_bool _ | omega) only [go_sem, ↓reduceIte, Nat.reduceEqDiff, Nat.reduceAdd, Int.reduceToNat, he]; first | done | exact rfl), s', (by simp +decide (disch := first | assumption | (apply GH.ok_push; assumption) | exact cellV_int _ _ | exact cellV_bool _ | omega) only [go_sem, ↓reduceIte, Nat.reduceEqDiff, Nat.reduceAdd, Int.reduceToNat]; first | done | exact rfl), ?_⟩
          rw [rng_succ, ints_app]
          exact hgr.own
        · obtain ⟨j2, o2, hj2, hq1, hq2⟩ := (hs'.kept hk2).ptr (ints_get (D := L) (i := i) ci)
          have hq1 := hq1 (i : Int) rfl
          simp +decide (disch := first | assumption | (apply GH.ok_push; assumption) | exact cellV_int _ _ | exact cellV_bool _ | omega) only [go_sem, ↓reduceIte, Nat.reduceEqDiff, Nat.reduceAdd, Int.reduceToNat, he, h6, hq1, hq2]
          refine out2 _ _ _ ⟨hlo2, hk2, (by simp +decide (disch := first | assumption | (apply GH.ok_push; assumption) | exact cellV_int _ _ | exact cellV_bool _ | omega) only [go_sem, ↓reduceIte, Nat.reduceEqDiff, Nat.reduceAdd, Int.reduceToNat, he]; first | done | exact rfl), u, (by simp +decide (disch := first | assumption | (apply GH.ok_push; assumption) | exact cellV_int _ _ | exact cellV_bool _ | omega) only [go_sem, ↓reduceIte, Nat.reduceEqDiff, Nat.reduceAdd, Int.reduceToNat, h6]; first | done | exact rfl), ?_⟩
          rw [hookRow, show (L.getD i 0).toNat = c by omega]
          exact hu.read
    · simp +decide (disch := first | assumption | (apply GH.ok_push; assumption) | exact cellV_int _ _ | exact cellV_bool _ | omega) only [go_sem, ↓reduceIte, Nat.reduceEqDiff, Nat.reduceAdd, Int.reduceToNat, he, h4, hl]
      refine out _ _ _ ⟨hlo, o, (by simp +decide (disch := first | assumption | (apply GH.ok_push; assumption) | exact cellV_int _ _ | exact cellV_bool _ | omega) only [go_sem, ↓reduceIte, Nat.reduceEqDiff, Nat.reduceAdd, Int.reduceToNat, h4]; first | done | exact rfl), vs, hown.read, by rw [hooksL_len]; omega, ?_⟩
      intro k u M hu hM
      have hkl : k < L.length := by have := (List.getElem?_eq_some_iff.1 hM).1; rwa [hooksL_len] at this
      rw [hooksL_get hkl] at hM
      cases hM
      exact hvs k u hu
end Go.Proofs.Ytieliilnnfjijaa
set_option maxRecDepth 100000
set_option maxHeartbeats 4000000
set_option linter.unusedSimpArgs false
set_option linter.unusedVariables false
namespace Go.Proofs.Ytieliilnnfjijaa
open Go.Ds
def rowAt (L : List Int) (g : GH) (J : Nat) (vs : List Value) (k top : Nat) : Prop := ∃ jk n, vs[k]? = some (.slice (some ⟨jk, 0, none⟩) n n) ∧ n = (L.getD k 0).toNat ∧ J < jk ∧ jk < top ∧ g.get jk = cellsOb (ints (hookRow L k)) 3
theorem hooks_rets {X : Caller} (hX : Xok X) (L : List Int) (hL : L.length ≤ 1000) (hd : desc 40 L = true) (s : Value) (g : GH) (hs : SlR g s (ints L)) :
    Rets Try.prog X 46 [s] g (fun v g' lo => g.next ≤ lo ∧ Sl2 g' v (hooksL L)) := by
  refine Rets.run hX.pres p46 (hX.free 46 (by decide) _ _) rfl fun ho => ?_
  have hl := hs.len
  rw [ints_len] at hl
  have hh := head_le hd
  simp +decide (disch := first | assumption | (apply GH.ok_push; assumption) | exact cellV_int _ _ | exact cellV_bool _ | omega) only [go_sem, ↓reduceIte, Nat.reduceEqDiff, Nat.reduceAdd, Int.reduceToNat, hl]
  refine CallD.calm (columns_rets hX L hL hd s g hs) ?_
  rintro v G hx hcol
  have hoG := hx.ok ho
  have hkG := hx.kept
  have hgn := hkG.next
  simp +decide (disch := first | assumption | (apply GH.ok_push; assumption) | exact cellV_int _ _ | exact cellV_bool _ | omega) only [go_sem, ↓reduceIte, Nat.reduceEqDiff, Nat.reduceAdd, Int.reduceToNat, hl]
  refine Wk.mkslice (n := L.length) (c := L.length) (by simp +decide (disch := first | assumption | (apply GH.ok_push; assumption) | exact cellV_int _ _ | exact cellV_bool _ | omega) only [go_sem, ↓reduceIte, Nat.reduceEqDiff, Nat.reduceAdd, Int.reduceToNat]; first | done | exact rfl) (by simp +decide (disch := first | assumption | (apply GH.ok_push; assumption) | exact cellV_int _ _ | exact cellV_bool _ | omega) only [go_sem, ↓reduceIte, Nat.reduceEqDiff, Nat.reduceAdd, Int.reduceToNat]; first | done | exact rfl) (Nat.le_refl _) (by omega) ?_
  simp +decide (disch := first | assumption | (apply GH.ok_push; assumption) | exact cellV_int _ _ | exact cellV_bool _ | omega) only [go_sem, ↓reduceIte, Nat.reduceEqDiff, Nat.reduceAdd, Int.reduceToNat, hl]
  refine Wk.loops (fun m e g' lo => g.next ≤ lo ∧ Kept G g' ∧ G.next < g'.next ∧ ∃ i : Nat, i + m = L.length ∧ (ev e (.s 3) = v ∧ ev e (.s 4) = .slice (some ⟨G.next, 0, none⟩) L.length L.length ∧ ev e (.s 15) = s ∧ ev e (.s 16) = .int .i64 L.length ∧ ev e (.s 17) = .int .i64 i) ∧ ∃ vs, g'.get G.next = cellsOb vs 22 ∧ vs.length = L.length ∧ ∀ k, k < i → rowAt L g' G.next vs k g'.next)
    (fun e g' lo => g.next ≤ lo ∧ ∃ o, ev e (.s 4) = o ∧ Sl2 g' o (hooksL L)) (n := L.length) ?_ ?_ ?_
  · refine ⟨Nat.le_refl _, (Kept.refl G).push hoG _, Nat.lt_succ_self _, 0, by omega, (by simp +decide (disch := first | assumption | (apply GH.ok_push; assumption) | exact cellV_int _ _ | exact cellV_bool _ | omega) only [go_sem, ↓reduceIte, Nat.reduceEqDiff, Nat.reduceAdd, Int.reduceToNat]; first | done | exact rfl), List.replicate L.length (.slice none 0 0), ?_, by simp, fun k hk => by omega⟩
    rw [GH.get_push hoG, if_pos rfl, repeatN_replicate]
  · rintro e g' lo - - ⟨hlo, o, h3, hown⟩
    simp +decide (disch := first | assumption | (apply GH.ok_push; assumption) | exact cellV_int _ _ | exact cellV_bool _ | omega) only [go_sem, ↓reduceIte, Nat.reduceEqDiff, Nat.reduceAdd, Int.reduceToNat, h3]
    exact fun hx => ⟨hlo, hown⟩
  · rintro m e g' lo ho' hl' ih out ⟨hlo, hk, hnx, i, hi, he, vs, hget, hvl, hvs⟩
    have hs' := hs.kept (hkG.trans hk)
    have hcol' := hcol.kept hk
    by_cases ci : i < L.length
    · obtain ⟨j1, o1, hj1, hp1, hp2⟩ := hs'.ptr (ints_get (D := L) (i := i) ci)
      have hp1 := hp1 (i : Int) rfl
      have hrow := desc_getD hd ci
      have hrh := desc_head hd ci
      have hrn : ∃ n : Nat, L.getD i 0 = n ∧ (L.getD i 0).toNat = n := ⟨(L.getD i 0).toNat, by omega, rfl⟩
      obtain ⟨n, hn1, hn2⟩ := hrn
      rw [hn1] at hp2
      simp +decide (disch := first | assumption | (apply GH.ok_push; assumption) | exact cellV_int _ _ | exact cellV_bool _ | omega) only [go_sem, ↓reduceIte, Nat.reduceEqDiff, Nat.reduceAdd, Int.reduceToNat, he, hp1, hp2]
      refine Wk.mkslice (n := n) (c := n) (by simp +decide (disch := first | assumption | (apply GH.ok_push; assumption) | exact cellV_int _ _ | exact cellV_bool _ | omega) only [go_sem, ↓reduceIte, Nat.reduceEqDiff, Nat.reduceAdd, Int.reduceToNat]; first | done | exact rfl) (by simp +decide (disch := first | assumption | (apply GH.ok_push; assumption) | exact cellV_int _ _ | exact cellV_bool _ | omega) only [go_sem, ↓reduceIte, Nat.reduceEqDiff, Nat.reduceAdd, Int.reduceToNat]; first | done | exact rfl) (Nat.le_refl _) (by omega) ?_
      have hgp : (g'.push (cellsOb (repeatN [Value.int .i64 0] n) 3)).get G.next = cellsOb vs 22 := by rw [GH.get_push ho', if_neg (by omega)]; exact hget
      have hia := iaddrS_at (j := G.next) (n := L.length) (c := L.length) (m := i) (x := (i : Int)) rfl ci
      simp +decide (disch := first | assumption | (apply GH.ok_push; assumption) | exact cellV_int _ _ | exact cellV_bool _ | omega) only [go_sem, ↓reduceIte, Nat.reduceEqDiff, Nat.reduceAdd, Int.reduceToNat, he, hia, hgp, hvl]
      have hw := Wrote.set (o := cellsOb (splice i vs [.slice (some ⟨g'.next, 0, none⟩) n n]) 22) hgp Nat.one_ne_zero (GH.ok_push ho')
      rw [splice_set _ _ _ (by omega)] at hw ⊢
      have hk1 := hw.kept (hk.push ho' _) (Nat.le_refl _)
      have hnew := hw.others g'.next (by omega)
      rw [GH.get_push ho', if_pos rfl] at hnew
      have hnx1 : g'.next + 1 = ((g'.push (cellsOb (repeatN [Value.int .i64 0] n) 3)).set G.next (cellsOb (vs.set i (.slice (some ⟨g'.next, 0, none⟩) n n)) 22)).next := rfl
      refine Wk.loops (fun m e g2 lo2 => g.next ≤ lo2 ∧ Kept G g2 ∧ g2.next = g'.next + 1 ∧ ∃ c : Nat, c + m = n ∧ (ev e (.s 3) = v ∧ ev e (.s 4) = .slice (some ⟨G.next, 0, none⟩) L.length L.length ∧ ev e (.s 5) = .int .i64 i ∧ ev e (.s 6) = .int .i64 n ∧ ev e (.s 15) = s ∧ ev e (.s 16) = .int .i64 L.length ∧ ev e (.s 17) = .int .i64 i ∧ ev e (.s 27) = .int .i64 n ∧ ev e (.s 28) = .int .i64 c) ∧
            g2.get G.next = cellsOb (vs.set i (.slice (some ⟨g'.next, 0, none⟩) n n)) 22 ∧ g2.get g'.next = cellsOb (ints (rng n (fun k => if k < c then hookV L i k else 0))) 3 ∧ ∀ k, k < i → rowAt L g2 G.next vs k g'.next)
        (fun e g2 lo2 => g.next ≤ lo2 ∧ Kept G g2 ∧ g2.next = g'.next + 1 ∧ (ev e (.s 3) = v ∧ ev e (.s 4) = .slice (some ⟨G.next, 0, none⟩) L.length L.length ∧ ev e (.s 15) = s ∧ ev e (.s 16) = .int .i64 L.length ∧ ev e (.s 17) = .int .i64 i) ∧
            g2.get G.next = cellsOb (vs.set i (.slice (some ⟨g'.next, 0, none⟩) n n)) 22 ∧ g2.get g'.next = cellsOb (ints (hookRow L i)) 3 ∧ ∀ k, k < i → rowAt L g2 G.next vs k g'.next) (n := n) ?_ ?_ ?_
      · refine ⟨by omega, hk1, rfl, 0, by omega, (by simp +decide (disch := first | assumption | (apply GH.ok_push; assumption) | exact cellV_int _ _ | exact cellV_bool _ | omega) only [go_sem, ↓reduceIte, Nat.reduceEqDiff, Nat.reduceAdd, Int.reduceToNat, he]; first | done | exact rfl), hw.get, ?_, fun k hk => ?_⟩
        · rw [hnew, repeat_rng]; congr 2
        · obtain ⟨jk, n', q1, q2, q3, q4, q5⟩ := hvs k hk
          exact ⟨jk, n', q1, q2, q3, q4, by rw [hw.others jk (by omega), GH.get_push ho', if_neg (by omega)]; exact q5⟩
      · rintro e g2 lo2 ho2 - ⟨hlo2, hk2, hnx2, he, hgJ, hgR, hrs⟩
        simp +decide (disch := first | assumption | (apply GH.ok_push; assumption) | exact cellV_int _ _ | exact cellV_bool _ | omega) only [go_sem, ↓reduceIte, Nat.reduceEqDiff, Nat.reduceAdd, Int.reduceToNat, he]
        refine ih (m - 1) _ _ _ (by omega) ⟨hlo2, hk2, by omega, i + 1, by omega, (by simp +decide (disch := first | assumption | (apply GH.ok_push; assumption) | exact cellV_int _ _ | exact cellV_bool _ | omega) only [go_sem, ↓reduceIte, Nat.reduceEqDiff, Nat.reduceAdd, Int.reduceToNat, he]; first | done | exact rfl), _, hgJ, by simp [hvl], fun k hk => ?_⟩
        by_cases hki : k = i
        · subst hki
          exact ⟨g'.next, n, by rw [List.getElem?_set_self (by omega)], hn2.symm, by omega, by omega, hgR⟩
        · obtain ⟨jk, n', q1, q2, q3, q4, q5⟩ := hrs k (by omega)
          exact ⟨jk, n', by rw [List.getElem?_set_ne (Ne.symm hki)]; exact q1, q2, q3, by omega, q5⟩
      · rintro m2 e g2 lo2 ho2 hl2 ih2 out2 ⟨hlo2, hk2, hnx2, c, hc, he, hgJ, hgR, hrs⟩
        by_cases cc : c < n
        · have hia2 := iaddrS_at (j := g'.next) (n := n) (c := n) (m := c) (x := (c : Int)) rfl cc
          obtain ⟨j3, o3, hj3, hr1, hr2⟩ := (hcol.kept hk2).ptr (colsL_get (L := L) (c := c) (by omega))
          have hr1 := hr1 (c : Int) rfl
          have hcb := cnt_bnd L c
          have hlen : (ints (rng n (fun k => if k < c then hookV L i k else 0))).length = n := by rw [ints_len, rng_len]
          have hgi : (vs.set i (.slice (some ⟨g'.next, 0, none⟩) n n))[i]? = some (.slice (some ⟨g'.next, 0, none⟩) n n) := by rw [List.getElem?_set_self (by omega)]
          have hval : 1 + ((n : Int) - c - 1) + (cnt L c - i - 1) = hookV L i c := by unfold hookV; omega
          simp +decide (disch := first | assumption | (apply GH.ok_push; assumption) | exact cellV_int _ _ | exact cellV_bool _ | omega) only [go_sem, ↓reduceIte, Nat.reduceEqDiff, Nat.reduceAdd, Int.reduceToNat, he, hia, hia2, hgJ, hgi, hgR, hlen, hr1, hr2, hval]
          have hw := Wrote.set (o := cellsOb (splice c (ints (rng n (fun k => if k < c then hookV L i k else 0))) [.int .i64 (hookV L i c)]) 3) hgR Nat.one_ne_zero ho2
          refine ih2 (m2 - 1) _ _ _ (by omega) ⟨by omega, hw.kept hk2 (by omega), hnx2, c + 1, by omega, (by simp +decide (disch := first | assumption | (apply GH.ok_push; assumption) | exact cellV_int _ _ | exact cellV_bool _ | omega) only [go_sem, ↓reduceIte, Nat.reduceEqDiff, Nat.reduceAdd, Int.reduceToNat, he]; first | done | exact rfl), by rw [hw.others G.next (by omega)]; exact hgJ, ?_, fun k hk => ?_⟩
          · rw [hw.get, splice_set _ _ _ (by omega), ints_set, rng_set]
            congr 2
            refine rng_congr fun k hk => ?_
            by_cases hkc : k = c
            · subst hkc; simp
            · rw [if_neg hkc]
              by_cases hkl : k < c
              · rw [if_pos hkl, if_pos (by omega)]
              · rw [if_neg hkl, if_neg (by omega)]
          · obtain ⟨jk, n', q1, q2, q3, q4, q5⟩ := hrs k hk
            exact ⟨jk, n', q1, q2, q3, q4, by rw [hw.others jk (by omega)]; exact q5⟩
        · simp +decide (disch := first | assumption | (apply GH.ok_push; assumption) | exact cellV_int _ _ | exact cellV_bool _ | omega) only [go_sem, ↓reduceIte, Nat.reduceEqDiff, Nat.reduceAdd, Int.reduceToNat, he]
          refine out2 _ _ _ ⟨hlo2, hk2, hnx2, (by simp +decide (disch := first | assumption | (apply GH.ok_push; assumption) | exact cellV_int _ _ | exact cellV_bool _ | omega) only [go_sem, ↓reduceIte, Nat.reduceEqDiff, Nat.reduceAdd, Int.reduceToNat, he]; first | done | exact rfl), hgJ, ?_, hrs⟩
          rw [hgR, hookRow, hn2]
          congr 2
          exact rng_congr fun k hk => by rw [if_pos (by omega)]
    · simp +decide (disch := first | assumption | (apply GH.ok_push; assumption) | exact cellV_int _ _ | exact cellV_bool _ | omega) only [go_sem, ↓reduceIte, Nat.reduceEqDiff, Nat.reduceAdd, Int.reduceToNat, he]
      refine out _ _ _ ⟨hlo, _, (by simp +decide (disch := first | assumption | (apply GH.ok_push; assumption) | exact cellV_int _ _ | exact cellV_bool _ | omega) only [go_sem, ↓reduceIte, Nat.reduceEqDiff, Nat.reduceAdd, Int.reduceToNat, he]; first | done | exact rfl), vs, SlR.whole hget hnx hvl.symm, by rw [hooksL_len]; omega, ?_⟩
      intro k u M hu hM
      have hkl : k < L.length := by have := (List.getElem?_eq_some_iff.1 hM).1; rwa [hooksL_len] at this
      rw [hooksL_get hkl] at hM
      cases hM
      obtain ⟨jk, n', q1, q2, q3, q4, q5⟩ := hvs k (by omega)
      rw [hu] at q1
      cases q1
      exact SlR.whole q5 q4 (by rw [ints_len, hookRow, rng_len, q2])
end Go.Proofs.Ytieliilnnfjijaa
set_option maxRecDepth 100000
set_option maxHeartbeats 4000000
set_option linter.unusedSimpArgs false
set_option linter.unusedVariables false
namespace Go.Proofs.Ytieliilnnfjijaa
open Go.Ds
theorem shape_facts {L : List Int} (h : isShape L = true) : L.length ≤ 12 ∧ desc 40 L = true ∧ sumL L ≤ 40 := by
  simp only [isShape, Bool.and_eq_true, decide_eq_true_eq] at h
  exact ⟨h.1.1, h.1.2, h.2⟩
def hooksT (L : List Int) : List (List Int) × Int := if isShape L = true then (hooksL L, 0) else ([], 2)
def beadsT (L : List Int) : List Int × Int := if isShape L = true then (beadsR L L.length, 0) else ([], 2)
def turnedT (L : List Int) : List Int × Int := if isShape L = true then (if 12 < head L then ([], 8) else (colsL L, 0)) else ([], 2)
def Ret2 (g : GH) (v : Value) (r : List (List Int) × Int) : Prop := ∃ u, v = .tuple #[u, .int .i64 r.2] ∧ Sl2 g u r.1
def Ret1 (g : GH) (v : Value) (r : List Int × Int) : Prop := ∃ u, v = .tuple #[u, .int .i64 r.2] ∧ SlR g u (ints r.1)
section
variable {X : Caller} (hX : Xok X) (L : List Int) (hL : L.length < 1000000) (s : Value) (g : GH) (hs : SlR g s (ints L))
include hX hL hs
theorem hooksT_rets : Rets Try.prog X 19 [s] g (fun v g' lo => g.next ≤ lo ∧ Ret2 g' v (hooksT L)) := by
  refine Rets.run hX.pres p19 (hX.free 19 (by decide) _ _) rfl fun ho => ?_
  simp +decide (disch := first | assumption | (apply GH.ok_push; assumption) | exact cellV_int _ _ | exact cellV_bool _ | omega) only [go_sem, ↓reduceIte, Nat.reduceEqDiff, Nat.reduceAdd, Int.reduceToNat]
  refine CallD.calm (isShape_rets hX L hL s g hs) ?_
  rintro v G hx rfl
  have hn := hx.next
  by_cases c : isShape L = true
  · obtain ⟨c1, c2, c3⟩ := shape_facts c
    simp +decide (disch := first | assumption | (apply GH.ok_push; assumption) | exact cellV_int _ _ | exact cellV_bool _ | omega) only [go_sem, ↓reduceIte, Nat.reduceEqDiff, Nat.reduceAdd, Int.reduceToNat, c]
    refine CallD.calm (hooks_rets hX L (by omega) c2 s G (hs.ext hx)) ?_
    rintro v G2 hx2 h
    have hn2 := hx2.next
    simp +decide (disch := first | assumption | (apply GH.ok_push; assumption) | exact cellV_int _ _ | exact cellV_bool _ | omega) only [go_sem, ↓reduceIte, Nat.reduceEqDiff, Nat.reduceAdd, Int.reduceToNat]
    intro hx0
    exact ⟨by omega, v, by rw [hooksT, if_pos c], by rw [hooksT, if_pos c]; exact h⟩
  · have c' : isShape L = false := by simpa using c
    simp +decide (disch := first | assumption | (apply GH.ok_push; assumption) | exact cellV_int _ _ | exact cellV_bool _ | omega) only [go_sem, ↓reduceIte, Nat.reduceEqDiff, Nat.reduceAdd, Int.reduceToNat, c']
    intro hx0
    exact ⟨by omega, _, by rw [hooksT, if_neg c], by rw [hooksT, if_neg c]; exact Sl2.nil⟩
theorem refHooksT_rets : Rets Try.prog X 20 [s] g (fun v g' lo => g.next ≤ lo ∧ Ret2 g' v (hooksT L)) := by
  refine Rets.run hX.pres p20 (hX.free 20 (by decide) _ _) rfl fun ho => ?_
  simp +decide (disch := first | assumption | (apply GH.ok_push; assumption) | exact cellV_int _ _ | exact cellV_bool _ | omega) only [go_sem, ↓reduceIte, Nat.reduceEqDiff, Nat.reduceAdd, Int.reduceToNat]
  refine CallD.calm (refIsShape_rets hX L hL s g hs) ?_
  rintro v G hx rfl
  have hn := hx.next
  by_cases c : isShape L = true
  · obtain ⟨c1, c2, c3⟩ := shape_facts c
    simp +decide (disch := first | assumption | (apply GH.ok_push; assumption) | exact cellV_int _ _ | exact cellV_bool _ | omega) only [go_sem, ↓reduceIte, Nat.reduceEqDiff, Nat.reduceAdd, Int.reduceToNat, c]
    refine CallD.calm (refLengths_rets hX L (by omega) c2 s G (hs.ext hx)) ?_
    rintro v G2 hx2 h
    have hn2 := hx2.next
    simp +decide (disch := first | assumption | (apply GH.ok_push; assumption) | exact cellV_int _ _ | exact cellV_bool _ | omega) only [go_sem, ↓reduceIte, Nat.reduceEqDiff, Nat.reduceAdd, Int.reduceToNat]
    intro hx0
    exact ⟨by omega, v, by rw [hooksT, if_pos c], by rw [hooksT, if_pos c]; exact h⟩
  · have c' : isShape L = false := by simpa using c
    simp +decide (disch := first | assumption | (apply GH.ok_push; assumption) | exact cellV_int _ _ | exact cellV_bool _ | omega) only [go_sem, ↓reduceIte, Nat.reduceEqDiff, Nat.reduceAdd, Int.reduceToNat, c']
    intro hx0
    exact ⟨by omega, _, by rw [hooksT, if_neg c], by rw [hooksT, if_neg c]; exact Sl2.nil⟩
theorem beadsT_rets : Rets Try.prog X 22 [s] g (fun v g' lo => g.next ≤ lo ∧ Ret1 g' v (beadsT L)) := by
  refine Rets.run hX.pres p22 (hX.free 22 (by decide) _ _) rfl fun ho => ?_
  have hl := hs.len
  rw [ints_len] at hl
  simp +decide (disch := first | assumption | (apply GH.ok_push; assumption) | exact cellV_int _ _ | exact cellV_bool _ | omega) only [go_sem, ↓reduceIte, Nat.reduceEqDiff, Nat.reduceAdd, Int.reduceToNat]
  refine CallD.calm (isShape_rets hX L hL s g hs) ?_
  rintro v G hx rfl
  have hn := hx.next
  by_cases c : isShape L = true
  · obtain ⟨c1, c2, c3⟩ := shape_facts c
    simp +decide (disch := first | assumption | (apply GH.ok_push; assumption) | exact cellV_int _ _ | exact cellV_bool _ | omega) only [go_sem, ↓reduceIte, Nat.reduceEqDiff, Nat.reduceAdd, Int.reduceToNat, c, hl]
    refine CallD.calm (beads_rets hX L (desc_fits c2 (by omega)) L.length (Nat.le_refl _) (by omega) s G (hs.ext hx)) ?_
    rintro v G2 hx2 h
    have hn2 := hx2.next
    simp +decide (disch := first | assumption | (apply GH.ok_push; assumption) | exact cellV_int _ _ | exact cellV_bool _ | omega) only [go_sem, ↓reduceIte, Nat.reduceEqDiff, Nat.reduceAdd, Int.reduceToNat]
    intro hx0
    exact ⟨by omega, v, by rw [beadsT, if_pos c], by rw [beadsT, if_pos c]; exact h⟩
  · have c' : isShape L = false := by simpa using c
    simp +decide (disch := first | assumption | (apply GH.ok_push; assumption) | exact cellV_int _ _ | exact cellV_bool _ | omega) only [go_sem, ↓reduceIte, Nat.reduceEqDiff, Nat.reduceAdd, Int.reduceToNat, c']
    intro hx0
    exact ⟨by omega, _, by rw [beadsT, if_neg c], by rw [beadsT, if_neg c]; exact SlR.nil⟩
theorem refBeadsT_rets : Rets Try.prog X 23 [s] g (fun v g' lo => g.next ≤ lo ∧ Ret1 g' v (beadsT L)) := by
  refine Rets.run hX.pres p23 (hX.free 23 (by decide) _ _) rfl fun ho => ?_
  simp +decide (disch := first | assumption | (apply GH.ok_push; assumption) | exact cellV_int _ _ | exact cellV_bool _ | omega) only [go_sem, ↓reduceIte, Nat.reduceEqDiff, Nat.reduceAdd, Int.reduceToNat]
  refine CallD.calm (refIsShape_rets hX L hL s g hs) ?_
  rintro v G hx rfl
  have hn := hx.next
  by_cases c : isShape L = true
  · obtain ⟨c1, c2, c3⟩ := shape_facts c
    simp +decide (disch := first | assumption | (apply GH.ok_push; assumption) | exact cellV_int _ _ | exact cellV_bool _ | omega) only [go_sem, ↓reduceIte, Nat.reduceEqDiff, Nat.reduceAdd, Int.reduceToNat, c]
    refine CallD.calm (refBeads_rets hX L (desc_fits c2 (by omega)) s G (hs.ext hx)) ?_
    rintro v G2 hx2 h
    have hn2 := hx2.next
    simp +decide (disch := first | assumption | (apply GH.ok_push; assumption) | exact cellV_int _ _ | exact cellV_bool _ | omega) only [go_sem, ↓reduceIte, Nat.reduceEqDiff, Nat.reduceAdd, Int.reduceToNat]
    intro hx0
    exact ⟨by omega, v, by rw [beadsT, if_pos c], by rw [beadsT, if_pos c]; exact h⟩
  · have c' : isShape L = false := by simpa using c
    simp +decide (disch := first | assumption | (apply GH.ok_push; assumption) | exact cellV_int _ _ | exact cellV_bool _ | omega) only [go_sem, ↓reduceIte, Nat.reduceEqDiff, Nat.reduceAdd, Int.reduceToNat, c']
    intro hx0
    exact ⟨by omega, _, by rw [beadsT, if_neg c], by rw [beadsT, if_neg c]; exact SlR.nil⟩
theorem turnedT_rets : Rets Try.prog X 25 [s] g (fun v g' lo => g.next ≤ lo ∧ Ret1 g' v (turnedT L)) := by
  refine Rets.run hX.pres p25 (hX.free 25 (by decide) _ _) rfl fun ho => ?_
  simp +decide (disch := first | assumption | (apply GH.ok_push; assumption) | exact cellV_int _ _ | exact cellV_bool _ | omega) only [go_sem, ↓reduceIte, Nat.reduceEqDiff, Nat.reduceAdd, Int.reduceToNat]
  refine CallD.calm (isShape_rets hX L hL s g hs) ?_
  rintro v G hx rfl
  have hn := hx.next
  by_cases c : isShape L = true
  · obtain ⟨c1, c2, c3⟩ := shape_facts c
    simp +decide (disch := first | assumption | (apply GH.ok_push; assumption) | exact cellV_int _ _ | exact cellV_bool _ | omega) only [go_sem, ↓reduceIte, Nat.reduceEqDiff, Nat.reduceAdd, Int.reduceToNat, c]
    refine CallD.calm (columns_rets hX L (by omega) c2 s G (hs.ext hx)) ?_
    rintro v G2 hx2 h
    have hn2 := hx2.next
    have hlv := h.len
    rw [ints_len, colsL, rng_len] at hlv
    by_cases d : 12 < head L
    · simp +decide (disch := first | assumption | (apply GH.ok_push; assumption) | exact cellV_int _ _ | exact cellV_bool _ | omega) only [go_sem, ↓reduceIte, Nat.reduceEqDiff, Nat.reduceAdd, Int.reduceToNat, hlv]
      intro hx0
      exact ⟨by omega, _, by rw [turnedT, if_pos c, if_pos d], by rw [turnedT, if_pos c, if_pos d]; exact SlR.nil⟩
    · simp +decide (disch := first | assumption | (apply GH.ok_push; assumption) | exact cellV_int _ _ | exact cellV_bool _ | omega) only [go_sem, ↓reduceIte, Nat.reduceEqDiff, Nat.reduceAdd, Int.reduceToNat, hlv]
      intro hx0
      exact ⟨by omega, v, by rw [turnedT, if_pos c, if_neg d], by rw [turnedT, if_pos c, if_neg d]; exact h⟩
  · have c' : isShape L = false := by simpa using c
    simp +decide (disch := first | assumption | (apply GH.ok_push; assumption) | exact cellV_int _ _ | exact cellV_bool _ | omega) only [go_sem, ↓reduceIte, Nat.reduceEqDiff, Nat.reduceAdd, Int.reduceToNat, c']
    intro hx0
    exact ⟨by omega, _, by rw [turnedT, if_neg c], by rw [turnedT, if_neg c]; exact SlR.nil⟩
theorem refTurnedT_rets : Rets Try.prog X 26 [s] g (fun v g' lo => g.next ≤ lo ∧ Ret1 g' v (turnedT L)) := by
  refine Rets.run hX.pres p26 (hX.free 26 (by decide) _ _) rfl fun ho => ?_
  simp +decide (disch := first | assumption | (apply GH.ok_push; assumption) | exact cellV_int _ _ | exact cellV_bool _ | omega) only [go_sem, ↓reduceIte, Nat.reduceEqDiff, Nat.reduceAdd, Int.reduceToNat]
  refine CallD.calm (refIsShape_rets hX L hL s g hs) ?_
  rintro v G hx rfl
  have hn := hx.next
  by_cases c : isShape L = true
  · obtain ⟨c1, c2, c3⟩ := shape_facts c
    simp +decide (disch := first | assumption | (apply GH.ok_push; assumption) | exact cellV_int _ _ | exact cellV_bool _ | omega) only [go_sem, ↓reduceIte, Nat.reduceEqDiff, Nat.reduceAdd, Int.reduceToNat, c]
    refine CallD.calm (refColumns_rets hX L (by omega) c2 s G (hs.ext hx)) ?_
    rintro v G2 hx2 h
    have hn2 := hx2.next
    have hlv := h.len
    rw [ints_len, colsL, rng_len] at hlv
    by_cases d : 12 < head L
    · simp +decide (disch := first | assumption | (apply GH.ok_push; assumption) | exact cellV_int _ _ | exact cellV_bool _ | omega) only [go_sem, ↓reduceIte, Nat.reduceEqDiff, Nat.reduceAdd, Int.reduceToNat, hlv]
      intro hx0
      exact ⟨by omega, _, by rw [turnedT, if_pos c, if_pos d], by rw [turnedT, if_pos c, if_pos d]; exact SlR.nil⟩
    · simp +decide (disch := first | assumption | (apply GH.ok_push; assumption) | exact cellV_int _ _ | exact cellV_bool _ | omega) only [go_sem, ↓reduceIte, Nat.reduceEqDiff, Nat.reduceAdd, Int.reduceToNat, hlv]
      intro hx0
      exact ⟨by omega, v, by rw [turnedT, if_pos c, if_neg d], by rw [turnedT, if_pos c, if_neg d]; exact h⟩
  · have c' : isShape L = false := by simpa using c
    simp +decide (disch := first | assumption | (apply GH.ok_push; assumption) | exact cellV_int _ _ | exact cellV_bool _ | omega) only [go_sem, ↓reduceIte, Nat.reduceEqDiff, Nat.reduceAdd, Int.reduceToNat, c']
    intro hx0
    exact ⟨by omega, _, by rw [turnedT, if_neg c], by rw [turnedT, if_neg c]; exact SlR.nil⟩
end
theorem hooksT_small (L : List Int) : (hooksT L).1.length < 1000000 ∧ ∀ M ∈ (hooksT L).1, M.length < 1000000 := by
  unfold hooksT
  split
  · rename_i c
    obtain ⟨c1, c2, c3⟩ := shape_facts c
    refine ⟨by rw [hooksL_len]; omega, fun M hM => ?_⟩
    simp only [hooksL, List.mem_map, List.mem_range] at hM
    obtain ⟨r, hr, rfl⟩ := hM
    have := desc_getD c2 hr
    rw [hookRow, rng_len]; omega
  · simp
theorem beadsT_small (L : List Int) : (beadsT L).1.length < 1000000 := by
  unfold beadsT
  split
  · rename_i c
    obtain ⟨c1, c2, c3⟩ := shape_facts c
    rw [beadsR_len]; omega
  · simp
theorem turnedT_small (L : List Int) : (turnedT L).1.length < 1000000 := by
  unfold turnedT
  split
  · split
    · simp
    · rw [colsL, rng_len]; omega
  · simp
theorem ext0 (u w : Value) : extF (.tuple #[u, w]) 0 = some u := rfl
theorem ext1 (u w : Value) : extF (.tuple #[u, w]) 1 = some w := rfl
/-- The law of the shapes. -/
theorem shapesLaw_rets {X : Caller} (hX : Xok X) (L : List Int) (s : Value) (g : GH) (hs : SlR g s (ints L)) :
    Rets Try.prog X 3 [s] g (fun v g' lo => g.next ≤ lo ∧ v = .bool true) := by
  refine Rets.run hX.pres p3 (hX.free 3 (by decide) _ _) rfl fun ho => ?_
  have hl := hs.len
  rw [ints_len] at hl
  simp +decide (disch := first | assumption | (apply GH.ok_push; assumption) | exact cellV_int _ _ | exact cellV_bool _ | omega) only [go_sem, ↓reduceIte, Nat.reduceEqDiff, Nat.reduceAdd, Int.reduceToNat]
  refine CallD.calm (few_rets hX L [] s _ g hs Sl2.nil) ?_
  rintro v G hx rfl
  have hn := hx.next
  have hok := hx.ok ho
  have hs1 := hs.ext hx
  by_cases c : L.length ≤ 60
  · have hf : fewB L [] = true := by simp [fewB, c]
    simp +decide (disch := first | assumption | (apply GH.ok_push; assumption) | exact cellV_int _ _ | exact cellV_bool _ | omega) only [go_sem, ↓reduceIte, Nat.reduceEqDiff, Nat.reduceAdd, Int.reduceToNat, hf]
    refine AppD.copy (vs := []) (new := ints L) (j := G.next) (cells := []) (t' := 3) (by rw [GH.get_push hok, if_pos rfl]) rfl (Nat.le_refl _) (Nat.lt_succ_self _) (hs1.push hok _) (by rw [ints_len]; simp; omega) (GH.ok_push hok) ?_
    intro own G1 sp wr hk1 hok1 hown
    rw [List.nil_append] at hown
    have hk1 := ((Kept.refl G).push hok _).trans hk1
    have hn1 := hk1.next
    have hs2 := hs1.kept hk1
    simp +decide (disch := first | assumption | (apply GH.ok_push; assumption) | exact cellV_int _ _ | exact cellV_bool _ | omega) only [go_sem, ↓reduceIte, Nat.reduceEqDiff, Nat.reduceAdd, Int.reduceToNat]
    refine CallD.calm (isShape_rets hX L (by omega) own G1 hown) ?_
    rintro v G2 hx2 rfl
    have hn2 := hx2.next
    simp +decide (disch := first | assumption | (apply GH.ok_push; assumption) | exact cellV_int _ _ | exact cellV_bool _ | omega) only [go_sem, ↓reduceIte, Nat.reduceEqDiff, Nat.reduceAdd, Int.reduceToNat]
    refine CallD.calm (refIsShape_rets hX L (by omega) s G2 (hs2.ext hx2)) ?_
    rintro v G3 hx3 rfl
    have hn3 := hx3.next
    have hk3 := (hx2.kept.ext hx3)
    have heq : eqBF true (.bool (isShape L)) (.bool (isShape L)) = some (.bool false) := by cases isShape L <;> rfl
    simp +decide (disch := first | assumption | (apply GH.ok_push; assumption) | exact cellV_int _ _ | exact cellV_bool _ | omega) only [go_sem, ↓reduceIte, Nat.reduceEqDiff, Nat.reduceAdd, Int.reduceToNat, heq]
    refine CallD.calm (hooksT_rets hX L (by omega) own G3 (hown.kept hk3)) ?_
    rintro v G4 hx4 ⟨a, rfl, ha⟩
    have hn4 := hx4.next
    have hk4 := hk3.ext hx4
    simp +decide (disch := first | assumption | (apply GH.ok_push; assumption) | exact cellV_int _ _ | exact cellV_bool _ | omega) only [go_sem, ↓reduceIte, Nat.reduceEqDiff, Nat.reduceAdd, Int.reduceToNat, ext0, ext1]
    refine CallD.calm (refHooksT_rets hX L (by omega) s G4 (hs2.kept hk4)) ?_
    rintro v G5 hx5 ⟨b, rfl, hb⟩
    have hn5 := hx5.next
    have hk5 := hk4.ext hx5
    simp +decide (disch := first | assumption | (apply GH.ok_push; assumption) | exact cellV_int _ _ | exact cellV_bool _ | omega) only [go_sem, ↓reduceIte, Nat.reduceEqDiff, Nat.reduceAdd, Int.reduceToNat, ext0, ext1]
    obtain ⟨m1, m2⟩ := hooksT_small L
    refine CallD.calm (shapes_rets hX _ _ m1 m1 m2 m2 a b G5 (ha.kept hx5.kept) hb) ?_
    rintro v G6 hx6 rfl
    have hn6 := hx6.next
    have hk6 := hk5.ext hx6
    rw [decide_eq_true rfl]
    simp +decide (disch := first | assumption | (apply GH.ok_push; assumption) | exact cellV_int _ _ | exact cellV_bool _ | omega) only [go_sem, ↓reduceIte, Nat.reduceEqDiff, Nat.reduceAdd, Int.reduceToNat]
    refine CallD.calm (beadsT_rets hX L (by omega) own G6 (hown.kept hk6)) ?_
    rintro v G7 hx7 ⟨a2, rfl, ha2⟩
    have hn7 := hx7.next
    have hk7 := hk6.ext hx7
    simp +decide (disch := first | assumption | (apply GH.ok_push; assumption) | exact cellV_int _ _ | exact cellV_bool _ | omega) only [go_sem, ↓reduceIte, Nat.reduceEqDiff, Nat.reduceAdd, Int.reduceToNat, ext0, ext1]
    refine CallD.calm (refBeadsT_rets hX L (by omega) s G7 (hs2.kept hk7)) ?_
    rintro v G8 hx8 ⟨b2, rfl, hb2⟩
    have hn8 := hx8.next
    have hk8 := hk7.ext hx8
    simp +decide (disch := first | assumption | (apply GH.ok_push; assumption) | exact cellV_int _ _ | exact cellV_bool _ | omega) only [go_sem, ↓reduceIte, Nat.reduceEqDiff, Nat.reduceAdd, Int.reduceToNat, ext0, ext1]
    refine CallD.calm (same_rets hX _ _ (beadsT_small L) (beadsT_small L) a2 b2 G8 (ha2.kept hx8.kept) hb2) ?_
    rintro v G9 hx9 rfl
    have hn9 := hx9.next
    have hk9 := hk8.ext hx9
    rw [decide_eq_true rfl]
    simp +decide (disch := first | assumption | (apply GH.ok_push; assumption) | exact cellV_int _ _ | exact cellV_bool _ | omega) only [go_sem, ↓reduceIte, Nat.reduceEqDiff, Nat.reduceAdd, Int.reduceToNat]
    refine CallD.calm (turnedT_rets hX L (by omega) own G9 (hown.kept hk9)) ?_
    rintro v G10 hx10 ⟨a3, rfl, ha3⟩
    have hn10 := hx10.next
    have hk10 := hk9.ext hx10
    simp +decide (disch := first | assumption | (apply GH.ok_push; assumption) | exact cellV_int _ _ | exact cellV_bool _ | omega) only [go_sem, ↓reduceIte, Nat.reduceEqDiff, Nat.reduceAdd, Int.reduceToNat, ext0, ext1]
    refine CallD.calm (refTurnedT_rets hX L (by omega) s G10 (hs2.kept hk10)) ?_
    rintro v G11 hx11 ⟨b3, rfl, hb3⟩
    have hn11 := hx11.next
    have hk11 := hk10.ext hx11
    simp +decide (disch := first | assumption | (apply GH.ok_push; assumption) | exact cellV_int _ _ | exact cellV_bool _ | omega) only [go_sem, ↓reduceIte, Nat.reduceEqDiff, Nat.reduceAdd, Int.reduceToNat, ext0, ext1]
    refine CallD.calm (same_rets hX _ _ (turnedT_small L) (turnedT_small L) a3 b3 G11 (ha3.kept hx11.kept) hb3) ?_
    rintro v G12 hx12 rfl
    have hn12 := hx12.next
    have hk12 := hk11.ext hx12
    rw [decide_eq_true rfl]
    simp +decide (disch := first | assumption | (apply GH.ok_push; assumption) | exact cellV_int _ _ | exact cellV_bool _ | omega) only [go_sem, ↓reduceIte, Nat.reduceEqDiff, Nat.reduceAdd, Int.reduceToNat]
    refine CallD.calm (same_rets hX L L (by omega) (by omega) own s G12 (hown.kept hk12) (hs2.kept hk12)) ?_
    rintro v G13 hx13 rfl
    have hn13 := hx13.next
    rw [decide_eq_true rfl]
    simp +decide (disch := first | assumption | (apply GH.ok_push; assumption) | exact cellV_int _ _ | exact cellV_bool _ | omega) only [go_sem, ↓reduceIte, Nat.reduceEqDiff, Nat.reduceAdd, Int.reduceToNat]
    refine CallD.calm (hX.alive G13) ?_
    rintro v G14 hx14 rfl
    have hn14 := hx14.next
    simp +decide (disch := first | assumption | (apply GH.ok_push; assumption) | exact cellV_int _ _ | exact cellV_bool _ | omega) only [go_sem, ↓reduceIte, Nat.reduceEqDiff, Nat.reduceAdd, Int.reduceToNat]
    intro hx0
    exact ⟨by omega, rfl⟩
  · have hf : fewB L [] = false := by simp [fewB, c]
    simp +decide (disch := first | assumption | (apply GH.ok_push; assumption) | exact cellV_int _ _ | exact cellV_bool _ | omega) only [go_sem, ↓reduceIte, Nat.reduceEqDiff, Nat.reduceAdd, Int.reduceToNat, hf]
    refine CallD.calm (hX.alive G) ?_
    rintro v G1 hx1 rfl
    have hn1 := hx1.next
    simp +decide (disch := first | assumption | (apply GH.ok_push; assumption) | exact cellV_int _ _ | exact cellV_bool _ | omega) only [go_sem, ↓reduceIte, Nat.reduceEqDiff, Nat.reduceAdd, Int.reduceToNat]
    intro hx0
    exact ⟨by omega, rfl⟩
end Go.Proofs.Ytieliilnnfjijaa
set_option maxRecDepth 100000
set_option maxHeartbeats 4000000
set_option linter.unusedSimpArgs false
set_option linter.unusedVariables false
namespace Go.Proofs.Ytieliilnnfjijaa
open Go.Ds
/-! ## Ways -/
def fact : Nat → Int
  | 0 => 1
  | n + 1 => fact n * (n + 1)
theorem fact_bnd : ∀ n, n ≤ 20 → 1 ≤ fact n ∧ fact n ≤ 2432902008176640000 := by decide +kernel
def divs (x : Int) (l : List Int) : Int := l.foldl (fun a h => a.tdiv h) x
theorem divs_app (x : Int) (A B : List Int) : divs x (A ++ B) = divs (divs x A) B := by simp [divs]
theorem divs_snoc (x : Int) (L : List Int) (i : Nat) (h : i < L.length) : divs x (L.take (i + 1)) = (divs x (L.take i)).tdiv (L.getD i 0) := by
  rw [take_snoc L i h, divs_app]; rfl
theorem tdiv_bnd {x h : Int} (h0 : 0 ≤ x) (h1 : 1 ≤ h) : 0 ≤ x.tdiv h ∧ x.tdiv h ≤ x := by
  obtain ⟨a, rfl⟩ := Int.eq_ofNat_of_zero_le h0
  obtain ⟨b, rfl⟩ := Int.eq_ofNat_of_zero_le (show 0 ≤ h by omega)
  have := Nat.div_le_self a b
  rw [tdiv_pos]
  exact ⟨Int.natCast_nonneg _, Int.ofNat_le.2 this⟩
def waysN (L : List Int) : Int := divs (fact (sumL L).toNat) (hooksL L).flatten
def waysT (L : List Int) : Int × Int := if isShape L = true then (if 20 < sumL L then (0, 8) else (waysN L, 0)) else (0, 2)
theorem cnt_above : ∀ {L : List Int} {m : Int} (r : Nat) (c : Int), desc m L = true → r < L.length → c < L.getD r 0 → (r : Int) + 1 ≤ cnt L c
  | [], m, r, c, h, hr, hc => by simp at hr
  | x :: L, m, 0, c, h, hr, hc => by
    have := cnt_bnd L c
    simp at hc
    simp only [cnt, if_pos hc]; omega
  | x :: L, m, r + 1, c, h, hr, hc => by
    simp only [desc, Bool.and_eq_true, decide_eq_true_eq] at h
    have hr' : r < L.length := by simpa using hr
    have hc' : c < L.getD r 0 := by simpa using hc
    have h2 := desc_getD h.2 hr'
    have := cnt_above r c h.2 hr' hc'
    have hx : c < x := by omega
    simp only [cnt, if_pos hx]; omega
theorem hookV_pos {L : List Int} (h : desc 40 L = true) {r c : Nat} (hr : r < L.length) (hc : (c : Int) < L.getD r 0) : 1 ≤ hookV L r c ∧ hookV L r c ≤ 40 + L.length := by
  have h1 := cnt_above r (c : Int) h hr hc
  have h2 := desc_getD h hr
  have h3 := cnt_bnd L (c : Int)
  unfold hookV
  omega
theorem sumL_nonneg {m : Int} : ∀ {L : List Int}, desc m L = true → 0 ≤ sumL L := by
  intro L h
  have := sumL_bnd (L := L) (a := 0) (b := m) fun x hx => by have := desc_le h x hx; omega
  omega
theorem hooksL_getD {L : List Int} {r : Nat} (h : r < L.length) : (hooksL L).getD r [] = hookRow L r := by
  rw [List.getD_eq_getElem?_getD, hooksL_get h]; rfl
theorem divs_step (x : Int) {L : List Int} {r : Nat} (h : r < L.length) : divs x ((hooksL L).take (r + 1)).flatten = divs (divs x ((hooksL L).take r).flatten) (hookRow L r) := by
  rw [take_snocL _ r (by rw [hooksL_len]; exact h), hooksL_getD h, List.flatten_append, divs_app]; simp
def Bnd (x : Int) : Prop := 0 ≤ x ∧ x ≤ 2432902008176640000
theorem hookRow_get {L : List Int} {r c : Nat} (hc : (c : Int) < L.getD r 0) : (ints (hookRow L r))[c]? = some (.int .i64 (hookV L r c)) ∧ (hookRow L r).getD c 0 = hookV L r c ∧ c < (hookRow L r).length := by
  have h : c < (L.getD r 0).toNat := by omega
  have h2 : (hookRow L r).getD c 0 = hookV L r c := by rw [hookRow, rng_get _ h]
  have h3 : c < (hookRow L r).length := by rw [hookRow, rng_len]; exact h
  exact ⟨by rw [ints_get h3, h2], h2, h3⟩
section
variable {X : Caller} (hX : Xok X) (L : List Int) (hL : L.length < 1000000) (s : Value) (g : GH) (hs : SlR g s (ints L))
include hX hL hs
theorem ways_rets : Rets Try.prog X 39 [s] g (fun v g' lo => g.next ≤ lo ∧ v = .tuple #[.int .i64 (waysT L).1, .int .i64 (waysT L).2]) := by
  refine Rets.run hX.pres p39 (hX.free 39 (by decide) _ _) rfl fun ho => ?_
  simp +decide (disch := first | assumption | (apply GH.ok_push; assumption) | exact cellV_int _ _ | exact cellV_bool _ | omega) only [go_sem, ↓reduceIte, Nat.reduceEqDiff, Nat.reduceAdd, Int.reduceToNat]
  refine CallD.calm (isShape_rets hX L hL s g hs) ?_
  rintro v G hx rfl
  have hn := hx.next
  have hs1 := hs.ext hx
  by_cases c : isShape L = true
  · obtain ⟨c1, c2, c3⟩ := shape_facts c
    have c4 := sumL_nonneg c2
    simp +decide (disch := first | assumption | (apply GH.ok_push; assumption) | exact cellV_int _ _ | exact cellV_bool _ | omega) only [go_sem, ↓reduceIte, Nat.reduceEqDiff, Nat.reduceAdd, Int.reduceToNat, c]
    refine CallD.calm (count_rets hX L (desc_fits c2 (by omega)) s G hs1) ?_
    rintro v G2 hx2 rfl
    have hn2 := hx2.next
    have hs2 := hs1.ext hx2
    by_cases d : 20 < sumL L
    · simp +decide (disch := first | assumption | (apply GH.ok_push; assumption) | exact cellV_int _ _ | exact cellV_bool _ | omega) only [go_sem, ↓reduceIte, Nat.reduceEqDiff, Nat.reduceAdd, Int.reduceToNat]
      intro hx0
      exact ⟨by omega, by rw [waysT, if_pos c, if_pos d]⟩
    · obtain ⟨N, hN⟩ : ∃ N : Nat, sumL L = N := ⟨(sumL L).toNat, by omega⟩
      have hN20 : N ≤ 20 := by omega
      rw [hN]
      simp +decide (disch := first | assumption | (apply GH.ok_push; assumption) | exact cellV_int _ _ | exact cellV_bool _ | omega) only [go_sem, ↓reduceIte, Nat.reduceEqDiff, Nat.reduceAdd, Int.reduceToNat]
      refine Wk.loops (fun m e g' lo => g' = G2 ∧ g.next ≤ lo ∧ ∃ i : Nat, i + m = N ∧ (ev e (.s 0) = s ∧ ev e (.s 5) = .int .i64 (fact i) ∧ ev e (.s 18) = .int .i64 N ∧ ev e (.s 19) = .int .i64 i))
        (fun e g' lo => g' = G2 ∧ g.next ≤ lo ∧ (ev e (.s 0) = s ∧ ev e (.s 5) = .int .i64 (fact N))) (n := N) ?_ ?_ ?_
      · exact ⟨rfl, by omega, 0, by omega, (by simp +decide (disch := first | assumption | (apply GH.ok_push; assumption) | exact cellV_int _ _ | exact cellV_bool _ | omega) only [go_sem, ↓reduceIte, Nat.reduceEqDiff, Nat.reduceAdd, Int.reduceToNat, fact]; first | done | exact rfl)⟩
      · rintro e g' lo - - ⟨rfl, hlo, he⟩
        simp +decide (disch := first | assumption | (apply GH.ok_push; assumption) | exact cellV_int _ _ | exact cellV_bool _ | omega) only [go_sem, ↓reduceIte, Nat.reduceEqDiff, Nat.reduceAdd, Int.reduceToNat, he]
        refine CallD.calm (hooks_rets hX L (by omega) c2 s _ hs2) ?_
        rintro v G3 hx3 hv
        have hn3 := hx3.next
        have hlv := hv.len
        rw [hooksL_len] at hlv
        simp +decide (disch := first | assumption | (apply GH.ok_push; assumption) | exact cellV_int _ _ | exact cellV_bool _ | omega) only [go_sem, ↓reduceIte, Nat.reduceEqDiff, Nat.reduceAdd, Int.reduceToNat, hlv]
        refine Wk.loops (fun m e g' lo => g' = G3 ∧ g.next ≤ lo ∧ ∃ i : Nat, i + m = L.length ∧ (ev e (.s 5) = .int .i64 (divs (fact N) ((hooksL L).take i).flatten) ∧ ev e (.s 28) = v ∧ ev e (.s 29) = .int .i64 L.length ∧ ev e (.s 30) = .int .i64 i) ∧ Bnd (divs (fact N) ((hooksL L).take i).flatten))
          (fun e g' lo => g' = G3 ∧ g.next ≤ lo ∧ ev e (.s 5) = .int .i64 (waysN L)) (n := L.length) ?_ ?_ ?_
        · refine ⟨rfl, by omega, 0, by omega, (by simp +decide (disch := first | assumption | (apply GH.ok_push; assumption) | exact cellV_int _ _ | exact cellV_bool _ | omega) only [go_sem, ↓reduceIte, Nat.reduceEqDiff, Nat.reduceAdd, Int.reduceToNat, he, List.take_zero, List.flatten_nil, divs, List.foldl_nil]; first | done | exact rfl), ?_⟩
          have := fact_bnd N hN20
          exact ⟨by show 0 ≤ fact N; omega, by show fact N ≤ _; omega⟩
        · rintro e g' lo - - ⟨rfl, hlo, he⟩
          simp +decide (disch := first | assumption | (apply GH.ok_push; assumption) | exact cellV_int _ _ | exact cellV_bool _ | omega) only [go_sem, ↓reduceIte, Nat.reduceEqDiff, Nat.reduceAdd, Int.reduceToNat, he]
          intro hx0
          exact ⟨by omega, by rw [waysT, if_pos c, if_neg d]⟩
        · rintro m e g' lo ho' hl' ih out ⟨rfl, hlo, i, hi, he, hb⟩
          by_cases ci : i < L.length
          · obtain ⟨u, j1, o1, hj1, hp1, hp2, hu⟩ := hv.ptr (i := i) (by rw [hooksL_len]; exact ci)
            have hp1 := hp1 (i : Int) rfl
            rw [hooksL_getD ci] at hu
            have hlu := hu.len
            rw [ints_len, hookRow, rng_len] at hlu
            have hrow := desc_getD c2 ci
            obtain ⟨n, hn1, hn2⟩ : ∃ n : Nat, L.getD i 0 = n ∧ (L.getD i 0).toNat = n := ⟨(L.getD i 0).toNat, by omega, rfl⟩
            rw [hn2] at hlu
            simp +decide (disch := first | assumption | (apply GH.ok_push; assumption) | exact cellV_int _ _ | exact cellV_bool _ | omega) only [go_sem, ↓reduceIte, Nat.reduceEqDiff, Nat.reduceAdd, Int.reduceToNat, he, hp1, hp2, hlu]
            have hst := divs_step (fact N) ci
            obtain ⟨x, hxx⟩ : ∃ x, divs (fact N) ((hooksL L).take i).flatten = x := ⟨_, rfl⟩
            rw [hxx] at he hb hst
            refine Wk.loops (fun m e g2 lo2 => g2 = g' ∧ g.next ≤ lo2 ∧ ∃ c : Nat, c + m = n ∧ (ev e (.s 5) = .int .i64 (divs x ((hookRow L i).take c)) ∧ ev e (.s 28) = v ∧ ev e (.s 29) = .int .i64 L.length ∧ ev e (.s 30) = .int .i64 i ∧ ev e (.s 34) = u ∧ ev e (.s 35) = .int .i64 n ∧ ev e (.s 36) = .int .i64 c) ∧ Bnd (divs x ((hookRow L i).take c)))
              (fun e g2 lo2 => g2 = g' ∧ g.next ≤ lo2 ∧ (ev e (.s 5) = .int .i64 (divs x (hookRow L i)) ∧ ev e (.s 28) = v ∧ ev e (.s 29) = .int .i64 L.length ∧ ev e (.s 30) = .int .i64 i) ∧ Bnd (divs x (hookRow L i))) (n := n) ?_ ?_ ?_
            · exact ⟨rfl, hlo, 0, by omega, (by simp +decide (disch := first | assumption | (apply GH.ok_push; assumption) | exact cellV_int _ _ | exact cellV_bool _ | omega) only [go_sem, ↓reduceIte, Nat.reduceEqDiff, Nat.reduceAdd, Int.reduceToNat, he, List.take_zero, divs, List.foldl_nil]; first | done | exact rfl), hb⟩
            · rintro e g2 lo2 - - ⟨rfl, hlo2, he, hb⟩
              simp +decide (disch := first | assumption | (apply GH.ok_push; assumption) | exact cellV_int _ _ | exact cellV_bool _ | omega) only [go_sem, ↓reduceIte, Nat.reduceEqDiff, Nat.reduceAdd, Int.reduceToNat, he]
              exact ih (m - 1) _ _ _ (by omega) ⟨rfl, hlo2, i + 1, by omega, (by simp +decide (disch := first | assumption | (apply GH.ok_push; assumption) | exact cellV_int _ _ | exact cellV_bool _ | omega) only [go_sem, ↓reduceIte, Nat.reduceEqDiff, Nat.reduceAdd, Int.reduceToNat, he, hst]; first | done | exact rfl), by rw [hst]; exact hb⟩
            · rintro m2 e g2 lo2 ho2 hl2 ih2 out2 ⟨rfl, hlo2, k, hk, he, hb⟩
              by_cases ck : k < n
              · obtain ⟨q1, q2, q3⟩ := hookRow_get (L := L) (r := i) (c := k) (by omega)
                obtain ⟨j2, o2, hj2, hr1, hr2⟩ := hu.ptr q1
                have hr1 := hr1 (k : Int) rfl
                have hpos := hookV_pos c2 ci (c := k) (by omega)
                have hds := divs_snoc x (hookRow L i) k q3
                rw [q2] at hds
                have hb2 := tdiv_bnd hb.1 hpos.1
                have hb1 := hb.2
                have hb0 := hb.1
                simp +decide (disch := first | assumption | (apply GH.ok_push; assumption) | exact cellV_int _ _ | exact cellV_bool _ | omega) only [go_sem, ↓reduceIte, Nat.reduceEqDiff, Nat.reduceAdd, Int.reduceToNat, he, hr1, hr2]
                exact ih2 (m2 - 1) _ _ _ (by omega) ⟨rfl, hlo2, k + 1, by omega, (by simp +decide (disch := first | assumption | (apply GH.ok_push; assumption) | exact cellV_int _ _ | exact cellV_bool _ | omega) only [go_sem, ↓reduceIte, Nat.reduceEqDiff, Nat.reduceAdd, Int.reduceToNat, he, hds]; first | done | exact rfl), by rw [hds]; exact ⟨hb2.1, by omega⟩⟩
              · have htk : (hookRow L i).take k = hookRow L i := List.take_of_length_le (by rw [hookRow, rng_len]; omega)
                rw [htk] at he hb
                simp +decide (disch := first | assumption | (apply GH.ok_push; assumption) | exact cellV_int _ _ | exact cellV_bool _ | omega) only [go_sem, ↓reduceIte, Nat.reduceEqDiff, Nat.reduceAdd, Int.reduceToNat, he]
                exact out2 _ _ _ ⟨rfl, hlo2, (by simp +decide (disch := first | assumption | (apply GH.ok_push; assumption) | exact cellV_int _ _ | exact cellV_bool _ | omega) only [go_sem, ↓reduceIte, Nat.reduceEqDiff, Nat.reduceAdd, Int.reduceToNat, he]; first | done | exact rfl), hb⟩
          · have htk : (hooksL L).take i = hooksL L := List.take_of_length_le (by rw [hooksL_len]; omega)
            have hw : divs (fact N) (hooksL L).flatten = waysN L := by rw [waysN, hN]; rfl
            rw [htk, hw] at he
            simp +decide (disch := first | assumption | (apply GH.ok_push; assumption) | exact cellV_int _ _ | exact cellV_bool _ | omega) only [go_sem, ↓reduceIte, Nat.reduceEqDiff, Nat.reduceAdd, Int.reduceToNat, he]
            exact out _ _ _ ⟨rfl, hlo, (by simp +decide (disch := first | assumption | (apply GH.ok_push; assumption) | exact cellV_int _ _ | exact cellV_bool _ | omega) only [go_sem, ↓reduceIte, Nat.reduceEqDiff, Nat.reduceAdd, Int.reduceToNat, he]; first | done | exact rfl)⟩
      · rintro m e g' lo ho' hl' ih out ⟨rfl, hlo, i, hi, he⟩
        by_cases ci : i < N
        · have hb := fact_bnd (i + 1) (by omega)
          have hb2 := fact_bnd i (by omega)
          have hf : fact (i + 1) = fact i * ((i : Int) + 1) := rfl
          rw [hf] at hb
          simp +decide (disch := first | assumption | (apply GH.ok_push; assumption) | exact cellV_int _ _ | exact cellV_bool _ | omega) only [go_sem, ↓reduceIte, Nat.reduceEqDiff, Nat.reduceAdd, Int.reduceToNat, he]
          exact ih (m - 1) _ _ _ (by omega) ⟨rfl, hlo, i + 1, by omega, (by simp +decide (disch := first | assumption | (apply GH.ok_push; assumption) | exact cellV_int _ _ | exact cellV_bool _ | omega) only [go_sem, ↓reduceIte, Nat.reduceEqDiff, Nat.reduceAdd, Int.reduceToNat, he, hf]; first | done | exact rfl)⟩
        · have hiN : i = N := by omega
          rw [hiN] at he
          simp +decide (disch := first | assumption | (apply GH.ok_push; assumption) | exact cellV_int _ _ | exact cellV_bool _ | omega) only [go_sem, ↓reduceIte, Nat.reduceEqDiff, Nat.reduceAdd, Int.reduceToNat, he]
          exact out _ _ _ ⟨rfl, hlo, (by simp +decide (disch := first | assumption | (apply GH.ok_push; assumption) | exact cellV_int _ _ | exact cellV_bool _ | omega) only [go_sem, ↓reduceIte, Nat.reduceEqDiff, Nat.reduceAdd, Int.reduceToNat, he]; first | done | exact rfl)⟩
  · have c' : isShape L = false := by simpa using c
    simp +decide (disch := first | assumption | (apply GH.ok_push; assumption) | exact cellV_int _ _ | exact cellV_bool _ | omega) only [go_sem, ↓reduceIte, Nat.reduceEqDiff, Nat.reduceAdd, Int.reduceToNat, c']
    intro hx0
    exact ⟨by omega, by rw [waysT, if_neg c]⟩
theorem refWays_rets : Rets Try.prog X 40 [s] g (fun v g' lo => g.next ≤ lo ∧ v = .tuple #[.int .i64 (waysT L).1, .int .i64 (waysT L).2]) := by
  refine Rets.run hX.pres p40 (hX.free 40 (by decide) _ _) rfl fun ho => ?_
  simp +decide (disch := first | assumption | (apply GH.ok_push; assumption) | exact cellV_int _ _ | exact cellV_bool _ | omega) only [go_sem, ↓reduceIte, Nat.reduceEqDiff, Nat.reduceAdd, Int.reduceToNat]
  refine CallD.calm (refIsShape_rets hX L hL s g hs) ?_
  rintro v G hx rfl
  have hn := hx.next
  have hs1 := hs.ext hx
  by_cases c : isShape L = true
  · obtain ⟨c1, c2, c3⟩ := shape_facts c
    have c4 := sumL_nonneg c2
    simp +decide (disch := first | assumption | (apply GH.ok_push; assumption) | exact cellV_int _ _ | exact cellV_bool _ | omega) only [go_sem, ↓reduceIte, Nat.reduceEqDiff, Nat.reduceAdd, Int.reduceToNat, c]
    refine CallD.calm (refSum_rets hX L (desc_fits c2 (by omega)) s G hs1) ?_
    rintro v G2 hx2 rfl
    have hn2 := hx2.next
    have hs2 := hs1.ext hx2
    by_cases d : 20 < sumL L
    · simp +decide (disch := first | assumption | (apply GH.ok_push; assumption) | exact cellV_int _ _ | exact cellV_bool _ | omega) only [go_sem, ↓reduceIte, Nat.reduceEqDiff, Nat.reduceAdd, Int.reduceToNat]
      intro hx0
      exact ⟨by omega, by rw [waysT, if_pos c, if_pos d]⟩
    · obtain ⟨N, hN⟩ : ∃ N : Nat, sumL L = N := ⟨(sumL L).toNat, by omega⟩
      have hN20 : N ≤ 20 := by omega
      rw [hN]
      simp +decide (disch := first | assumption | (apply GH.ok_push; assumption) | exact cellV_int _ _ | exact cellV_bool _ | omega) only [go_sem, ↓reduceIte, Nat.reduceEqDiff, Nat.reduceAdd, Int.reduceToNat]
      refine Wk.loops (fun m e g' lo => g' = G2 ∧ g.next ≤ lo ∧ ∃ i : Nat, i + m = N + 3 ∧ 1 ≤ i ∧ (i ≤ N ∨ i = 1) ∧ (ev e (.s 0) = s ∧ ev e (.s 4) = .int .i64 N ∧ ev e (.s 5) = .int .i64 (fact i) ∧ ev e (.s 6) = .int .i64 ((i : Int) + 1)))
        (fun e g' lo => g' = G2 ∧ g.next ≤ lo ∧ (ev e (.s 0) = s ∧ ev e (.s 5) = .int .i64 (fact N))) (n := N + 2) ?_ ?_ ?_
      · exact ⟨rfl, by omega, 1, by omega, Nat.le_refl _, .inr rfl, (by simp +decide (disch := first | assumption | (apply GH.ok_push; assumption) | exact cellV_int _ _ | exact cellV_bool _ | omega) only [go_sem, ↓reduceIte, Nat.reduceEqDiff, Nat.reduceAdd, Int.reduceToNat, show fact 1 = 1 from rfl]; first | done | exact rfl)⟩
      · rintro e g' lo - - ⟨rfl, hlo, he⟩
        simp +decide (disch := first | assumption | (apply GH.ok_push; assumption) | exact cellV_int _ _ | exact cellV_bool _ | omega) only [go_sem, ↓reduceIte, Nat.reduceEqDiff, Nat.reduceAdd, Int.reduceToNat, he]
        refine CallD.calm (refLengths_rets hX L (by omega) c2 s _ hs2) ?_
        rintro v G3 hx3 hv
        have hn3 := hx3.next
        have hlv := hv.len
        rw [hooksL_len] at hlv
        simp +decide (disch := first | assumption | (apply GH.ok_push; assumption) | exact cellV_int _ _ | exact cellV_bool _ | omega) only [go_sem, ↓reduceIte, Nat.reduceEqDiff, Nat.reduceAdd, Int.reduceToNat, hlv]
        refine Wk.loops (fun m e g' lo => g' = G3 ∧ g.next ≤ lo ∧ ∃ i : Nat, i + m = L.length ∧ (ev e (.s 5) = .int .i64 (divs (fact N) ((hooksL L).take i).flatten) ∧ ev e (.s 7) = v ∧ ev e (.s 8) = .int .i64 i) ∧ Bnd (divs (fact N) ((hooksL L).take i).flatten))
          (fun e g' lo => g' = G3 ∧ g.next ≤ lo ∧ ev e (.s 5) = .int .i64 (waysN L)) (n := L.length) ?_ ?_ ?_
        · refine ⟨rfl, by omega, 0, by omega, (by simp +decide (disch := first | assumption | (apply GH.ok_push; assumption) | exact cellV_int _ _ | exact cellV_bool _ | omega) only [go_sem, ↓reduceIte, Nat.reduceEqDiff, Nat.reduceAdd, Int.reduceToNat, he, List.take_zero, List.flatten_nil, divs, List.foldl_nil]; first | done | exact rfl), ?_⟩
          have := fact_bnd N hN20
          exact ⟨by show 0 ≤ fact N; omega, by show fact N ≤ _; omega⟩
        · rintro e g' lo - - ⟨rfl, hlo, he⟩
          simp +decide (disch := first | assumption | (apply GH.ok_push; assumption) | exact cellV_int _ _ | exact cellV_bool _ | omega) only [go_sem, ↓reduceIte, Nat.reduceEqDiff, Nat.reduceAdd, Int.reduceToNat, he]
          intro hx0
          exact ⟨by omega, by rw [waysT, if_pos c, if_neg d]⟩
        · rintro m e g' lo ho' hl' ih out ⟨rfl, hlo, i, hi, he, hb⟩
          by_cases ci : i < L.length
          · obtain ⟨u, j1, o1, hj1, hp1, hp2, hu⟩ := hv.ptr (i := i) (by rw [hooksL_len]; exact ci)
            have hp1 := hp1 (i : Int) rfl
            rw [hooksL_getD ci] at hu
            have hlu := hu.len
            rw [ints_len, hookRow, rng_len] at hlu
            have hrow := desc_getD c2 ci
            obtain ⟨n, hn1, hn2⟩ : ∃ n : Nat, L.getD i 0 = n ∧ (L.getD i 0).toNat = n := ⟨(L.getD i 0).toNat, by omega, rfl⟩
            rw [hn2] at hlu
            simp +decide (disch := first | assumption | (apply GH.ok_push; assumption) | exact cellV_int _ _ | exact cellV_bool _ | omega) only [go_sem, ↓reduceIte, Nat.reduceEqDiff, Nat.reduceAdd, Int.reduceToNat, he, hlv]
            have hst := divs_step (fact N) ci
            obtain ⟨x, hxx⟩ : ∃ x, divs (fact N) ((hooksL L).take i).flatten = x := ⟨_, rfl⟩
            rw [hxx] at he hb hst
            refine Wk.loops (fun m e g2 lo2 => g2 = g' ∧ g.next ≤ lo2 ∧ ∃ c : Nat, c + m = n ∧ (ev e (.s 5) = .int .i64 (divs x ((hookRow L i).take c)) ∧ ev e (.s 7) = v ∧ ev e (.s 8) = .int .i64 i ∧ ev e (.s 9) = .int .i64 c) ∧ Bnd (divs x ((hookRow L i).take c)))
              (fun e g2 lo2 => g2 = g' ∧ g.next ≤ lo2 ∧ (ev e (.s 5) = .int .i64 (divs x (hookRow L i)) ∧ ev e (.s 7) = v ∧ ev e (.s 8) = .int .i64 i) ∧ Bnd (divs x (hookRow L i))) (n := n) ?_ ?_ ?_
            · exact ⟨rfl, hlo, 0, by omega, (by simp +decide (disch := first | assumption | (apply GH.ok_push; assumption) | exact cellV_int _ _ | exact cellV_bool _ | omega) only [go_sem, ↓reduceIte, Nat.reduceEqDiff, Nat.reduceAdd, Int.reduceToNat, he, List.take_zero, divs, List.foldl_nil]; first | done | exact rfl), hb⟩
            · rintro e g2 lo2 - - ⟨rfl, hlo2, he, hb⟩
              simp +decide (disch := first | assumption | (apply GH.ok_push; assumption) | exact cellV_int _ _ | exact cellV_bool _ | omega) only [go_sem, ↓reduceIte, Nat.reduceEqDiff, Nat.reduceAdd, Int.reduceToNat, he]
              exact ih (m - 1) _ _ _ (by omega) ⟨rfl, hlo2, i + 1, by omega, (by simp +decide (disch := first | assumption | (apply GH.ok_push; assumption) | exact cellV_int _ _ | exact cellV_bool _ | omega) only [go_sem, ↓reduceIte, Nat.reduceEqDiff, Nat.reduceAdd, Int.reduceToNat, he, hst]; first | done | exact rfl), by rw [hst]; exact hb⟩
            · rintro m2 e g2 lo2 ho2 hl2 ih2 out2 ⟨rfl, hlo2, k, hk, he, hb⟩
              by_cases ck : k < n
              · obtain ⟨q1, q2, q3⟩ := hookRow_get (L := L) (r := i) (c := k) (by omega)
                obtain ⟨j2, o2, hj2, hr1, hr2⟩ := hu.ptr q1
                have hr1 := hr1 (k : Int) rfl
                have hpos := hookV_pos c2 ci (c := k) (by omega)
                have hds := divs_snoc x (hookRow L i) k q3
                rw [q2] at hds
                have hb2 := tdiv_bnd hb.1 hpos.1
                have hb1 := hb.2
                have hb0 := hb.1
                simp +decide (disch := first | assumption | (apply GH.ok_push; assumption) | exact cellV_int _ _ | exact cellV_bool _ | omega) only [go_sem, ↓reduceIte, Nat.reduceEqDiff, Nat.reduceAdd, Int.reduceToNat, he, hp1, hp2, hlu, hr1, hr2]
                exact ih2 (m2 - 1) _ _ _ (by omega) ⟨rfl, hlo2, k + 1, by omega, (by simp +decide (disch := first | assumption | (apply GH.ok_push; assumption) | exact cellV_int _ _ | exact cellV_bool _ | omega) only [go_sem, ↓reduceIte, Nat.reduceEqDiff, Nat.reduceAdd, Int.reduceToNat, he, hds]; first | done | exact rfl), by rw [hds]; exact ⟨hb2.1, by omega⟩⟩
              · have htk : (hookRow L i).take k = hookRow L i := List.take_of_length_le (by rw [hookRow, rng_len]; omega)
                rw [htk] at he hb
                simp +decide (disch := first | assumption | (apply GH.ok_push; assumption) | exact cellV_int _ _ | exact cellV_bool _ | omega) only [go_sem, ↓reduceIte, Nat.reduceEqDiff, Nat.reduceAdd, Int.reduceToNat, he, hp1, hp2, hlu]
                exact out2 _ _ _ ⟨rfl, hlo2, (by simp +decide (disch := first | assumption | (apply GH.ok_push; assumption) | exact cellV_int _ _ | exact cellV_bool _ | omega) only [go_sem, ↓reduceIte, Nat.reduceEqDiff, Nat.reduceAdd, Int.reduceToNat, he]; first | done | exact rfl), hb⟩
          · have htk : (hooksL L).take i = hooksL L := List.take_of_length_le (by rw [hooksL_len]; omega)
            have hw : divs (fact N) (hooksL L).flatten = waysN L := by rw [waysN, hN]; rfl
            rw [htk, hw] at he
            simp +decide (disch := first | assumption | (apply GH.ok_push; assumption) | exact cellV_int _ _ | exact cellV_bool _ | omega) only [go_sem, ↓reduceIte, Nat.reduceEqDiff, Nat.reduceAdd, Int.reduceToNat, he, hlv]
            exact out _ _ _ ⟨rfl, hlo, (by simp +decide (disch := first | assumption | (apply GH.ok_push; assumption) | exact cellV_int _ _ | exact cellV_bool _ | omega) only [go_sem, ↓reduceIte, Nat.reduceEqDiff, Nat.reduceAdd, Int.reduceToNat, he]; first | done | exact rfl)⟩
      · rintro m e g' lo ho' hl' ih out ⟨rfl, hlo, i, hi, hi1, hi2, he⟩
        by_cases ci : i < N
        · have hb := fact_bnd (i + 1) (by omega)
          have hb2 := fact_bnd i (by omega)
          have hf : fact (i + 1) = fact i * ((i : Int) + 1) := rfl
          rw [hf] at hb
          simp +decide (disch := first | assumption | (apply GH.ok_push; assumption) | exact cellV_int _ _ | exact cellV_bool _ | omega) only [go_sem, ↓reduceIte, Nat.reduceEqDiff, Nat.reduceAdd, Int.reduceToNat, he]
          exact ih (m - 1) _ _ _ (by omega) ⟨rfl, hlo, i + 1, by omega, by omega, by omega, (by simp +decide (disch := first | assumption | (apply GH.ok_push; assumption) | exact cellV_int _ _ | exact cellV_bool _ | omega) only [go_sem, ↓reduceIte, Nat.reduceEqDiff, Nat.reduceAdd, Int.reduceToNat, he, hf]; first | done | exact rfl)⟩
        · have hfN : fact i = fact N := by
            rcases hi2 with hi2 | hi2
            · rw [show i = N by omega]
            · rcases (show N = 0 ∨ N = 1 by omega) with h | h <;> rw [hi2, h] <;> rfl
          rw [hfN] at he
          simp +decide (disch := first | assumption | (apply GH.ok_push; assumption) | exact cellV_int _ _ | exact cellV_bool _ | omega) only [go_sem, ↓reduceIte, Nat.reduceEqDiff, Nat.reduceAdd, Int.reduceToNat, he]
          exact out _ _ _ ⟨rfl, hlo, (by simp +decide (disch := first | assumption | (apply GH.ok_push; assumption) | exact cellV_int _ _ | exact cellV_bool _ | omega) only [go_sem, ↓reduceIte, Nat.reduceEqDiff, Nat.reduceAdd, Int.reduceToNat, he]; first | done | exact rfl)⟩
  · have c' : isShape L = false := by simpa using c
    simp +decide (disch := first | assumption | (apply GH.ok_push; assumption) | exact cellV_int _ _ | exact cellV_bool _ | omega) only [go_sem, ↓reduceIte, Nat.reduceEqDiff, Nat.reduceAdd, Int.reduceToNat, c']
    intro hx0
    exact ⟨by omega, by rw [waysT, if_neg c]⟩
end
/-- The law of the ways. -/
theorem waysLaw_rets {X : Caller} (hX : Xok X) (L : List Int) (s : Value) (g : GH) (hs : SlR g s (ints L)) :
    Rets Try.prog X 7 [s] g (fun v g' lo => g.next ≤ lo ∧ v = .bool true) := by
  refine Rets.run hX.pres p7 (hX.free 7 (by decide) _ _) rfl fun ho => ?_
  simp +decide (disch := first | assumption | (apply GH.ok_push; assumption) | exact cellV_int _ _ | exact cellV_bool _ | omega) only [go_sem, ↓reduceIte, Nat.reduceEqDiff, Nat.reduceAdd, Int.reduceToNat]
  refine CallD.calm (few_rets hX L [] s _ g hs Sl2.nil) ?_
  rintro v G hx rfl
  have hn := hx.next
  have hs1 := hs.ext hx
  by_cases c : L.length ≤ 60
  · have hf : fewB L [] = true := by simp [fewB, c]
    simp +decide (disch := first | assumption | (apply GH.ok_push; assumption) | exact cellV_int _ _ | exact cellV_bool _ | omega) only [go_sem, ↓reduceIte, Nat.reduceEqDiff, Nat.reduceAdd, Int.reduceToNat, hf]
    refine CallD.calm (ways_rets hX L (by omega) s G hs1) ?_
    rintro v G1 hx1 rfl
    have hn1 := hx1.next
    simp +decide (disch := first | assumption | (apply GH.ok_push; assumption) | exact cellV_int _ _ | exact cellV_bool _ | omega) only [go_sem, ↓reduceIte, Nat.reduceEqDiff, Nat.reduceAdd, Int.reduceToNat, ext0, ext1]
    refine CallD.calm (refWays_rets hX L (by omega) s G1 (hs1.ext hx1)) ?_
    rintro v G2 hx2 rfl
    have hn2 := hx2.next
    simp +decide (disch := first | assumption | (apply GH.ok_push; assumption) | exact cellV_int _ _ | exact cellV_bool _ | omega) only [go_sem, ↓reduceIte, Nat.reduceEqDiff, Nat.reduceAdd, Int.reduceToNat, ext0, ext1]
    refine CallD.calm (hX.alive G2) ?_
    rintro v G3 hx3 rfl
    have hn3 := hx3.next
    simp +decide (disch := first | assumption | (apply GH.ok_push; assumption) | exact cellV_int _ _ | exact cellV_bool _ | omega) only [go_sem, ↓reduceIte, Nat.reduceEqDiff, Nat.reduceAdd, Int.reduceToNat]
    intro hx0
    exact ⟨by omega, rfl⟩
  · have hf : fewB L [] = false := by simp [fewB, c]
    simp +decide (disch := first | assumption | (apply GH.ok_push; assumption) | exact cellV_int _ _ | exact cellV_bool _ | omega) only [go_sem, ↓reduceIte, Nat.reduceEqDiff, Nat.reduceAdd, Int.reduceToNat, hf]
    refine CallD.calm (hX.alive G) ?_
    rintro v G1 hx1 rfl
    have hn1 := hx1.next
    simp +decide (disch := first | assumption | (apply GH.ok_push; assumption) | exact cellV_int _ _ | exact cellV_bool _ | omega) only [go_sem, ↓reduceIte, Nat.reduceEqDiff, Nat.reduceAdd, Int.reduceToNat]
    intro hx0
    exact ⟨by omega, rfl⟩
end Go.Proofs.Ytieliilnnfjijaa
