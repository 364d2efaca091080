import Derived.Test.YtngmaccaldhjcaaDoorJ2
import Derived.Test.YtngmaccaldhjcaaDoorKe
import Derived.Test.YtngmaccaldhjcaaDoorDtO
set_option linter.all false
set_option linter.unusedSimpArgs false
set_option linter.unnecessarySimpa false
set_option linter.unusedVariables false
set_option linter.unusedSectionVars false
set_option maxRecDepth 100000
set_option maxHeartbeats 4000000
set_option linter.unusedSimpArgs false
set_option linter.unusedVariables false
namespace Go.Proofs.YtngmaccaldhjcaaDoor
open Go.Ds
/-! ## The table's numbers, with 0 beyond -/
def te (T : List (List Int)) (i k : Nat) : Int := (T.getD i []).getD k 0
def ne (L : List Int) (i : Nat) : Int := L.getD i 0
def mkT (T : List (List Int)) : Value := mkV T.length (te T 0 0) (te T 0 1) (te T 0 2) (te T 1 0) (te T 1 1) (te T 1 2) (te T 2 0) (te T 2 1) (te T 2 2)
theorem okG_sm {x : Int} (h : okG x = true) : Sm 20 x := by
  unfold okG at h
  simp only [Bool.and_eq_true, decide_eq_true_eq] at h
  exact h
theorem tab_len {T : List (List Int)} (h : tabB T = true) : 1 ≤ T.length ∧ T.length ≤ 3 ∧ (∀ R ∈ T, R.length = T.length ∧ ∀ x ∈ R, Sm 20 x) := by
  unfold tabB at h
  simp only [Bool.and_eq_true, decide_eq_true_eq, List.all_eq_true] at h
  obtain ⟨⟨h1, h2⟩, h3⟩ := h
  refine ⟨h1, h2, fun R hR => ?_⟩
  have := h3 R hR
  unfold rowB at this
  simp only [Bool.and_eq_true, decide_eq_true_eq, List.all_eq_true] at this
  exact ⟨this.1, fun x hx => okG_sm (this.2 x hx)⟩
theorem te_sm {T : List (List Int)} (h : tabB T = true) (i k : Nat) : Sm 20 (te T i k) := by
  obtain ⟨_, _, h3⟩ := tab_len h
  unfold te
  by_cases ci : i < T.length
  · have hR := List.getElem_mem ci
    have e : T.getD i [] = T[i] := by rw [List.getD_eq_getElem?_getD, List.getElem?_eq_getElem ci]; rfl
    rw [e]
    by_cases ck : k < T[i].length
    · have e2 : T[i].getD k 0 = T[i][k] := by rw [List.getD_eq_getElem?_getD, List.getElem?_eq_getElem ck]; rfl
      rw [e2]
      exact (h3 _ hR).2 _ (List.getElem_mem ck)
    · have e2 : T[i].getD k 0 = 0 := by rw [List.getD_eq_getElem?_getD, List.getElem?_eq_none (by omega)]; rfl
      rw [e2]; unfold Sm; omega
  · have e : T.getD i [] = [] := by rw [List.getD_eq_getElem?_getD, List.getElem?_eq_none (by omega)]; rfl
    rw [e]
    show Sm 20 0
    unfold Sm; omega
theorem tab_sm9 {T : List (List Int)} (h : tabB T = true) : Sm9 (te T 0 0) (te T 0 1) (te T 0 2) (te T 1 0) (te T 1 1) (te T 1 2) (te T 2 0) (te T 2 1) (te T 2 2) :=
  ⟨te_sm h _ _, te_sm h _ _, te_sm h _ _, te_sm h _ _, te_sm h _ _, te_sm h _ _, te_sm h _ _, te_sm h _ _, te_sm h _ _⟩
theorem tab_cases {T : List (List Int)} (h : tabB T = true) : (∃ a, T = [[a]]) ∨ (∃ a b c d, T = [[a, b], [c, d]]) ∨ (∃ a b c d e f p q r, T = [[a, b, c], [d, e, f], [p, q, r]]) := by
  obtain ⟨h1, h2, h3⟩ := tab_len h
  match T, h1, h2, h3 with
  | [R], _, _, h3 =>
    have := (h3 R (by simp)).1
    match R, this with
    | [a], _ => exact .inl ⟨a, rfl⟩
  | [R, S], _, _, h3 =>
    have r1 := (h3 R (by simp)).1
    have r2 := (h3 S (by simp)).1
    match R, S, r1, r2 with
    | [a, b], [c, d], _, _ => exact .inr (.inl ⟨a, b, c, d, rfl⟩)
  | [R, S, U], _, _, h3 =>
    have r1 := (h3 R (by simp)).1
    have r2 := (h3 S (by simp)).1
    have r3 := (h3 U (by simp)).1
    match R, S, U, r1, r2, r3 with
    | [a, b, c], [d, e, f], [p, q, r], _, _, _ => exact .inr (.inr ⟨a, b, c, d, e, f, p, q, r, rfl⟩)
theorem market_rets {X : Caller} (hX : Xok X) (T : List (List Int)) (hT : tabB T = true) (t : Value) (g : GH) (ht : Sl2 g t T) :
    Rets Tryd.prog X 51 [t] g (fun v g' lo => g.next ≤ lo ∧ v = mkT T) := by
  rcases tab_cases hT with ⟨a, rfl⟩ | ⟨a, b, c, d, rfl⟩ | ⟨a, b, c, d, e, f, p, q, r, rfl⟩
  · exact market1_rets hX a t g ht
  · exact market2_rets hX a b c d t g ht
  · exact market3_rets hX a b c d e f p q r t g ht
theorem mix_facts {n : Nat} {L : List Int} {d : Int} (h : mixB n L d = true) : 1 ≤ n ∧ n ≤ 3 ∧ L.length = n ∧ 1 ≤ d ∧ d ≤ 10000 ∧ (∀ i, 0 ≤ ne L i ∧ ne L i ≤ d) ∧ sumL L = d ∧ gcdL d.natAbs L = 1 := by
  unfold mixB headB at h
  simp only [Bool.and_eq_true, decide_eq_true_eq, List.all_eq_true] at h
  obtain ⟨⟨⟨⟨⟨⟨⟨h1, h2⟩, h3⟩, h4⟩, h5⟩, h6⟩, h7⟩, h8⟩ := h
  refine ⟨by omega, by omega, by omega, h4, h5, fun i => ?_, h7, h8⟩
  unfold ne
  by_cases c : i < L.length
  · have e : L.getD i 0 = L[i] := by rw [List.getD_eq_getElem?_getD, List.getElem?_eq_getElem c]; rfl
    rw [e]
    have := h6 _ (List.getElem_mem c)
    unfold inD at this
    simpa using this
  · have e : L.getD i 0 = 0 := by rw [List.getD_eq_getElem?_getD, List.getElem?_eq_none (by omega)]; rfl
    rw [e]; omega
/-! ## The gain of the specification -/
def sumZ (f : Nat → Int) : Nat → Int
  | 0 => 0
  | i + 1 => sumZ f i + f i
theorem sumZ_sm {f : Nat → Int} {B : Int} (hB : ∀ i, Sm B (f i)) : ∀ n : Nat, Sm (B * n) (sumZ f n)
  | 0 => by show Sm (B * 0) 0; unfold Sm; simp
  | n + 1 => by
    have h1 := sumZ_sm hB n
    have h2 := hB n
    unfold Sm at *
    have e : sumZ f (n + 1) = sumZ f n + f n := rfl
    rw [e]
    rw [show B * ((n + 1 : Nat) : Int) = B * n + B by rw [Int.natCast_add, Int.mul_add]; simp]
    omega
theorem refGain_rets {X : Caller} (hX : Xok X) (T : List (List Int)) (hT : tabB T = true) (P Q : List Int) (hP : P.length = T.length) (hQ : Q.length = T.length) (a b : Int) (ha : ∀ i, Sm a (ne P i)) (hb : ∀ i, Sm b (ne Q i)) (hab : a * b ≤ 1000000000000000000) (habc : a * b * 20 ≤ 1000000000000000000) (t s r : Value) (g : GH) (ht : Sl2 g t T) (hs : SlR g s (ints P)) (hr : SlR g r (ints Q)) :
    Rets Tryd.prog X 56 [t, s, r] g (fun v g' lo => g.next ≤ lo ∧ v = .int .i64 (sumZ (fun i => sumZ (fun k => ne P i * ne Q k * te T i k) T.length) T.length)) := by
  obtain ⟨t1, t2, t3⟩ := tab_len hT
  have hxy : ∀ i k, Sm 1000000000000000000 (ne P i * ne Q k) := fun i k => ((ha i).mul (hb k)).up hab
  have hf : ∀ i k, Sm 1000000000000000000 (ne P i * ne Q k * te T i k) := fun i k => (((ha i).mul (hb k)).mul (te_sm hT i k)).up habc
  have hin := fun i k => sumZ_sm (hf i) k
  have hl := ht.len
  have hlP := hs.len
  have hlQ := hr.len
  rw [ints_len] at hlP hlQ
  refine Rets.run hX.pres p56 (hX.free 56 (by decide) _ _) rfl fun ho => ?_
  simp +decide (disch := first | assumption | (apply GH.ok_push; assumption) | exact cellV_int _ _ | exact cellV_bool _ | omega) only [go_sem, ↓reduceIte, Nat.reduceEqDiff, Nat.reduceAdd, Int.reduceToNat, hl]
  refine Wk.loops (fun m e g' lo => g' = g ∧ g.next ≤ lo ∧ ∃ i : Nat, i + m = T.length ∧ (ev e (.s 0) = t ∧ ev e (.s 1) = s ∧ ev e (.s 2) = r ∧ ev e (.s 8) = .int .i64 i ∧ ev e (.s 7) = .int .i64 (sumZ (fun i => sumZ (fun k => ne P i * ne Q k * te T i k) T.length) i)))
    (fun e g' lo => g' = g ∧ g.next ≤ lo ∧ ev e (.s 7) = .int .i64 (sumZ (fun i => sumZ (fun k => ne P i * ne Q k * te T i k) T.length) T.length)) (n := T.length) ?_ ?_ ?_
  · exact ⟨rfl, Nat.le_refl _, 0, by omega, (by simp +decide (disch := first | assumption | (apply GH.ok_push; assumption) | exact cellV_int _ _ | exact cellV_bool _ | omega) only [go_sem, ↓reduceIte, Nat.reduceEqDiff, Nat.reduceAdd, Int.reduceToNat]; first | done | exact rfl)⟩
  · rintro e g' lo - - ⟨rfl, hlo, he⟩
    simp +decide (disch := first | assumption | (apply GH.ok_push; assumption) | exact cellV_int _ _ | exact cellV_bool _ | omega) only [go_sem, ↓reduceIte, Nat.reduceEqDiff, Nat.reduceAdd, Int.reduceToNat, he]
    intro hx
    exact ⟨hlo, rfl⟩
  · rintro m e g' lo ho' hl' ih out ⟨rfl, hlo, i, hi, he⟩
    by_cases ci : i < T.length
    · obtain ⟨v, j1, o1, hj1, hp1, hp2, hv⟩ := ht.ptr ci
      have hp1 := hp1 (i : Int) rfl
      have hTi := getD_get [] ci
      have hRl : (T.getD i []).length = T.length := (t3 _ (List.mem_of_getElem? hTi)).1
      obtain ⟨j3, o3, hj3, hs1, hs2⟩ := hs.ptr (ints_get (D := P) (i := i) (by omega))
      have hs1 := hs1 (i : Int) rfl
      obtain ⟨S0, hS0⟩ : ∃ S0, sumZ (fun i => sumZ (fun k => ne P i * ne Q k * te T i k) T.length) i = S0 := ⟨_, rfl⟩
      have hS1 : sumZ (fun i => sumZ (fun k => ne P i * ne Q k * te T i k) T.length) (i + 1) = S0 + sumZ (fun k => ne P i * ne Q k * te T i k) T.length := by rw [← hS0]; rfl
      have hSb : Sm (3000000000000000000 * i) S0 := by
        rw [← hS0]
        exact sumZ_sm (B := 3000000000000000000) (fun i => (hin i T.length).up (by omega)) i
      rw [hS0] at he
      simp +decide (disch := first | assumption | (apply GH.ok_push; assumption) | exact cellV_int _ _ | exact cellV_bool _ | omega) only [go_sem, ↓reduceIte, Nat.reduceEqDiff, Nat.reduceAdd, Int.reduceToNat, he, hl]
      refine Wk.loops (fun m2 e2 g2 lo2 => g2 = g' ∧ g'.next ≤ lo2 ∧ ∃ k : Nat, k + m2 = T.length ∧ (ev e2 (.s 0) = t ∧ ev e2 (.s 1) = s ∧ ev e2 (.s 2) = r ∧ ev e2 (.s 8) = .int .i64 i ∧ ev e2 (.s 9) = .int .i64 k ∧ ev e2 (.s 7) = .int .i64 (S0 + sumZ (fun k => ne P i * ne Q k * te T i k) k)))
        (fun e2 g2 lo2 => g2 = g' ∧ g'.next ≤ lo2 ∧ (ev e2 (.s 0) = t ∧ ev e2 (.s 1) = s ∧ ev e2 (.s 2) = r ∧ ev e2 (.s 8) = .int .i64 i ∧ ev e2 (.s 7) = .int .i64 (S0 + sumZ (fun k => ne P i * ne Q k * te T i k) T.length))) (n := T.length) ?_ ?_ ?_
      · have z0 : S0 + sumZ (fun k => ne P i * ne Q k * te T i k) 0 = S0 := Int.add_zero S0
        exact ⟨rfl, hlo, 0, by omega, by rw [z0]; exact (by simp +decide (disch := first | assumption | (apply GH.ok_push; assumption) | exact cellV_int _ _ | exact cellV_bool _ | omega) only [go_sem, ↓reduceIte, Nat.reduceEqDiff, Nat.reduceAdd, Int.reduceToNat, he]; first | done | exact rfl)⟩
      · rintro e2 g2 lo2 - - ⟨rfl, hlo2, he2⟩
        simp +decide (disch := first | assumption | (apply GH.ok_push; assumption) | exact cellV_int _ _ | exact cellV_bool _ | omega) only [go_sem, ↓reduceIte, Nat.reduceEqDiff, Nat.reduceAdd, Int.reduceToNat, he2]
        refine ih (m - 1) _ _ _ (by omega) ⟨rfl, hlo2, i + 1, by omega, by rw [hS1]; exact (by simp +decide (disch := first | assumption | (apply GH.ok_push; assumption) | exact cellV_int _ _ | exact cellV_bool _ | omega) only [go_sem, ↓reduceIte, Nat.reduceEqDiff, Nat.reduceAdd, Int.reduceToNat, he2]; first | done | exact rfl)⟩
      · rintro m2 e2 g2 lo2 ho2 hl2 ih2 out2 ⟨rfl, hlo2, k, hk, he2⟩
        by_cases ck : k < T.length
        · obtain ⟨j2, o2, hj2, hq1, hq2⟩ := hv.ptr (ints_get (D := T.getD i []) (i := k) (by omega))
          have hq1 := hq1 (k : Int) rfl
          obtain ⟨j4, o4, hj4, hr1, hr2⟩ := hr.ptr (ints_get (D := Q) (i := k) (by omega))
          have hr1 := hr1 (k : Int) rfl
          have ck' : (k : Int) < T.length := by omega
          have b1 := hxy i k
          have b2 := hf i k
          have b3 := hin i k
          have b4 : 1000000000000000000 * (k : Int) ≤ 2000000000000000000 := by omega
          have b5 : 3000000000000000000 * (i : Int) ≤ 6000000000000000000 := by omega
          obtain ⟨K, hK⟩ : ∃ K, sumZ (fun k => ne P i * ne Q k * te T i k) k = K := ⟨_, rfl⟩
          have hK1 : sumZ (fun k => ne P i * ne Q k * te T i k) (k + 1) = K + ne P i * ne Q k * te T i k := by rw [← hK]; rfl
          have e1 : P.getD i 0 = ne P i := rfl
          have e2' : Q.getD k 0 = ne Q k := rfl
          have e3 : (T.getD i []).getD k 0 = te T i k := rfl
          rw [hK] at he2 b3
          rw [e1] at hs2
          rw [e2'] at hr2
          rw [e3] at hq2
          obtain ⟨A, hA⟩ : ∃ A, ne P i * ne Q k = A := ⟨_, rfl⟩
          obtain ⟨B, hB⟩ : ∃ B, A * te T i k = B := ⟨_, rfl⟩
          rw [hA] at b1 b2 hK1
          rw [hB] at b2 hK1
          unfold Sm at b1 b2 b3 hSb
          simp +decide (disch := first | assumption | (apply GH.ok_push; assumption) | exact cellV_int _ _ | exact cellV_bool _ | omega) only [go_sem, ↓reduceIte, Nat.reduceEqDiff, Nat.reduceAdd, Int.reduceToNat, he2, hl, ck', hp1, hp2, hs1, hs2, hq1, hq2, hr1, hr2, hA, hB]
          refine ih2 (m2 - 1) _ _ _ (by omega) ⟨rfl, hlo2, k + 1, by omega, ?_⟩
          rw [hK1, ← Int.add_assoc]
          exact (by simp +decide (disch := first | assumption | (apply GH.ok_push; assumption) | exact cellV_int _ _ | exact cellV_bool _ | omega) only [go_sem, ↓reduceIte, Nat.reduceEqDiff, Nat.reduceAdd, Int.reduceToNat, he2]; first | done | exact rfl)
        · have ck' : ¬ (k : Int) < T.length := by omega
          have : k = T.length := by omega
          subst this
          simp +decide (disch := first | assumption | (apply GH.ok_push; assumption) | exact cellV_int _ _ | exact cellV_bool _ | omega) only [go_sem, ↓reduceIte, Nat.reduceEqDiff, Nat.reduceAdd, Int.reduceToNat, he2, hl, ck']
          exact out2 _ _ _ ⟨rfl, hlo2, (by simp +decide (disch := first | assumption | (apply GH.ok_push; assumption) | exact cellV_int _ _ | exact cellV_bool _ | omega) only [go_sem, ↓reduceIte, Nat.reduceEqDiff, Nat.reduceAdd, Int.reduceToNat, he2]; first | done | exact rfl)⟩
    · have ci' : ¬ (i : Int) < T.length := by omega
      have : i = T.length := by omega
      subst this
      simp +decide (disch := first | assumption | (apply GH.ok_push; assumption) | exact cellV_int _ _ | exact cellV_bool _ | omega) only [go_sem, ↓reduceIte, Nat.reduceEqDiff, Nat.reduceAdd, Int.reduceToNat, he, hl, ci']
      exact out _ _ _ ⟨rfl, hlo, (by simp +decide (disch := first | assumption | (apply GH.ok_push; assumption) | exact cellV_int _ _ | exact cellV_bool _ | omega) only [go_sem, ↓reduceIte, Nat.reduceEqDiff, Nat.reduceAdd, Int.reduceToNat, he]; first | done | exact rfl)⟩
/-- The two sums are the same. -/
def gT (T : List (List Int)) (x0 x1 x2 y0 y1 y2 : Int) : Int := gainZ (te T 0 0) (te T 0 1) (te T 0 2) (te T 1 0) (te T 1 1) (te T 1 2) (te T 2 0) (te T 2 1) (te T 2 2) x0 x1 x2 y0 y1 y2
theorem gain_same {T : List (List Int)} (hT : tabB T = true) {P Q : List Int} (hP : P.length = T.length) (hQ : Q.length = T.length) :
    sumZ (fun i => sumZ (fun k => ne P i * ne Q k * te T i k) T.length) T.length = gT T (ne P 0) (ne P 1) (ne P 2) (ne Q 0) (ne Q 1) (ne Q 2) := by
  rcases tab_cases hT with ⟨a, rfl⟩ | ⟨a, b, c, d, rfl⟩ | ⟨a, b, c, d, e, f, p, q, r, rfl⟩
  · match P, Q, hP, hQ with
    | [x], [y], _, _ => simp [sumZ, gT, gainZ, te, ne]
  · match P, Q, hP, hQ with
    | [x, x'], [y, y'], _, _ => simp [sumZ, gT, gainZ, te, ne]; grind
  · match P, Q, hP, hQ with
    | [x, x', x2], [y, y', y2], _, _ => simp [sumZ, gT, gainZ, te, ne]; grind
end Go.Proofs.YtngmaccaldhjcaaDoor
set_option maxRecDepth 100000
set_option maxHeartbeats 4000000
set_option linter.unusedSimpArgs false
set_option linter.unusedVariables false
namespace Go.Proofs.YtngmaccaldhjcaaDoor
open Go.Ds
theorem bslP2 (a b c d x y z w : Value) : bsl 2 #[a, b, c, d] [(0, .agg #[x, y]), (1, .agg #[z, w])] = some #[x, y, z, w] := rfl
theorem bslP1 (a b x y : Value) : bsl 2 #[a, b] [(0, .agg #[x, y])] = some #[x, y] := rfl
theorem bldP0 (a b : Value) : buildF [(0, 1), (1, 1)] none #[a, b] [] = some (.agg #[a, b]) := rfl
attribute [go_sem] bslP2 bslP1 bldP0
theorem two_pow3 {n : Nat} (h : n ≤ 3) : 2 ^ n ≤ 8 := by
  obtain rfl | rfl | rfl | rfl : n = 0 ∨ n = 1 ∨ n = 2 ∨ n = 3 := by omega
  all_goals decide
end Go.Proofs.YtngmaccaldhjcaaDoor
set_option maxRecDepth 100000
set_option maxHeartbeats 4000000
set_option linter.unusedSimpArgs false
set_option linter.unusedVariables false
namespace Go.Proofs.YtngmaccaldhjcaaDoor
open Go.Ds
def fewT (T : List (List Int)) : Bool := decide (T.length ≤ 20) && T.all (fun R => decide (R.length ≤ 20))
theorem fewT_Few {T : List (List Int)} (h : fewT T = true) : Few T := by
  unfold fewT at h
  simp only [Bool.and_eq_true, decide_eq_true_eq, List.all_eq_true] at h
  exact ⟨by omega, fun R hR => by have := h.2 R hR; omega⟩
theorem few0_rets {X : Caller} (hX : Xok X) (T : List (List Int)) (t : Value) (g : GH) (ht : Sl2 g t T) :
    Rets Tryd.prog X 15 [t, .slice none 0 0] g (fun v g' lo => g.next ≤ lo ∧ v = .bool (fewT T)) := by
  have hl := ht.len
  refine Rets.run hX.pres p15 (hX.free 15 (by decide) _ _) rfl fun ho => ?_
  by_cases c0 : (20 : Int) < T.length
  · simp +decide (disch := first | assumption | (apply GH.ok_push; assumption) | exact cellV_int _ _ | exact cellV_bool _ | omega) only [go_sem, ↓reduceIte, Nat.reduceEqDiff, Nat.reduceAdd, Int.reduceToNat, hl, c0]
    intro hx
    refine ⟨Nat.le_refl _, ?_⟩
    have : fewT T = false := by unfold fewT; rw [decide_eq_false (by omega)]; rfl
    simp [this]
  · simp +decide (disch := first | assumption | (apply GH.ok_push; assumption) | exact cellV_int _ _ | exact cellV_bool _ | omega) only [go_sem, ↓reduceIte, Nat.reduceEqDiff, Nat.reduceAdd, Int.reduceToNat, hl, c0]
    refine Wk.loops (fun m e g' lo => g' = g ∧ g.next ≤ lo ∧ ∃ i : Nat, i + m = T.length ∧ (ev e (.s 0) = t ∧ ev e (.s 1) = .slice none 0 0 ∧ ev e (.s 5) = .int .i64 i) ∧ (T.take i).all (fun R => decide (R.length ≤ 20)) = true)
      (fun e g' lo => g' = g ∧ g.next ≤ lo ∧ ev e (.s 1) = .slice none 0 0 ∧ fewT T = true) (n := T.length) ?_ ?_ ?_
    · exact ⟨rfl, Nat.le_refl _, 0, by omega, (by simp +decide (disch := first | assumption | (apply GH.ok_push; assumption) | exact cellV_int _ _ | exact cellV_bool _ | omega) only [go_sem, ↓reduceIte, Nat.reduceEqDiff, Nat.reduceAdd, Int.reduceToNat]; first | done | exact rfl), rfl⟩
    · rintro e g' lo - - ⟨rfl, hlo, he, h⟩
      rw [h]
      simp +decide (disch := first | assumption | exact cellV_int _ _ | exact cellV_bool _ | omega | (simp only [GH.pn, GH.sn] <;> omega) | (with_reducible ((repeat (first | apply GH.ok_push | apply GH.ok_set)); assumption)) | ((try simp only [GH.push_hid, GH.set_hid]); first | assumption | (refine GH.vis ?_ ?_ <;> first | assumption | ((try simp only [GH.pn, GH.sn]) <;> omega)))) only [go_sem, ↓reduceIte, Nat.reduceEqDiff, Nat.reduceAdd, Int.reduceToNat, Int.reduceAdd, Int.reduceNeg, Int.reduceSub, Int.reduceMul, Int.reduceLT, Int.reduceLE, Int.reduceEq, ↓GH.gp_eq, ↓GH.gp_ne, ↓GH.gs_eq, ↓GH.gs_ne, GH.push_next, GH.set_next, he]
      repeat ((first | refine Wk.once ?_ | refine Wk.more (Wk.once ?_) | refine Wk.leave ?_); simp +decide (disch := first | assumption | exact cellV_int _ _ | exact cellV_bool _ | omega | (simp only [GH.pn, GH.sn] <;> omega) | (with_reducible ((repeat (first | apply GH.ok_push | apply GH.ok_set)); assumption)) | ((try simp only [GH.push_hid, GH.set_hid]); first | assumption | (refine GH.vis ?_ ?_ <;> first | assumption | ((try simp only [GH.pn, GH.sn]) <;> omega)))) only [go_sem, ↓reduceIte, Nat.reduceEqDiff, Nat.reduceAdd, Int.reduceToNat, Int.reduceAdd, Int.reduceNeg, Int.reduceSub, Int.reduceMul, Int.reduceLT, Int.reduceLE, Int.reduceEq, ↓GH.gp_eq, ↓GH.gp_ne, ↓GH.gs_eq, ↓GH.gs_ne, GH.push_next, GH.set_next, he])
      intro hx
      exact ⟨hlo, rfl⟩
    · rintro m e g' lo ho' hl' ih out ⟨rfl, hlo, i, hi, he, hp⟩
      by_cases ci : i < T.length
      · have ci' : (i : Int) < T.length := by omega
        obtain ⟨v, j1, o1, hj1, hp1, hp2, hv⟩ := ht.ptr ci
        have hp1 := hp1 (i : Int) rfl
        have hTi := getD_get [] ci
        obtain ⟨R, hR'⟩ : ∃ R, T.getD i [] = R := ⟨_, rfl⟩
        rw [hR'] at hv hTi
        have hvl := hv.len
        rw [ints_len] at hvl
        by_cases cl : (20 : Int) < R.length
        · simp +decide (disch := first | assumption | (apply GH.ok_push; assumption) | exact cellV_int _ _ | exact cellV_bool _ | omega) only [go_sem, ↓reduceIte, Nat.reduceEqDiff, Nat.reduceAdd, Int.reduceToNat, he, hl, hp1, hp2, hvl, cl, ci']
          intro hx
          refine ⟨hlo, ?_⟩
          have : fewT T = false := by
            unfold fewT
            rw [all_bad hTi (by simp; omega), Bool.and_false]
          simp [this]
        · simp +decide (disch := first | assumption | (apply GH.ok_push; assumption) | exact cellV_int _ _ | exact cellV_bool _ | omega) only [go_sem, ↓reduceIte, Nat.reduceEqDiff, Nat.reduceAdd, Int.reduceToNat, he, hl, hp1, hp2, hvl, cl, ci']
          refine ih (m - 1) _ _ _ (by omega) ⟨rfl, hlo, i + 1, by omega, (by simp +decide (disch := first | assumption | (apply GH.ok_push; assumption) | exact cellV_int _ _ | exact cellV_bool _ | omega) only [go_sem, ↓reduceIte, Nat.reduceEqDiff, Nat.reduceAdd, Int.reduceToNat, he]; first | done | exact rfl), ?_⟩
          rw [all_snoc _ T i R hTi, hp]
          first | (simp; done) | (simp; omega)
      · have ci' : ¬ (i : Int) < T.length := by omega
        simp +decide (disch := first | assumption | (apply GH.ok_push; assumption) | exact cellV_int _ _ | exact cellV_bool _ | omega) only [go_sem, ↓reduceIte, Nat.reduceEqDiff, Nat.reduceAdd, Int.reduceToNat, he, hl, ci']
        rw [List.take_of_length_le (by omega)] at hp
        refine out _ _ _ ⟨rfl, hlo, (by simp +decide (disch := first | assumption | (apply GH.ok_push; assumption) | exact cellV_int _ _ | exact cellV_bool _ | omega) only [go_sem, ↓reduceIte, Nat.reduceEqDiff, Nat.reduceAdd, Int.reduceToNat, he]; first | done | exact rfl), ?_⟩
        unfold fewT
        rw [decide_eq_true (by omega), hp]; rfl
theorem few1_rets {X : Caller} (hX : Xok X) (T : List (List Int)) (L : List Int) (s : Value) (d : Int) (t : Value) (g : GH) (ht : Sl2 g t T) (hs : SlR g s (ints L)) (j : Nat) (ty : TypeId) (hj : j < g.next) (hg : g.get j = cellsOb [s, .int .i64 d] ty) :
    Rets Tryd.prog X 15 [t, .slice (some ⟨j, 0, none⟩) 1 1] g (fun v g' lo => g.next ≤ lo ∧ v = .bool (fewT T && decide (L.length ≤ 20))) := by
  have hia : iaddrSF 2 (.slice (some ⟨j, 0, none⟩) 1 1) (.int .i64 0) = some (.pointer (some ⟨j, 0, none⟩)) := rfl
  have hls := hs.len
  rw [ints_len] at hls
  have hl := ht.len
  refine Rets.run hX.pres p15 (hX.free 15 (by decide) _ _) rfl fun ho => ?_
  by_cases c0 : (20 : Int) < T.length
  · simp +decide (disch := first | assumption | (apply GH.ok_push; assumption) | exact cellV_int _ _ | exact cellV_bool _ | omega) only [go_sem, ↓reduceIte, Nat.reduceEqDiff, Nat.reduceAdd, Int.reduceToNat, hl, c0]
    intro hx
    refine ⟨Nat.le_refl _, ?_⟩
    have : fewT T = false := by unfold fewT; rw [decide_eq_false (by omega)]; rfl
    simp [this]
  · simp +decide (disch := first | assumption | (apply GH.ok_push; assumption) | exact cellV_int _ _ | exact cellV_bool _ | omega) only [go_sem, ↓reduceIte, Nat.reduceEqDiff, Nat.reduceAdd, Int.reduceToNat, hl, c0]
    refine Wk.loops (fun m e g' lo => g' = g ∧ g.next ≤ lo ∧ ∃ i : Nat, i + m = T.length ∧ (ev e (.s 0) = t ∧ ev e (.s 1) = .slice (some ⟨j, 0, none⟩) 1 1 ∧ ev e (.s 5) = .int .i64 i) ∧ (T.take i).all (fun R => decide (R.length ≤ 20)) = true)
      (fun e g' lo => g' = g ∧ g.next ≤ lo ∧ ev e (.s 1) = .slice (some ⟨j, 0, none⟩) 1 1 ∧ fewT T = true) (n := T.length) ?_ ?_ ?_
    · exact ⟨rfl, Nat.le_refl _, 0, by omega, (by simp +decide (disch := first | assumption | (apply GH.ok_push; assumption) | exact cellV_int _ _ | exact cellV_bool _ | omega) only [go_sem, ↓reduceIte, Nat.reduceEqDiff, Nat.reduceAdd, Int.reduceToNat]; first | done | exact rfl), rfl⟩
    · rintro e g' lo - - ⟨rfl, hlo, he, h⟩
      rw [h, Bool.true_and]
      by_cases q1 : (20 : Int) < L.length
      · simp +decide (disch := first | assumption | exact cellV_int _ _ | exact cellV_bool _ | omega | (simp only [GH.pn, GH.sn] <;> omega) | (with_reducible ((repeat (first | apply GH.ok_push | apply GH.ok_set)); assumption)) | ((try simp only [GH.push_hid, GH.set_hid]); first | assumption | (refine GH.vis ?_ ?_ <;> first | assumption | ((try simp only [GH.pn, GH.sn]) <;> omega)))) only [go_sem, ↓reduceIte, Nat.reduceEqDiff, Nat.reduceAdd, Int.reduceToNat, Int.reduceAdd, Int.reduceNeg, Int.reduceSub, Int.reduceMul, Int.reduceLT, Int.reduceLE, Int.reduceEq, ↓GH.gp_eq, ↓GH.gp_ne, ↓GH.gs_eq, ↓GH.gs_ne, GH.push_next, GH.set_next, he]
        repeat ((first | refine Wk.once ?_ | refine Wk.more (Wk.once ?_) | refine Wk.leave ?_); simp +decide (disch := first | assumption | exact cellV_int _ _ | exact cellV_bool _ | omega | (simp only [GH.pn, GH.sn] <;> omega) | (with_reducible ((repeat (first | apply GH.ok_push | apply GH.ok_set)); assumption)) | ((try simp only [GH.push_hid, GH.set_hid]); first | assumption | (refine GH.vis ?_ ?_ <;> first | assumption | ((try simp only [GH.pn, GH.sn]) <;> omega)))) only [go_sem, ↓reduceIte, Nat.reduceEqDiff, Nat.reduceAdd, Int.reduceToNat, Int.reduceAdd, Int.reduceNeg, Int.reduceSub, Int.reduceMul, Int.reduceLT, Int.reduceLE, Int.reduceEq, ↓GH.gp_eq, ↓GH.gp_ne, ↓GH.gs_eq, ↓GH.gs_ne, GH.push_next, GH.set_next, he, hia, hg, hls, q1])
        intro hx
        refine ⟨hlo, ?_⟩
        first | rfl | (rw [decide_eq_false (show ¬ L.length ≤ 20 by omega)])
      · simp +decide (disch := first | assumption | exact cellV_int _ _ | exact cellV_bool _ | omega | (simp only [GH.pn, GH.sn] <;> omega) | (with_reducible ((repeat (first | apply GH.ok_push | apply GH.ok_set)); assumption)) | ((try simp only [GH.push_hid, GH.set_hid]); first | assumption | (refine GH.vis ?_ ?_ <;> first | assumption | ((try simp only [GH.pn, GH.sn]) <;> omega)))) only [go_sem, ↓reduceIte, Nat.reduceEqDiff, Nat.reduceAdd, Int.reduceToNat, Int.reduceAdd, Int.reduceNeg, Int.reduceSub, Int.reduceMul, Int.reduceLT, Int.reduceLE, Int.reduceEq, ↓GH.gp_eq, ↓GH.gp_ne, ↓GH.gs_eq, ↓GH.gs_ne, GH.push_next, GH.set_next, he]
        repeat ((first | refine Wk.once ?_ | refine Wk.more (Wk.once ?_) | refine Wk.leave ?_); simp +decide (disch := first | assumption | exact cellV_int _ _ | exact cellV_bool _ | omega | (simp only [GH.pn, GH.sn] <;> omega) | (with_reducible ((repeat (first | apply GH.ok_push | apply GH.ok_set)); assumption)) | ((try simp only [GH.push_hid, GH.set_hid]); first | assumption | (refine GH.vis ?_ ?_ <;> first | assumption | ((try simp only [GH.pn, GH.sn]) <;> omega)))) only [go_sem, ↓reduceIte, Nat.reduceEqDiff, Nat.reduceAdd, Int.reduceToNat, Int.reduceAdd, Int.reduceNeg, Int.reduceSub, Int.reduceMul, Int.reduceLT, Int.reduceLE, Int.reduceEq, ↓GH.gp_eq, ↓GH.gp_ne, ↓GH.gs_eq, ↓GH.gs_ne, GH.push_next, GH.set_next, he, hia, hg, hls, q1])
        intro hx
        refine ⟨hlo, ?_⟩
        first | rfl | (rw [decide_eq_true (show L.length ≤ 20 by omega)])
    · rintro m e g' lo ho' hl' ih out ⟨rfl, hlo, i, hi, he, hp⟩
      by_cases ci : i < T.length
      · have ci' : (i : Int) < T.length := by omega
        obtain ⟨v, j1, o1, hj1, hp1, hp2, hv⟩ := ht.ptr ci
        have hp1 := hp1 (i : Int) rfl
        have hTi := getD_get [] ci
        obtain ⟨R, hR'⟩ : ∃ R, T.getD i [] = R := ⟨_, rfl⟩
        rw [hR'] at hv hTi
        have hvl := hv.len
        rw [ints_len] at hvl
        by_cases cl : (20 : Int) < R.length
        · simp +decide (disch := first | assumption | (apply GH.ok_push; assumption) | exact cellV_int _ _ | exact cellV_bool _ | omega) only [go_sem, ↓reduceIte, Nat.reduceEqDiff, Nat.reduceAdd, Int.reduceToNat, he, hl, hp1, hp2, hvl, cl, ci']
          intro hx
          refine ⟨hlo, ?_⟩
          have : fewT T = false := by
            unfold fewT
            rw [all_bad hTi (by simp; omega), Bool.and_false]
          simp [this]
        · simp +decide (disch := first | assumption | (apply GH.ok_push; assumption) | exact cellV_int _ _ | exact cellV_bool _ | omega) only [go_sem, ↓reduceIte, Nat.reduceEqDiff, Nat.reduceAdd, Int.reduceToNat, he, hl, hp1, hp2, hvl, cl, ci']
          refine ih (m - 1) _ _ _ (by omega) ⟨rfl, hlo, i + 1, by omega, (by simp +decide (disch := first | assumption | (apply GH.ok_push; assumption) | exact cellV_int _ _ | exact cellV_bool _ | omega) only [go_sem, ↓reduceIte, Nat.reduceEqDiff, Nat.reduceAdd, Int.reduceToNat, he]; first | done | exact rfl), ?_⟩
          rw [all_snoc _ T i R hTi, hp]
          first | (simp; done) | (simp; omega)
      · have ci' : ¬ (i : Int) < T.length := by omega
        simp +decide (disch := first | assumption | (apply GH.ok_push; assumption) | exact cellV_int _ _ | exact cellV_bool _ | omega) only [go_sem, ↓reduceIte, Nat.reduceEqDiff, Nat.reduceAdd, Int.reduceToNat, he, hl, ci']
        rw [List.take_of_length_le (by omega)] at hp
        refine out _ _ _ ⟨rfl, hlo, (by simp +decide (disch := first | assumption | (apply GH.ok_push; assumption) | exact cellV_int _ _ | exact cellV_bool _ | omega) only [go_sem, ↓reduceIte, Nat.reduceEqDiff, Nat.reduceAdd, Int.reduceToNat, he]; first | done | exact rfl), ?_⟩
        unfold fewT
        rw [decide_eq_true (by omega), hp]; rfl
theorem few2_rets {X : Caller} (hX : Xok X) (T : List (List Int)) (L : List Int) (s : Value) (d : Int) (M : List Int) (r : Value) (f : Int) (t : Value) (g : GH) (ht : Sl2 g t T) (hs : SlR g s (ints L)) (hr : SlR g r (ints M)) (j : Nat) (ty : TypeId) (hj : j < g.next) (hg : g.get j = cellsOb [s, .int .i64 d, r, .int .i64 f] ty) :
    Rets Tryd.prog X 15 [t, .slice (some ⟨j, 0, none⟩) 2 2] g (fun v g' lo => g.next ≤ lo ∧ v = .bool (fewT T && decide (L.length ≤ 20) && decide (M.length ≤ 20))) := by
  have hia : iaddrSF 2 (.slice (some ⟨j, 0, none⟩) 2 2) (.int .i64 0) = some (.pointer (some ⟨j, 0, none⟩)) := rfl
  have hib : iaddrSF 2 (.slice (some ⟨j, 0, none⟩) 2 2) (.int .i64 1) = some (.pointer (some ⟨j, 2, none⟩)) := by
    show some (Value.pointer (some ((⟨j, 0, none⟩ : Addr).add 2))) = _
    unfold Addr.add; rfl
  have hls := hs.len
  rw [ints_len] at hls
  have hlr := hr.len
  rw [ints_len] at hlr
  have hl := ht.len
  refine Rets.run hX.pres p15 (hX.free 15 (by decide) _ _) rfl fun ho => ?_
  by_cases c0 : (20 : Int) < T.length
  · simp +decide (disch := first | assumption | (apply GH.ok_push; assumption) | exact cellV_int _ _ | exact cellV_bool _ | omega) only [go_sem, ↓reduceIte, Nat.reduceEqDiff, Nat.reduceAdd, Int.reduceToNat, hl, c0]
    intro hx
    refine ⟨Nat.le_refl _, ?_⟩
    have : fewT T = false := by unfold fewT; rw [decide_eq_false (by omega)]; rfl
    simp [this]
  · simp +decide (disch := first | assumption | (apply GH.ok_push; assumption) | exact cellV_int _ _ | exact cellV_bool _ | omega) only [go_sem, ↓reduceIte, Nat.reduceEqDiff, Nat.reduceAdd, Int.reduceToNat, hl, c0]
    refine Wk.loops (fun m e g' lo => g' = g ∧ g.next ≤ lo ∧ ∃ i : Nat, i + m = T.length ∧ (ev e (.s 0) = t ∧ ev e (.s 1) = .slice (some ⟨j, 0, none⟩) 2 2 ∧ ev e (.s 5) = .int .i64 i) ∧ (T.take i).all (fun R => decide (R.length ≤ 20)) = true)
      (fun e g' lo => g' = g ∧ g.next ≤ lo ∧ ev e (.s 1) = .slice (some ⟨j, 0, none⟩) 2 2 ∧ fewT T = true) (n := T.length) ?_ ?_ ?_
    · exact ⟨rfl, Nat.le_refl _, 0, by omega, (by simp +decide (disch := first | assumption | (apply GH.ok_push; assumption) | exact cellV_int _ _ | exact cellV_bool _ | omega) only [go_sem, ↓reduceIte, Nat.reduceEqDiff, Nat.reduceAdd, Int.reduceToNat]; first | done | exact rfl), rfl⟩
    · rintro e g' lo - - ⟨rfl, hlo, he, h⟩
      rw [h, Bool.true_and]
      by_cases q1 : (20 : Int) < L.length
      · simp +decide (disch := first | assumption | exact cellV_int _ _ | exact cellV_bool _ | omega | (simp only [GH.pn, GH.sn] <;> omega) | (with_reducible ((repeat (first | apply GH.ok_push | apply GH.ok_set)); assumption)) | ((try simp only [GH.push_hid, GH.set_hid]); first | assumption | (refine GH.vis ?_ ?_ <;> first | assumption | ((try simp only [GH.pn, GH.sn]) <;> omega)))) only [go_sem, ↓reduceIte, Nat.reduceEqDiff, Nat.reduceAdd, Int.reduceToNat, Int.reduceAdd, Int.reduceNeg, Int.reduceSub, Int.reduceMul, Int.reduceLT, Int.reduceLE, Int.reduceEq, ↓GH.gp_eq, ↓GH.gp_ne, ↓GH.gs_eq, ↓GH.gs_ne, GH.push_next, GH.set_next, he]
        repeat ((first | refine Wk.once ?_ | refine Wk.more (Wk.once ?_) | refine Wk.leave ?_); simp +decide (disch := first | assumption | exact cellV_int _ _ | exact cellV_bool _ | omega | (simp only [GH.pn, GH.sn] <;> omega) | (with_reducible ((repeat (first | apply GH.ok_push | apply GH.ok_set)); assumption)) | ((try simp only [GH.push_hid, GH.set_hid]); first | assumption | (refine GH.vis ?_ ?_ <;> first | assumption | ((try simp only [GH.pn, GH.sn]) <;> omega)))) only [go_sem, ↓reduceIte, Nat.reduceEqDiff, Nat.reduceAdd, Int.reduceToNat, Int.reduceAdd, Int.reduceNeg, Int.reduceSub, Int.reduceMul, Int.reduceLT, Int.reduceLE, Int.reduceEq, ↓GH.gp_eq, ↓GH.gp_ne, ↓GH.gs_eq, ↓GH.gs_ne, GH.push_next, GH.set_next, he, hia, hib, hg, hls, q1])
        intro hx
        refine ⟨hlo, ?_⟩
        first | rfl | (rw [decide_eq_false (show ¬ L.length ≤ 20 by omega)]; rfl)
      · by_cases q2 : (20 : Int) < M.length
        · simp +decide (disch := first | assumption | exact cellV_int _ _ | exact cellV_bool _ | omega | (simp only [GH.pn, GH.sn] <;> omega) | (with_reducible ((repeat (first | apply GH.ok_push | apply GH.ok_set)); assumption)) | ((try simp only [GH.push_hid, GH.set_hid]); first | assumption | (refine GH.vis ?_ ?_ <;> first | assumption | ((try simp only [GH.pn, GH.sn]) <;> omega)))) only [go_sem, ↓reduceIte, Nat.reduceEqDiff, Nat.reduceAdd, Int.reduceToNat, Int.reduceAdd, Int.reduceNeg, Int.reduceSub, Int.reduceMul, Int.reduceLT, Int.reduceLE, Int.reduceEq, ↓GH.gp_eq, ↓GH.gp_ne, ↓GH.gs_eq, ↓GH.gs_ne, GH.push_next, GH.set_next, he]
          repeat ((first | refine Wk.once ?_ | refine Wk.more (Wk.once ?_) | refine Wk.leave ?_); simp +decide (disch := first | assumption | exact cellV_int _ _ | exact cellV_bool _ | omega | (simp only [GH.pn, GH.sn] <;> omega) | (with_reducible ((repeat (first | apply GH.ok_push | apply GH.ok_set)); assumption)) | ((try simp only [GH.push_hid, GH.set_hid]); first | assumption | (refine GH.vis ?_ ?_ <;> first | assumption | ((try simp only [GH.pn, GH.sn]) <;> omega)))) only [go_sem, ↓reduceIte, Nat.reduceEqDiff, Nat.reduceAdd, Int.reduceToNat, Int.reduceAdd, Int.reduceNeg, Int.reduceSub, Int.reduceMul, Int.reduceLT, Int.reduceLE, Int.reduceEq, ↓GH.gp_eq, ↓GH.gp_ne, ↓GH.gs_eq, ↓GH.gs_ne, GH.push_next, GH.set_next, he, hia, hib, hg, hls, hlr, q1, q2])
          intro hx
          refine ⟨hlo, ?_⟩
          first | rfl | (rw [decide_eq_false (show ¬ M.length ≤ 20 by omega)]; simp)
        · simp +decide (disch := first | assumption | exact cellV_int _ _ | exact cellV_bool _ | omega | (simp only [GH.pn, GH.sn] <;> omega) | (with_reducible ((repeat (first | apply GH.ok_push | apply GH.ok_set)); assumption)) | ((try simp only [GH.push_hid, GH.set_hid]); first | assumption | (refine GH.vis ?_ ?_ <;> first | assumption | ((try simp only [GH.pn, GH.sn]) <;> omega)))) only [go_sem, ↓reduceIte, Nat.reduceEqDiff, Nat.reduceAdd, Int.reduceToNat, Int.reduceAdd, Int.reduceNeg, Int.reduceSub, Int.reduceMul, Int.reduceLT, Int.reduceLE, Int.reduceEq, ↓GH.gp_eq, ↓GH.gp_ne, ↓GH.gs_eq, ↓GH.gs_ne, GH.push_next, GH.set_next, he]
          repeat ((first | refine Wk.once ?_ | refine Wk.more (Wk.once ?_) | refine Wk.leave ?_); simp +decide (disch := first | assumption | exact cellV_int _ _ | exact cellV_bool _ | omega | (simp only [GH.pn, GH.sn] <;> omega) | (with_reducible ((repeat (first | apply GH.ok_push | apply GH.ok_set)); assumption)) | ((try simp only [GH.push_hid, GH.set_hid]); first | assumption | (refine GH.vis ?_ ?_ <;> first | assumption | ((try simp only [GH.pn, GH.sn]) <;> omega)))) only [go_sem, ↓reduceIte, Nat.reduceEqDiff, Nat.reduceAdd, Int.reduceToNat, Int.reduceAdd, Int.reduceNeg, Int.reduceSub, Int.reduceMul, Int.reduceLT, Int.reduceLE, Int.reduceEq, ↓GH.gp_eq, ↓GH.gp_ne, ↓GH.gs_eq, ↓GH.gs_ne, GH.push_next, GH.set_next, he, hia, hib, hg, hls, hlr, q1, q2])
          intro hx
          refine ⟨hlo, ?_⟩
          first | rfl | (rw [decide_eq_true (show L.length ≤ 20 by omega), decide_eq_true (show M.length ≤ 20 by omega)]; rfl)
    · rintro m e g' lo ho' hl' ih out ⟨rfl, hlo, i, hi, he, hp⟩
      by_cases ci : i < T.length
      · have ci' : (i : Int) < T.length := by omega
        obtain ⟨v, j1, o1, hj1, hp1, hp2, hv⟩ := ht.ptr ci
        have hp1 := hp1 (i : Int) rfl
        have hTi := getD_get [] ci
        obtain ⟨R, hR'⟩ : ∃ R, T.getD i [] = R := ⟨_, rfl⟩
        rw [hR'] at hv hTi
        have hvl := hv.len
        rw [ints_len] at hvl
        by_cases cl : (20 : Int) < R.length
        · simp +decide (disch := first | assumption | (apply GH.ok_push; assumption) | exact cellV_int _ _ | exact cellV_bool _ | omega) only [go_sem, ↓reduceIte, Nat.reduceEqDiff, Nat.reduceAdd, Int.reduceToNat, he, hl, hp1, hp2, hvl, cl, ci']
          intro hx
          refine ⟨hlo, ?_⟩
          have : fewT T = false := by
            unfold fewT
            rw [all_bad hTi (by simp; omega), Bool.and_false]
          simp [this]
        · simp +decide (disch := first | assumption | (apply GH.ok_push; assumption) | exact cellV_int _ _ | exact cellV_bool _ | omega) only [go_sem, ↓reduceIte, Nat.reduceEqDiff, Nat.reduceAdd, Int.reduceToNat, he, hl, hp1, hp2, hvl, cl, ci']
          refine ih (m - 1) _ _ _ (by omega) ⟨rfl, hlo, i + 1, by omega, (by simp +decide (disch := first | assumption | (apply GH.ok_push; assumption) | exact cellV_int _ _ | exact cellV_bool _ | omega) only [go_sem, ↓reduceIte, Nat.reduceEqDiff, Nat.reduceAdd, Int.reduceToNat, he]; first | done | exact rfl), ?_⟩
          rw [all_snoc _ T i R hTi, hp]
          first | (simp; done) | (simp; omega)
      · have ci' : ¬ (i : Int) < T.length := by omega
        simp +decide (disch := first | assumption | (apply GH.ok_push; assumption) | exact cellV_int _ _ | exact cellV_bool _ | omega) only [go_sem, ↓reduceIte, Nat.reduceEqDiff, Nat.reduceAdd, Int.reduceToNat, he, hl, ci']
        rw [List.take_of_length_le (by omega)] at hp
        refine out _ _ _ ⟨rfl, hlo, (by simp +decide (disch := first | assumption | (apply GH.ok_push; assumption) | exact cellV_int _ _ | exact cellV_bool _ | omega) only [go_sem, ↓reduceIte, Nat.reduceEqDiff, Nat.reduceAdd, Int.reduceToNat, he]; first | done | exact rfl), ?_⟩
        unfold fewT
        rw [decide_eq_true (by omega), hp]; rfl
end Go.Proofs.YtngmaccaldhjcaaDoor
set_option maxRecDepth 100000
set_option maxHeartbeats 4000000
set_option linter.unusedSimpArgs false
set_option linter.unusedVariables false
set_option linter.unusedSectionVars false
namespace Go.Ds
section
variable {P : Program} {X : Caller} {Q : Out → Env → GH → Nat → Prop} {dd : Option P3} {l : List PI} {k : Nat} {sp : List (Nat × (Nat × Nat))} {wr : List Nat} {ks : List Fr} {e : Env} {g : GH} {lo : Nat}
/-- Appending to a full slice: to new memory that may be written to. -/
theorem AppD.fullM {t t' : TypeId} {b j : Nat} {xv : Value} {vs new cells : List Value} {base : Nat} (hj : g.get j = cellsOb cells t') (hcs : cells.take vs.length = vs) (hlc : vs.length ≤ cells.length) (hnew : SlR g xv new) (hne : new ≠ [])
    (hsz : (vs.length + new.length) * (b + 1) ≤ 1073741824) (hb : base ≤ g.next) (ho : g.ok)
    (h : ∀ s' g' sp wr, GrewM g g' s' (vs ++ new) t base → Kept g g' → Wk P X Q (.R l (k + 1) sp wr ks (putE e dd s') g' lo)) : AppD P X Q t 1 b (.slice (some ⟨j, 0, Option.none⟩) vs.length vs.length) xv [] dd l k sp wr ks e g lo := fun y z hy hz => by
  have hlen : lenF xv = some new.length := by
    rcases hnew with ⟨rfl, rfl⟩ | ⟨j, off, cap, ob, rfl, _⟩ <;> rfl
  have hstr : strOk 1 xv = true := by
    rcases hnew with ⟨rfl, rfl⟩ | ⟨j, off, cap, ob, rfl, _⟩ <;> rfl
  have hfirst : ∀ lo, firstF (g.at lo) 1 new.length xv = some new := by
    intro lo
    rcases hnew with ⟨rfl, rfl⟩ | ⟨j, off, cap, ob, rfl, h2, h3, h4, h5, h6⟩
    · exact absurd rfl hne
    · simp only [firstF, Nat.mul_one]
      have := SlR.readN (cap := cap) (lo := lo) h3 h4 h5 h6 (i := 0) (n := new.length) (by omega)
      rw [Nat.add_zero, List.drop_zero, List.take_length] at this
      exact this
  have hpos : 0 < new.length := List.length_pos_iff.2 hne
  have hz0 : Nat.beq new.length 0 = false := by rw [beq_d, decide_eq_false_iff_not]; omega
  have hbig : vs.length < OPEN := by
    have : vs.length + new.length ≤ 1073741824 := Nat.le_trans (Nat.le_mul_of_pos_right _ (Nat.succ_pos b)) hsz
    unfold OPEN; omega
  let G : GH := ⟨T5.set g.tr g.next (slackOb (vs ++ new) t g.next), Nat.succ g.next, g.hid, T5.set g.fams g.next [(g.next, (vs ++ new).length)]⟩
  refine GR.more (v := .slice (some ⟨g.next, 0, Option.none⟩) (vs.length + new.length) (OPEN + 1)) (g' := G) rfl (Hp.mk (bnd (g.next + 1)) fun call => ?_) rfl (Nat.le_succ _) (h _ G _ _ ?_ ?_).R
  · simp only [runH, hy, hz, hstr, cond_true, appF, hlen]
    rw [mul_succ_le hsz, hz0, hfirst]
    simp only [cond_false]
    rw [show (g.at g.next).get j = cellsOb cells t' from hj]
    unfold cellsOb
    simp only [Nat.mul_one]
    rw [show Nat.beq vs.length (OPEN + 1) = false by rw [beq_d, decide_eq_false_iff_not]; omega, show Nat.blt vs.length OPEN = true by rw [blt_d]; simpa using hbig, show Nat.ble (vs.length + new.length) vs.length = false by rw [ble_d, decide_eq_false_iff_not]; omega]
    simp only [cond_false, Bool.not_true]
    rw [show dropN 0 cells = cells from rfl, takeN_len hlc, hcs]
    simp only [appNew]
    have : Nat.blt (g.at g.next).next (@LIM (bnd (g.next + 1))) = true := by rw [Nat.blt_eq]; exact Nat.lt_succ_self _
    rw [this]
    simp only [cond_true, lenN_length]
    rfl
  · have hget : ∀ i, G.get i = if g.next = i then slackOb (vs ++ new) t g.next else g.get i := GH.get_push ho (slackOb (vs ++ new) t g.next)
    refine ⟨rfl, rfl, fun i hi => ho i (Nat.le_trans (Nat.le_succ _) hi), fun i hi => by rw [hget, if_neg (by omega)], fun f hf => ?_, .inr ⟨g.next, g.next, by simp, Nat.lt_succ_self _, by rw [hget, if_pos rfl], by simp [hne], hb, Nat.le_refl _, ?_⟩, fun s ws hr => hr.mono (Nat.le_succ _) fun i hi => by rw [hget, if_neg (by omega)]⟩
    · show (T5.set g.fams g.next [(g.next, (vs ++ new).length)]) f = _
      rw [T5.get_set', if_neg (by omega)]
    · show ∀ x ∈ (T5.set g.fams g.next [(g.next, (vs ++ new).length)]) g.next, _
      rw [T5.get_set', if_pos rfl]
      simp
  · have hget : ∀ i, G.get i = if g.next = i then slackOb (vs ++ new) t g.next else g.get i := GH.get_push ho (slackOb (vs ++ new) t g.next)
    refine ⟨Nat.le_succ _, fun i hi => by rw [hget, if_neg (by omega)], fun f hf => ?_⟩
    show (T5.set g.fams g.next [(g.next, (vs ++ new).length)]) f = _
    rw [T5.get_set', if_neg (by omega)]
end
theorem OwnM.but {g g' : GH} {s : Value} {vs : List Value} {t : TypeId} {base : Nat} (h : OwnM g s vs t base) (hn : g.next ≤ g'.next) (hg : ∀ j, j < g.next → base ≤ j → g'.get j = g.get j) (hf : ∀ f, f < g.next → g'.fams f = g.fams f) : OwnM g' s vs t base := by
  rcases h with h | ⟨j, fam, h1, h2, h3, h4, h5, h6, h7⟩
  · exact .inl h
  · exact .inr ⟨j, fam, h1, by omega, by rw [hg j h2 (by omega)]; exact h3, h4, h5, h6, by rw [hf fam (by omega)]; exact h7⟩
end Go.Ds
namespace Go.Proofs.YtngmaccaldhjcaaDoor
open Go.Ds
/-- A slice that does not lie in a block. -/
def AwayB (v : Value) (j : Nat) : Prop := ∀ a l c, v = .slice (some a) l c → a.block ≠ j
theorem OwnM.away {g : GH} {s : Value} {vs : List Value} {t : TypeId} {base j0 : Nat} (h : OwnM g s vs t base) (h0 : j0 < base) : AwayB s j0 := by
  intro a l c hs
  rcases h with ⟨rfl, _⟩ | ⟨j, fam, rfl, h2, h3, h4, h5, h6, _⟩
  · cases hs
  · cases hs
    show j ≠ j0
    omega
theorem clone_rets {X : Caller} (hX : Xok X) (L : List Int) (hL : L ≠ []) (hl : L.length < 1000000) (s : Value) (g : GH) (hs : SlR g s (ints L)) :
    Rets Tryd.prog X 72 [s] g (fun v g' lo => g.next ≤ lo ∧ OwnM g' v (ints L) 3 g.next) := by
  have hne : ints L ≠ [] := by simpa [ints] using hL
  have heq : eqSF false s = some (.bool false) := by
    rcases hs with ⟨_, h⟩ | ⟨j, off, cap, ob, rfl, _⟩
    · exact absurd h hne
    · rfl
  refine Rets.run hX.pres p72 (hX.free 72 (by decide) _ _) rfl fun ho => ?_
  simp +decide (disch := first | assumption | exact cellV_int _ _ | exact cellV_bool _ | omega | (simp only [GH.pn, GH.sn] <;> omega) | (with_reducible ((repeat (first | apply GH.ok_push | apply GH.ok_set)); assumption)) | ((try simp only [GH.push_hid, GH.set_hid]); first | assumption | (refine GH.vis ?_ ?_ <;> first | assumption | ((try simp only [GH.pn, GH.sn]) <;> omega)))) only [go_sem, ↓reduceIte, Nat.reduceEqDiff, Nat.reduceAdd, Int.reduceToNat, Int.reduceAdd, Int.reduceNeg, Int.reduceSub, Int.reduceMul, Int.reduceLT, Int.reduceLE, Int.reduceEq, ↓GH.gp_eq, ↓GH.gp_ne, ↓GH.gs_eq, ↓GH.gs_ne, GH.push_next, GH.set_next, heq]
  refine AppD.fullM (vs := []) (new := ints L) (base := g.next) (j := g.next) (cells := []) (t' := 3) (by rw [GH.gp_eq ho rfl]) rfl (Nat.le_refl _) (hs.kept ((Kept.refl g).push ho _)) hne (by rw [ints_len]; simp; omega) (Nat.le_succ _) (GH.ok_push ho) ?_
  intro v g2 sp wr hgr hk2
  have hn2 := hgr.next
  have hown := hgr.own
  rw [List.nil_append] at hown
  simp +decide (disch := first | assumption | (apply GH.ok_push; assumption) | exact cellV_int _ _ | exact cellV_bool _ | omega) only [go_sem, ↓reduceIte, Nat.reduceEqDiff, Nat.reduceAdd, Int.reduceToNat]
  intro hx0
  exact ⟨Nat.le_refl _, hown⟩
end Go.Proofs.YtngmaccaldhjcaaDoor
set_option maxRecDepth 100000
set_option maxHeartbeats 4000000
set_option linter.unusedSimpArgs false
set_option linter.unusedVariables false
namespace Go.Proofs.YtngmaccaldhjcaaDoor
open Go.Ds
theorem Same_rets {X : Caller} (hX : Xok X) (L : List Int) (d : Int) (M : List Int) (f : Int) (hl : L.length < 1000000) (s r : Value) (g : GH) (hs : SlR g s (ints L)) (hr : SlR g r (ints M)) :
    Rets Tryd.prog X 29 [paV s d, paV r f] g (fun v g' lo => g.next ≤ lo ∧ v = .bool (decide (L = M ∧ d = f))) := by
  have hc := hs.cell
  have hcr := hr.cell
  have hls := hs.len
  have hlr := hr.len
  rw [ints_len] at hls hlr
  unfold paV
  obtain ⟨B, hB⟩ : ∃ B, decide (L = M ∧ d = f) = B := ⟨_, rfl⟩
  rw [hB]
  refine Rets.run hX.pres p29 (hX.free 29 (by decide) _ _) rfl fun ho => ?_
  by_cases q1 : d = f
  case neg =>
    simp +decide (disch := first | assumption | exact cellV_int _ _ | exact cellV_bool _ | omega | (simp only [GH.pn, GH.sn] <;> omega) | (with_reducible ((repeat (first | apply GH.ok_push | apply GH.ok_set)); assumption)) | ((try simp only [GH.push_hid, GH.set_hid]); first | assumption | (refine GH.vis ?_ ?_ <;> first | assumption | ((try simp only [GH.pn, GH.sn]) <;> omega)))) only [go_sem, ↓reduceIte, Nat.reduceEqDiff, Nat.reduceAdd, Int.reduceToNat, Int.reduceAdd, Int.reduceNeg, Int.reduceSub, Int.reduceMul, Int.reduceLT, Int.reduceLE, Int.reduceEq, ↓GH.gp_eq, ↓GH.gp_ne, ↓GH.gs_eq, ↓GH.gs_ne, GH.push_next, GH.set_next, hc, hcr, q1]
    intro hx0
    exact ⟨by omega, by rw [← hB, decide_eq_false fun h => q1 h.2]⟩
  subst q1
  by_cases q2 : (L.length : Int) = M.length
  case neg =>
    simp +decide (disch := first | assumption | exact cellV_int _ _ | exact cellV_bool _ | omega | (simp only [GH.pn, GH.sn] <;> omega) | (with_reducible ((repeat (first | apply GH.ok_push | apply GH.ok_set)); assumption)) | ((try simp only [GH.push_hid, GH.set_hid]); first | assumption | (refine GH.vis ?_ ?_ <;> first | assumption | ((try simp only [GH.pn, GH.sn]) <;> omega)))) only [go_sem, ↓reduceIte, Nat.reduceEqDiff, Nat.reduceAdd, Int.reduceToNat, Int.reduceAdd, Int.reduceNeg, Int.reduceSub, Int.reduceMul, Int.reduceLT, Int.reduceLE, Int.reduceEq, ↓GH.gp_eq, ↓GH.gp_ne, ↓GH.gs_eq, ↓GH.gs_ne, GH.push_next, GH.set_next, hc, hcr, q2, hls, hlr]
    intro hx0
    exact ⟨by omega, by rw [← hB, decide_eq_false fun h => q2 (by rw [h.1])]⟩
  have hkS : Kept g ((g.push (cellsOb [s, .int .i64 d] 25)).push (cellsOb [r, .int .i64 d] 25)) := (by (repeat' first | exact Kept.refl _ | assumption | refine Kept.push ?_ ?_ _ | refine Kept.setV ?_ ?_ ?_ _) <;> (first | assumption | exact cellV_int _ _ | exact cellV_bool _ | omega | (simp only [GH.pn, GH.sn] <;> omega) | (with_reducible ((repeat (first | apply GH.ok_push | apply GH.ok_set)); assumption)) | ((try simp only [GH.push_hid, GH.set_hid]); first | assumption | (refine GH.vis ?_ ?_ <;> first | assumption | ((try simp only [GH.pn, GH.sn]) <;> omega)))))
  have hAS : ((g.push (cellsOb [s, .int .i64 d] 25)).push (cellsOb [r, .int .i64 d] 25)).get g.next = cellsOb [s, .int .i64 d] 25 := (by simp (disch := first | assumption | exact cellV_int _ _ | exact cellV_bool _ | omega | (simp only [GH.pn, GH.sn] <;> omega) | (with_reducible ((repeat (first | apply GH.ok_push | apply GH.ok_set)); assumption)) | ((try simp only [GH.push_hid, GH.set_hid]); first | assumption | (refine GH.vis ?_ ?_ <;> first | assumption | ((try simp only [GH.pn, GH.sn]) <;> omega)))) only [↓GH.gp_eq, ↓GH.gp_ne, ↓GH.gs_eq, ↓GH.gs_ne, GH.push_next, GH.set_next]; first | done | exact rfl)
  have hBS : ((g.push (cellsOb [s, .int .i64 d] 25)).push (cellsOb [r, .int .i64 d] 25)).get (g.next + 1) = cellsOb [r, .int .i64 d] 25 := (by simp (disch := first | assumption | exact cellV_int _ _ | exact cellV_bool _ | omega | (simp only [GH.pn, GH.sn] <;> omega) | (with_reducible ((repeat (first | apply GH.ok_push | apply GH.ok_set)); assumption)) | ((try simp only [GH.push_hid, GH.set_hid]); first | assumption | (refine GH.vis ?_ ?_ <;> first | assumption | ((try simp only [GH.pn, GH.sn]) <;> omega)))) only [↓GH.gp_eq, ↓GH.gp_ne, ↓GH.gs_eq, ↓GH.gs_ne, GH.push_next, GH.set_next]; first | done | exact rfl)
  simp +decide (disch := first | assumption | exact cellV_int _ _ | exact cellV_bool _ | omega | (simp only [GH.pn, GH.sn] <;> omega) | (with_reducible ((repeat (first | apply GH.ok_push | apply GH.ok_set)); assumption)) | ((try simp only [GH.push_hid, GH.set_hid]); first | assumption | (refine GH.vis ?_ ?_ <;> first | assumption | ((try simp only [GH.pn, GH.sn]) <;> omega)))) only [go_sem, ↓reduceIte, Nat.reduceEqDiff, Nat.reduceAdd, Int.reduceToNat, Int.reduceAdd, Int.reduceNeg, Int.reduceSub, Int.reduceMul, Int.reduceLT, Int.reduceLE, Int.reduceEq, ↓GH.gp_eq, ↓GH.gp_ne, ↓GH.gs_eq, ↓GH.gs_ne, GH.push_next, GH.set_next, hc, hcr, q2, hls, hlr]
  refine Wk.loops (fun m e g' lo => g' = ((g.push (cellsOb [s, .int .i64 d] 25)).push (cellsOb [r, .int .i64 d] 25)) ∧ g.next ≤ lo ∧ ∃ i : Nat, i + m = L.length ∧ (ev e (.s 2) = ptrTo g.next ∧ ev e (.s 3) = ptrTo (g.next + 1) ∧ ev e (.s 5) = .int .i64 i) ∧ L.take i = M.take i)
    (fun e g' lo => g.next ≤ lo ∧ L = M) (n := L.length) ?_ ?_ ?_
  · exact ⟨rfl, Nat.le_refl _, 0, by omega, (by simp +decide (disch := first | assumption | (apply GH.ok_push; assumption) | exact cellV_int _ _ | exact cellV_bool _ | omega) only [go_sem, ↓reduceIte, Nat.reduceEqDiff, Nat.reduceAdd, Int.reduceToNat]; first | done | exact rfl), rfl⟩
  · rintro e g' lo - - ⟨hlo, h⟩
    simp +decide (disch := first | assumption | exact cellV_int _ _ | exact cellV_bool _ | omega | (simp only [GH.pn, GH.sn] <;> omega) | (with_reducible ((repeat (first | apply GH.ok_push | apply GH.ok_set)); assumption)) | ((try simp only [GH.push_hid, GH.set_hid]); first | assumption | (refine GH.vis ?_ ?_ <;> first | assumption | ((try simp only [GH.pn, GH.sn]) <;> omega)))) only [go_sem, ↓reduceIte, Nat.reduceEqDiff, Nat.reduceAdd, Int.reduceToNat, Int.reduceAdd, Int.reduceNeg, Int.reduceSub, Int.reduceMul, Int.reduceLT, Int.reduceLE, Int.reduceEq, ↓GH.gp_eq, ↓GH.gp_ne, ↓GH.gs_eq, ↓GH.gs_ne, GH.push_next, GH.set_next]
    intro hx0
    exact ⟨hlo, by rw [← hB]; simp [h]⟩
  · rintro m e g' lo ho' hl' ih out ⟨hg', hlo, i, hi, he, hp⟩
    have hgn : g'.next = g.next + 1 + 1 := by rw [hg']; rfl
    rw [← hg'] at hkS hAS hBS
    by_cases ci : i < L.length
    · have ci' : (i : Int) < L.length := by omega
      obtain ⟨j1, o1, hj1, hp1, hp2⟩ := (hs.kept hkS).ptr (ints_get (D := L) (i := i) ci)
      have hp1 := hp1 (i : Int) rfl
      obtain ⟨j2, o2, hj2, hq1, hq2⟩ := (hr.kept hkS).ptr (ints_get (D := M) (i := i) (by omega))
      have hq1 := hq1 (i : Int) rfl
      have hLi := getD_get (0 : Int) ci
      have hMi := getD_get (0 : Int) (show i < M.length by omega)
      by_cases q3 : L.getD i 0 = M.getD i 0
      · simp +decide (disch := first | assumption | exact cellV_int _ _ | exact cellV_bool _ | omega | (simp only [GH.pn, GH.sn] <;> omega) | (with_reducible ((repeat (first | apply GH.ok_push | apply GH.ok_set)); assumption)) | ((try simp only [GH.push_hid, GH.set_hid]); first | assumption | (refine GH.vis ?_ ?_ <;> first | assumption | ((try simp only [GH.pn, GH.sn]) <;> omega)))) only [go_sem, ↓reduceIte, Nat.reduceEqDiff, Nat.reduceAdd, Int.reduceToNat, Int.reduceAdd, Int.reduceNeg, Int.reduceSub, Int.reduceMul, Int.reduceLT, Int.reduceLE, Int.reduceEq, ↓GH.gp_eq, ↓GH.gp_ne, ↓GH.gs_eq, ↓GH.gs_ne, GH.push_next, GH.set_next, he, hAS, hBS, hls, ci', hp1, hp2, hq1, hq2, q3]
        refine ih (m - 1) _ _ _ (by omega) ⟨hg', hlo, i + 1, by omega, (by simp +decide (disch := first | assumption | (apply GH.ok_push; assumption) | exact cellV_int _ _ | exact cellV_bool _ | omega) only [go_sem, ↓reduceIte, Nat.reduceEqDiff, Nat.reduceAdd, Int.reduceToNat, he]; first | done | exact rfl), ?_⟩
        rw [take_snoc' L i _ hLi, take_snoc' M i _ hMi, hp, q3]
      · simp +decide (disch := first | assumption | exact cellV_int _ _ | exact cellV_bool _ | omega | (simp only [GH.pn, GH.sn] <;> omega) | (with_reducible ((repeat (first | apply GH.ok_push | apply GH.ok_set)); assumption)) | ((try simp only [GH.push_hid, GH.set_hid]); first | assumption | (refine GH.vis ?_ ?_ <;> first | assumption | ((try simp only [GH.pn, GH.sn]) <;> omega)))) only [go_sem, ↓reduceIte, Nat.reduceEqDiff, Nat.reduceAdd, Int.reduceToNat, Int.reduceAdd, Int.reduceNeg, Int.reduceSub, Int.reduceMul, Int.reduceLT, Int.reduceLE, Int.reduceEq, ↓GH.gp_eq, ↓GH.gp_ne, ↓GH.gs_eq, ↓GH.gs_ne, GH.push_next, GH.set_next, he, hAS, hBS, hls, ci', hp1, hp2, hq1, hq2, q3]
        intro hx0
        exact ⟨hlo, by rw [← hB, decide_eq_false fun h => q3 (by rw [h.1])]⟩
    · have ci' : ¬ (i : Int) < L.length := by omega
      simp +decide (disch := first | assumption | exact cellV_int _ _ | exact cellV_bool _ | omega | (simp only [GH.pn, GH.sn] <;> omega) | (with_reducible ((repeat (first | apply GH.ok_push | apply GH.ok_set)); assumption)) | ((try simp only [GH.push_hid, GH.set_hid]); first | assumption | (refine GH.vis ?_ ?_ <;> first | assumption | ((try simp only [GH.pn, GH.sn]) <;> omega)))) only [go_sem, ↓reduceIte, Nat.reduceEqDiff, Nat.reduceAdd, Int.reduceToNat, Int.reduceAdd, Int.reduceNeg, Int.reduceSub, Int.reduceMul, Int.reduceLT, Int.reduceLE, Int.reduceEq, ↓GH.gp_eq, ↓GH.gp_ne, ↓GH.gs_eq, ↓GH.gs_ne, GH.push_next, GH.set_next, he, hAS, hBS, hls, ci']
      rw [List.take_of_length_le (by omega), List.take_of_length_le (by omega)] at hp
      exact out _ _ _ ⟨hlo, hp⟩
end Go.Proofs.YtngmaccaldhjcaaDoor
