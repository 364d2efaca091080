import Derived.Test.YtngmaccaldhjcaaDoorJ2
set_option linter.all false
set_option linter.unusedSimpArgs false
set_option linter.unnecessarySimpa false
set_option linter.unusedVariables false
set_option linter.unusedSectionVars false
set_option maxRecDepth 100000
set_option maxHeartbeats 4000000
set_option linter.unusedSimpArgs false
set_option linter.unusedVariables false
namespace Go.Proofs.YtngmaccaldhjcaaDoor
open Go.Ds
/-! ## The table's numbers, with 0 beyond -/
def te (T : List (List Int)) (i k : Nat) : Int := (T.getD i []).getD k 0
def ne (L : List Int) (i : Nat) : Int := L.getD i 0
def mkT (T : List (List Int)) : Value := mkV T.length (te T 0 0) (te T 0 1) (te T 0 2) (te T 1 0) (te T 1 1) (te T 1 2) (te T 2 0) (te T 2 1) (te T 2 2)
theorem okG_sm {x : Int} (h : okG x = true) : Sm 20 x := by
  unfold okG at h
  simp only [Bool.and_eq_true, decide_eq_true_eq] at h
  exact h
theorem tab_len {T : List (List Int)} (h : tabB T = true) : 1 ≤ T.length ∧ T.length ≤ 3 ∧ (∀ R ∈ T, R.length = T.length ∧ ∀ x ∈ R, Sm 20 x) := by
  unfold tabB at h
  simp only [Bool.and_eq_true, decide_eq_true_eq, List.all_eq_true] at h
  obtain ⟨⟨h1, h2⟩, h3⟩ := h
  refine ⟨h1, h2, fun R hR => ?_⟩
  have := h3 R hR
  unfold rowB at this
  simp only [Bool.and_eq_true, decide_eq_true_eq, List.all_eq_true] at this
  exact ⟨this.1, fun x hx => okG_sm (this.2 x hx)⟩
theorem te_sm {T : List (List Int)} (h : tabB T = true) (i k : Nat) : Sm 20 (te T i k) := by
  obtain ⟨_, _, h3⟩ := tab_len h
  unfold te
  by_cases ci : i < T.length
  · have hR := List.getElem_mem ci
    have e : T.getD i [] = T[i] := by rw [List.getD_eq_getElem?_getD, List.getElem?_eq_getElem ci]; rfl
    rw [e]
    by_cases ck : k < T[i].length
    · have e2 : T[i].getD k 0 = T[i][k] := by rw [List.getD_eq_getElem?_getD, List.getElem?_eq_getElem ck]; rfl
      rw [e2]
      exact (h3 _ hR).2 _ (List.getElem_mem ck)
    · have e2 : T[i].getD k 0 = 0 := by rw [List.getD_eq_getElem?_getD, List.getElem?_eq_none (by omega)]; rfl
      rw [e2]; unfold Sm; omega
  · have e : T.getD i [] = [] := by rw [List.getD_eq_getElem?_getD, List.getElem?_eq_none (by omega)]; rfl
    rw [e]
    show Sm 20 0
    unfold Sm; omega
theorem tab_sm9 {T : List (List Int)} (h : tabB T = true) : Sm9 (te T 0 0) (te T 0 1) (te T 0 2) (te T 1 0) (te T 1 1) (te T 1 2) (te T 2 0) (te T 2 1) (te T 2 2) :=
  ⟨te_sm h _ _, te_sm h _ _, te_sm h _ _, te_sm h _ _, te_sm h _ _, te_sm h _ _, te_sm h _ _, te_sm h _ _, te_sm h _ _⟩
theorem tab_cases {T : List (List Int)} (h : tabB T = true) : (∃ a, T = [[a]]) ∨ (∃ a b c d, T = [[a, b], [c, d]]) ∨ (∃ a b c d e f p q r, T = [[a, b, c], [d, e, f], [p, q, r]]) := by
  obtain ⟨h1, h2, h3⟩ := tab_len h
  match T, h1, h2, h3 with
  | [R], _, _, h3 =>
    have := (h3 R (by simp)).1
    match R, this with
    | [a], _ => exact .inl ⟨a, rfl⟩
  | [R, S], _, _, h3 =>
    have r1 := (h3 R (by simp)).1
    have r2 := (h3 S (by simp)).1
    match R, S, r1, r2 with
    | [a, b], [c, d], _, _ => exact .inr (.inl ⟨a, b, c, d, rfl⟩)
  | [R, S, U], _, _, h3 =>
    have r1 := (h3 R (by simp)).1
    have r2 := (h3 S (by simp)).1
    have r3 := (h3 U (by simp)).1
    match R, S, U, r1, r2, r3 with
    | [a, b, c], [d, e, f], [p, q, r], _, _, _ => exact .inr (.inr ⟨a, b, c, d, e, f, p, q, r, rfl⟩)
theorem market_rets {X : Caller} (hX : Xok X) (T : List (List Int)) (hT : tabB T = true) (t : Value) (g : GH) (ht : Sl2 g t T) :
    Rets Tryd.prog X 51 [t] g (fun v g' lo => g.next ≤ lo ∧ v = mkT T) := by
  rcases tab_cases hT with ⟨a, rfl⟩ | ⟨a, b, c, d, rfl⟩ | ⟨a, b, c, d, e, f, p, q, r, rfl⟩
  · exact market1_rets hX a t g ht
  · exact market2_rets hX a b c d t g ht
  · exact market3_rets hX a b c d e f p q r t g ht
theorem mix_facts {n : Nat} {L : List Int} {d : Int} (h : mixB n L d = true) : 1 ≤ n ∧ n ≤ 3 ∧ L.length = n ∧ 1 ≤ d ∧ d ≤ 10000 ∧ (∀ i, 0 ≤ ne L i ∧ ne L i ≤ d) ∧ sumL L = d ∧ gcdL d.natAbs L = 1 := by
  unfold mixB headB at h
  simp only [Bool.and_eq_true, decide_eq_true_eq, List.all_eq_true] at h
  obtain ⟨⟨⟨⟨⟨⟨⟨h1, h2⟩, h3⟩, h4⟩, h5⟩, h6⟩, h7⟩, h8⟩ := h
  refine ⟨by omega, by omega, by omega, h4, h5, fun i => ?_, h7, h8⟩
  unfold ne
  by_cases c : i < L.length
  · have e : L.getD i 0 = L[i] := by rw [List.getD_eq_getElem?_getD, List.getElem?_eq_getElem c]; rfl
    rw [e]
    have := h6 _ (List.getElem_mem c)
    unfold inD at this
    simpa using this
  · have e : L.getD i 0 = 0 := by rw [List.getD_eq_getElem?_getD, List.getElem?_eq_none (by omega)]; rfl
    rw [e]; omega
/-! ## The gain of the specification -/
def sumZ (f : Nat → Int) : Nat → Int
  | 0 => 0
  | i + 1 => sumZ f i + f i
theorem sumZ_sm {f : Nat → Int} {B : Int} (hB : ∀ i, Sm B (f i)) : ∀ n : Nat, Sm (B * n) (sumZ f n)
  | 0 => by show Sm (B * 0) 0; unfold Sm; simp
  | n + 1 => by
    have h1 := sumZ_sm hB n
    have h2 := hB n
    unfold Sm at *
    have e : sumZ f (n + 1) = sumZ f n + f n := rfl
    rw [e]
    rw [show B * ((n + 1 : Nat) : Int) = B * n + B by rw [Int.natCast_add, Int.mul_add]; simp]
    omega
theorem refGain_rets {X : Caller} (hX : Xok X) (T : List (List Int)) (hT : tabB T = true) (P Q : List Int) (hP : P.length = T.length) (hQ : Q.length = T.length) (a b : Int) (ha : ∀ i, Sm a (ne P i)) (hb : ∀ i, Sm b (ne Q i)) (hab : a * b ≤ 1000000000000000000) (habc : a * b * 20 ≤ 1000000000000000000) (t s r : Value) (g : GH) (ht : Sl2 g t T) (hs : SlR g s (ints P)) (hr : SlR g r (ints Q)) :
    Rets Tryd.prog X 56 [t, s, r] g (fun v g' lo => g.next ≤ lo ∧ v = .int .i64 (sumZ (fun i => sumZ (fun k => ne P i * ne Q k * te T i k) T.length) T.length)) := by
  obtain ⟨t1, t2, t3⟩ := tab_len hT
  have hxy : ∀ i k, Sm 1000000000000000000 (ne P i * ne Q k) := fun i k => ((ha i).mul (hb k)).up hab
  have hf : ∀ i k, Sm 1000000000000000000 (ne P i * ne Q k * te T i k) := fun i k => (((ha i).mul (hb k)).mul (te_sm hT i k)).up habc
  have hin := fun i k => sumZ_sm (hf i) k
  have hl := ht.len
  have hlP := hs.len
  have hlQ := hr.len
  rw [ints_len] at hlP hlQ
  refine Rets.run hX.pres p56 (hX.free 56 (by decide) _ _) rfl fun ho => ?_
  simp +decide (disch := first | assumption | (apply GH.ok_push; assumption) | exact cellV_int _ _ | exact cellV_bool _ | omega) only [go_sem, ↓reduceIte, Nat.reduceEqDiff, Nat.reduceAdd, Int.reduceToNat, hl]
  refine Wk.loops (fun m e g' lo => g' = g ∧ g.next ≤ lo ∧ ∃ i : Nat, i + m = T.length ∧ (ev e (.s 0) = t ∧ ev e (.s 1) = s ∧ ev e (.s 2) = r ∧ ev e (.s 8) = .int .i64 i ∧ ev e (.s 7) = .int .i64 (sumZ (fun i => sumZ (fun k => ne P i * ne Q k * te T i k) T.length) i)))
    (fun e g' lo => g' = g ∧ g.next ≤ lo ∧ ev e (.s 7) = .int .i64 (sumZ (fun i => sumZ (fun k => ne P i * ne Q k * te T i k) T.length) T.length)) (n := T.length) ?_ ?_ ?_
  · exact ⟨rfl, Nat.le_refl _, 0, by omega, (by simp +decide (disch := first | assumption | (apply GH.ok_push; assumption) | exact cellV_int _ _ | exact cellV_bool _ | omega) only [go_sem, ↓reduceIte, Nat.reduceEqDiff, Nat.reduceAdd, Int.reduceToNat]; first | done | exact rfl)⟩
  · rintro e g' lo - - ⟨rfl, hlo, he⟩
    simp +decide (disch := first | assumption | (apply GH.ok_push; assumption) | exact cellV_int _ _ | exact cellV_bool _ | omega) only [go_sem, ↓reduceIte, Nat.reduceEqDiff, Nat.reduceAdd, Int.reduceToNat, he]
    intro hx
    exact ⟨hlo, rfl⟩
  · rintro m e g' lo ho' hl' ih out ⟨rfl, hlo, i, hi, he⟩
    by_cases ci : i < T.length
    · obtain ⟨v, j1, o1, hj1, hp1, hp2, hv⟩ := ht.ptr ci
      have hp1 := hp1 (i : Int) rfl
      have hTi := getD_get [] ci
      have hRl : (T.getD i []).length = T.length := (t3 _ (List.mem_of_getElem? hTi)).1
      obtain ⟨j3, o3, hj3, hs1, hs2⟩ := hs.ptr (ints_get (D := P) (i := i) (by omega))
      have hs1 := hs1 (i : Int) rfl
      obtain ⟨S0, hS0⟩ : ∃ S0, sumZ (fun i => sumZ (fun k => ne P i * ne Q k * te T i k) T.length) i = S0 := ⟨_, rfl⟩
      have hS1 : sumZ (fun i => sumZ (fun k => ne P i * ne Q k * te T i k) T.length) (i + 1) = S0 + sumZ (fun k => ne P i * ne Q k * te T i k) T.length := by rw [← hS0]; rfl
      have hSb : Sm (3000000000000000000 * i) S0 := by
        rw [← hS0]
        exact sumZ_sm (B := 3000000000000000000) (fun i => (hin i T.length).up (by omega)) i
      rw [hS0] at he
      simp +decide (disch := first | assumption | (apply GH.ok_push; assumption) | exact cellV_int _ _ | exact cellV_bool _ | omega) only [go_sem, ↓reduceIte, Nat.reduceEqDiff, Nat.reduceAdd, Int.reduceToNat, he, hl]
      refine Wk.loops (fun m2 e2 g2 lo2 => g2 = g' ∧ g'.next ≤ lo2 ∧ ∃ k : Nat, k + m2 = T.length ∧ (ev e2 (.s 0) = t ∧ ev e2 (.s 1) = s ∧ ev e2 (.s 2) = r ∧ ev e2 (.s 8) = .int .i64 i ∧ ev e2 (.s 9) = .int .i64 k ∧ ev e2 (.s 7) = .int .i64 (S0 + sumZ (fun k => ne P i * ne Q k * te T i k) k)))
        (fun e2 g2 lo2 => g2 = g' ∧ g'.next ≤ lo2 ∧ (ev e2 (.s 0) = t ∧ ev e2 (.s 1) = s ∧ ev e2 (.s 2) = r ∧ ev e2 (.s 8) = .int .i64 i ∧ ev e2 (.s 7) = .int .i64 (S0 + sumZ (fun k => ne P i * ne Q k * te T i k) T.length))) (n := T.length) ?_ ?_ ?_
      · have z0 : S0 + sumZ (fun k => ne P i * ne Q k * te T i k) 0 = S0 := Int.add_zero S0
        exact ⟨rfl, hlo, 0, by omega, by rw [z0]; exact (by simp +decide (disch := first | assumption | (apply GH.ok_push; assumption) | exact cellV_int _ _ | exact cellV_bool _ | omega) only [go_sem, ↓reduceIte, Nat.reduceEqDiff, Nat.reduceAdd, Int.reduceToNat, he]; first | done | exact rfl)⟩
      · rintro e2 g2 lo2 - - ⟨rfl, hlo2, he2⟩
        simp +decide (disch := first | assumption | (apply GH.ok_push; assumption) | exact cellV_int _ _ | exact cellV_bool _ | omega) only [go_sem, ↓reduceIte, Nat.reduceEqDiff, Nat.reduceAdd, Int.reduceToNat, he2]
        refine ih (m - 1) _ _ _ (by omega) ⟨rfl, hlo2, i + 1, by omega, by rw [hS1]; exact (by simp +decide (disch := first | assumption | (apply GH.ok_push; assumption) | exact cellV_int _ _ | exact cellV_bool _ | omega) only [go_sem, ↓reduceIte, Nat.reduceEqDiff, Nat.reduceAdd, Int.reduceToNat, he2]; first | done | exact rfl)⟩
      · rintro m2 e2 g2 lo2 ho2 hl2 ih2 out2 ⟨rfl, hlo2, k, hk, he2⟩
        by_cases ck : k < T.length
        · obtain ⟨j2, o2, hj2, hq1, hq2⟩ := hv.ptr (ints_get (D := T.getD i []) (i := k) (by omega))
          have hq1 := hq1 (k : Int) rfl
          obtain ⟨j4, o4, hj4, hr1, hr2⟩ := hr.ptr (ints_get (D := Q) (i := k) (by omega))
          have hr1 := hr1 (k : Int) rfl
          have ck' : (k : Int) < T.length := by omega
          have b1 := hxy i k
          have b2 := hf i k
          have b3 := hin i k
          have b4 : 1000000000000000000 * (k : Int) ≤ 2000000000000000000 := by omega
          have b5 : 3000000000000000000 * (i : Int) ≤ 6000000000000000000 := by omega
          obtain ⟨K, hK⟩ : ∃ K, sumZ (fun k => ne P i * ne Q k * te T i k) k = K := ⟨_, rfl⟩
          have hK1 : sumZ (fun k => ne P i * ne Q k * te T i k) (k + 1) = K + ne P i * ne Q k * te T i k := by rw [← hK]; rfl
          have e1 : P.getD i 0 = ne P i := rfl
          have e2' : Q.getD k 0 = ne Q k := rfl
          have e3 : (T.getD i []).getD k 0 = te T i k := rfl
          rw [hK] at he2 b3
          rw [e1] at hs2
          rw [e2'] at hr2
          rw [e3] at hq2
          obtain ⟨A, hA⟩ : ∃ A, ne P i * ne Q k = A := ⟨_, rfl⟩
          obtain ⟨B, hB⟩ : ∃ B, A * te T i k = B := ⟨_, rfl⟩
          rw [hA] at b1 b2 hK1
          rw [hB] at b2 hK1
          unfold Sm at b1 b2 b3 hSb
          simp +decide (disch := first | assumption | (apply GH.ok_push; assumption) | exact cellV_int _ _ | exact cellV_bool _ | omega) only [go_sem, ↓reduceIte, Nat.reduceEqDiff, Nat.reduceAdd, Int.reduceToNat, he2, hl, ck', hp1, hp2, hs1, hs2, hq1, hq2, hr1, hr2, hA, hB]
          refine ih2 (m2 - 1) _ _ _ (by omega) ⟨rfl, hlo2, k + 1, by omega, ?_⟩
          rw [hK1, ← Int.add_assoc]
          exact (by simp +decide (disch := first | assumption | (apply GH.ok_push; assumption) | exact cellV_int _ _ | exact cellV_bool _ | omega) only [go_sem, ↓reduceIte, Nat.reduceEqDiff, Nat.reduceAdd, Int.reduceToNat, he2]; first | done | exact rfl)
        · have ck' : ¬ (k : Int) < T.length := by omega
          have : k = T.length := by omega
          subst this
          simp +decide (disch := first | assumption | (apply GH.ok_push; assumption) | exact cellV_int _ _ | exact cellV_bool _ | omega) only [go_sem, ↓reduceIte, Nat.reduceEqDiff, Nat.reduceAdd, Int.reduceToNat, he2, hl, ck']
          exact out2 _ _ _ ⟨rfl, hlo2, (by simp +decide (disch := first | assumption | (apply GH.ok_push; assumption) | exact cellV_int _ _ | exact cellV_bool _ | omega) only [go_sem, ↓reduceIte, Nat.reduceEqDiff, Nat.reduceAdd, Int.reduceToNat, he2]; first | done | exact rfl)⟩
    · have ci' : ¬ (i : Int) < T.length := by omega
      have : i = T.length := by omega
      subst this
      simp +decide (disch := first | assumption | (apply GH.ok_push; assumption) | exact cellV_int _ _ | exact cellV_bool _ | omega) only [go_sem, ↓reduceIte, Nat.reduceEqDiff, Nat.reduceAdd, Int.reduceToNat, he, hl, ci']
      exact out _ _ _ ⟨rfl, hlo, (by simp +decide (disch := first | assumption | (apply GH.ok_push; assumption) | exact cellV_int _ _ | exact cellV_bool _ | omega) only [go_sem, ↓reduceIte, Nat.reduceEqDiff, Nat.reduceAdd, Int.reduceToNat, he]; first | done | exact rfl)⟩
/-- The two sums are the same. -/
def gT (T : List (List Int)) (x0 x1 x2 y0 y1 y2 : Int) : Int := gainZ (te T 0 0) (te T 0 1) (te T 0 2) (te T 1 0) (te T 1 1) (te T 1 2) (te T 2 0) (te T 2 1) (te T 2 2) x0 x1 x2 y0 y1 y2
theorem gain_same {T : List (List Int)} (hT : tabB T = true) {P Q : List Int} (hP : P.length = T.length) (hQ : Q.length = T.length) :
    sumZ (fun i => sumZ (fun k => ne P i * ne Q k * te T i k) T.length) T.length = gT T (ne P 0) (ne P 1) (ne P 2) (ne Q 0) (ne Q 1) (ne Q 2) := by
  rcases tab_cases hT with ⟨a, rfl⟩ | ⟨a, b, c, d, rfl⟩ | ⟨a, b, c, d, e, f, p, q, r, rfl⟩
  · match P, Q, hP, hQ with
    | [x], [y], _, _ => simp [sumZ, gT, gainZ, te, ne]
  · match P, Q, hP, hQ with
    | [x, x'], [y, y'], _, _ => simp [sumZ, gT, gainZ, te, ne]; grind
  · match P, Q, hP, hQ with
    | [x, x', x2], [y, y', y2], _, _ => simp [sumZ, gT, gainZ, te, ne]; grind
end Go.Proofs.YtngmaccaldhjcaaDoor
set_option maxRecDepth 100000
set_option maxHeartbeats 4000000
set_option linter.unusedSimpArgs false
set_option linter.unusedVariables false
namespace Go.Proofs.YtngmaccaldhjcaaDoor
open Go.Ds
/-! ## The best of the specification -/
def unitL (n i : Nat) : List Int := (List.replicate n 0).set i 1
theorem unitL_len (n i : Nat) : (unitL n i).length = n := by simp [unitL]
theorem unitL_ne (n i : Nat) (hi : i < n) (k : Nat) : ne (unitL n i) k = if k = i then 1 else 0 := by
  unfold ne unitL
  rw [List.getD_eq_getElem?_getD, List.getElem?_set]
  by_cases c : i = k
  · subst c
    simp [hi]
  · rw [if_neg c, if_neg (fun e => c e.symm)]
    rw [List.getElem?_replicate]
    split <;> rfl
def bestT (T : List (List Int)) (L : List Int) : Nat := (bestS (rowG (te T 0 0) (te T 0 1) (te T 0 2) (te T 1 0) (te T 1 1) (te T 1 2) (te T 2 0) (te T 2 1) (te T 2 2) (ne L 0) (ne L 1) (ne L 2)) T.length).1
theorem refBest_rets {X : Caller} (hX : Xok X) (T : List (List Int)) (hT : tabB T = true) (L : List Int) (hL : L.length = T.length) (hx : ∀ i, Sm 10000 (ne L i)) (d : Int) (t s : Value) (g : GH) (ht : Sl2 g t T) (hs : SlR g s (ints L)) :
    Rets Tryd.prog X 58 [t, paV s d] g (fun v g' lo => g.next ≤ lo ∧ v = .int .i64 (bestT T L : Nat)) := by
  obtain ⟨t1, t2, t3⟩ := tab_len hT
  unfold bestT
  obtain ⟨f, hf⟩ : ∃ f, rowG (te T 0 0) (te T 0 1) (te T 0 2) (te T 1 0) (te T 1 1) (te T 1 2) (te T 2 0) (te T 2 1) (te T 2 2) (ne L 0) (ne L 1) (ne L 2) = f := ⟨_, rfl⟩
  rw [hf]
  have hl := ht.len
  have hc := hs.cell
  unfold paV
  refine Rets.run hX.pres p58 (hX.free 58 (by decide) _ _) rfl fun ho => ?_
  have hB : (g.push (cellsOb [s, .int .i64 d] 25)).get g.next = cellsOb [s, .int .i64 d] 25 := (by simp (disch := first | assumption | exact cellV_int _ _ | exact cellV_bool _ | omega | (simp only [GH.pn, GH.sn] <;> omega) | (with_reducible ((repeat (first | apply GH.ok_push | apply GH.ok_set)); assumption)) | ((try simp only [GH.push_hid, GH.set_hid]); refine GH.vis ?_ ?_ <;> first | assumption | ((try simp only [GH.pn, GH.sn]) <;> omega))) only [↓GH.gp_eq, ↓GH.gp_ne, ↓GH.gs_eq, ↓GH.gs_ne, GH.push_next, GH.set_next]; first | done | exact rfl)
  have hk0 := (Kept.refl g).push ho (cellsOb [s, .int .i64 d] 25)
  simp +decide (disch := first | assumption | exact cellV_int _ _ | exact cellV_bool _ | omega | (simp only [GH.pn, GH.sn] <;> omega) | (with_reducible ((repeat (first | apply GH.ok_push | apply GH.ok_set)); assumption)) | ((try simp only [GH.push_hid, GH.set_hid]); refine GH.vis ?_ ?_ <;> first | assumption | ((try simp only [GH.pn, GH.sn]) <;> omega))) only [go_sem, ↓reduceIte, Nat.reduceEqDiff, Nat.reduceAdd, Int.reduceToNat, Int.reduceAdd, Int.reduceNeg, Int.reduceSub, Int.reduceMul, Int.reduceLT, Int.reduceLE, Int.reduceEq, ↓GH.gp_eq, ↓GH.gp_ne, ↓GH.gs_eq, ↓GH.gs_ne, GH.push_next, GH.set_next, hc]
  obtain ⟨g2, hg2⟩ : ∃ g2, g.push (cellsOb [s, .int .i64 d] 25) = g2 := ⟨_, rfl⟩
  have hgn : g2.next = g.next + 1 := by rw [← hg2]; rfl
  rw [hg2] at hB hk0 ⊢
  refine Wk.loops (fun m e g' lo => g.next ≤ lo ∧ Kept g2 g' ∧ ∃ i : Nat, i + m = T.length ∧ (ev e (.s 0) = t ∧ ev e (.s 3) = ptrTo g.next ∧ ev e (.s 7) = .int .i64 i ∧ ev e (.s 5) = .int .i64 ((bestS f i).1 : Nat) ∧ ev e (.s 6) = .int .i64 (bestS f i).2))
    (fun e g' lo => g.next ≤ lo ∧ ev e (.s 5) = .int .i64 ((bestS f T.length).1 : Nat)) (n := T.length) ?_ ?_ ?_
  · have b0 : bestS f 0 = (0, 0) := rfl
    exact ⟨Nat.le_refl _, Kept.refl _, 0, by omega, by rw [b0]; exact (by simp +decide (disch := first | assumption | (apply GH.ok_push; assumption) | exact cellV_int _ _ | exact cellV_bool _ | omega) only [go_sem, ↓reduceIte, Nat.reduceEqDiff, Nat.reduceAdd, Int.reduceToNat]; first | done | exact rfl)⟩
  · rintro e g' lo - - ⟨hlo, he⟩
    simp +decide (disch := first | assumption | (apply GH.ok_push; assumption) | exact cellV_int _ _ | exact cellV_bool _ | omega) only [go_sem, ↓reduceIte, Nat.reduceEqDiff, Nat.reduceAdd, Int.reduceToNat, he]
    intro hx
    exact ⟨hlo, rfl⟩
  · rintro m e g' lo ho' hl' ih out ⟨hlo, hk, i, hi, he⟩
    have hkn := hk.next
    by_cases ci : i < T.length
    · have hB' := (hk.gets g.next (by omega)).trans hB
      have ci' : (i : Int) < T.length := by omega
      simp +decide (disch := first | assumption | exact cellV_int _ _ | exact cellV_bool _ | omega | (simp only [GH.pn, GH.sn] <;> omega) | (with_reducible ((repeat (first | apply GH.ok_push | apply GH.ok_set)); assumption)) | ((try simp only [GH.push_hid, GH.set_hid]); refine GH.vis ?_ ?_ <;> first | assumption | ((try simp only [GH.pn, GH.sn]) <;> omega))) only [go_sem, ↓reduceIte, Nat.reduceEqDiff, Nat.reduceAdd, Int.reduceToNat, Int.reduceAdd, Int.reduceNeg, Int.reduceSub, Int.reduceMul, Int.reduceLT, Int.reduceLE, Int.reduceEq, ↓GH.gp_eq, ↓GH.gp_ne, ↓GH.gs_eq, ↓GH.gs_ne, GH.push_next, GH.set_next, he, hl, ci']
      refine Wk.mkslice (n := T.length) (c := T.length) (by simp +decide (disch := first | assumption | (apply GH.ok_push; assumption) | exact cellV_int _ _ | exact cellV_bool _ | omega) only [go_sem, ↓reduceIte, Nat.reduceEqDiff, Nat.reduceAdd, Int.reduceToNat, he, hl]; first | done | exact rfl) (by simp +decide (disch := first | assumption | (apply GH.ok_push; assumption) | exact cellV_int _ _ | exact cellV_bool _ | omega) only [go_sem, ↓reduceIte, Nat.reduceEqDiff, Nat.reduceAdd, Int.reduceToNat, he, hl]; first | done | exact rfl) (Nat.le_refl _) (by omega) ?_
      have hz : repeatN [Value.int .i64 0] T.length = ints (List.replicate T.length 0) := by
        rw [repeatN_replicate]; simp [ints]
      rw [hz]
      have hia := iaddrS_at (j := g'.next) (n := T.length) (c := T.length) (m := i) (x := (i : Int)) rfl ci
      have hsp : splice i (ints (List.replicate T.length 0)) [.int .i64 1] = ints (unitL T.length i) := by
        rw [splice_set _ _ _ (by rw [ints_len]; simpa using ci), ints_set]; rfl
      have hrl : (ints (List.replicate T.length 0)).length = T.length := by rw [ints_len]; simp
      simp +decide (disch := first | assumption | exact cellV_int _ _ | exact cellV_bool _ | omega | (simp only [GH.pn, GH.sn] <;> omega) | (with_reducible ((repeat (first | apply GH.ok_push | apply GH.ok_set)); assumption)) | ((try simp only [GH.push_hid, GH.set_hid]); refine GH.vis ?_ ?_ <;> first | assumption | ((try simp only [GH.pn, GH.sn]) <;> omega))) only [go_sem, ↓reduceIte, Nat.reduceEqDiff, Nat.reduceAdd, Int.reduceToNat, Int.reduceAdd, Int.reduceNeg, Int.reduceSub, Int.reduceMul, Int.reduceLT, Int.reduceLE, Int.reduceEq, ↓GH.gp_eq, ↓GH.gp_ne, ↓GH.gs_eq, ↓GH.gs_ne, GH.push_next, GH.set_next, he, hl, hia, hsp, hrl, hB']
      rw [hsp]
      obtain ⟨G, hG⟩ : ∃ G, ((g'.push (cellsOb (ints (List.replicate T.length 0)) 3)).set g'.next (cellsOb (ints (unitL T.length i)) 3)) = G := ⟨_, rfl⟩
      have hkG : Kept g' G := by rw [← hG]; exact (by (repeat' first | exact Kept.refl _ | assumption | refine Kept.push ?_ ?_ _ | refine Kept.setV ?_ ?_ ?_ _) <;> (first | assumption | exact cellV_int _ _ | exact cellV_bool _ | omega | (simp only [GH.pn, GH.sn] <;> omega) | (with_reducible ((repeat (first | apply GH.ok_push | apply GH.ok_set)); assumption)) | ((try simp only [GH.push_hid, GH.set_hid]); refine GH.vis ?_ ?_ <;> first | assumption | ((try simp only [GH.pn, GH.sn]) <;> omega))))
      have hgetG : G.get g'.next = cellsOb (ints (unitL T.length i)) 3 := by rw [← hG]; exact (by simp (disch := first | assumption | exact cellV_int _ _ | exact cellV_bool _ | omega | (simp only [GH.pn, GH.sn] <;> omega) | (with_reducible ((repeat (first | apply GH.ok_push | apply GH.ok_set)); assumption)) | ((try simp only [GH.push_hid, GH.set_hid]); refine GH.vis ?_ ?_ <;> first | assumption | ((try simp only [GH.pn, GH.sn]) <;> omega))) only [↓GH.gp_eq, ↓GH.gp_ne, ↓GH.gs_eq, ↓GH.gs_ne, GH.push_next, GH.set_next]; first | done | exact rfl)
      have hokG : G.ok := by rw [← hG]; exact GH.ok_set (GH.ok_push ho')
      have hnG : G.next = g'.next + 1 := by rw [← hG]; rfl
      rw [hG]
      have hu := SlR.whole (n := T.length) (c := T.length) hgetG (by omega) (by rw [ints_len, unitL_len])
      have hkk := hk0.trans (hk.trans hkG)
      have hgr := refGain_rets hX T hT (unitL T.length i) L (unitL_len _ _) hL 1 10000 (fun k => by rw [unitL_ne _ _ ci]; unfold Sm; split <;> omega) hx (by decide) (by decide) t (.slice (some ⟨g'.next, 0, none⟩) T.length T.length) s G (ht.kept hkk) hu (hs.kept hkk)
      have hgs : gT T (ne (unitL T.length i) 0) (ne (unitL T.length i) 1) (ne (unitL T.length i) 2) (ne L 0) (ne L 1) (ne L 2) = f i := by
        rw [unitL_ne _ _ ci, unitL_ne _ _ ci, unitL_ne _ _ ci]
        have := gain_alone (m00 := te T 0 0) (m01 := te T 0 1) (m02 := te T 0 2) (m10 := te T 1 0) (m11 := te T 1 1) (m12 := te T 1 2) (m20 := te T 2 0) (m21 := te T 2 1) (m22 := te T 2 2) (x0 := ne L 0) (x1 := ne L 1) (x2 := ne L 2) (i := i) (by omega)
        rw [hf] at this
        rw [← this]
        unfold gT
        simp only [eq_comm]
      rw [gain_same hT (unitL_len _ _) hL, hgs] at hgr
      refine CallD.calm hgr ?_
      rintro v G3 hx3 rfl
      have hn3 := hx3.next
      have hsh := shl_one (i := i) (by omega)
      have hlt := bestS_lt f i
      have hp8 : 2 ^ i ≤ 4 := by
        obtain rfl | rfl | rfl : i = 0 ∨ i = 1 ∨ i = 2 := by omega
        all_goals decide
      have hkk2 := (hk.trans hkG).ext hx3
      have hst : bestS f (i + 1) = stepB (bestS f i) i (f i) := rfl
      unfold stepB at hst
      by_cases c1 : (bestS f i).1 = 0
      · have c1' : (((bestS f i).1 : Nat) : Int) = 0 := by omega
        rw [if_pos (.inl c1)] at hst
        simp +decide (disch := first | assumption | exact cellV_int _ _ | exact cellV_bool _ | omega | (simp only [GH.pn, GH.sn] <;> omega) | (with_reducible ((repeat (first | apply GH.ok_push | apply GH.ok_set)); assumption)) | ((try simp only [GH.push_hid, GH.set_hid]); refine GH.vis ?_ ?_ <;> first | assumption | ((try simp only [GH.pn, GH.sn]) <;> omega))) only [go_sem, ↓reduceIte, Nat.reduceEqDiff, Nat.reduceAdd, Int.reduceToNat, Int.reduceAdd, Int.reduceNeg, Int.reduceSub, Int.reduceMul, Int.reduceLT, Int.reduceLE, Int.reduceEq, ↓GH.gp_eq, ↓GH.gp_ne, ↓GH.gs_eq, ↓GH.gs_ne, GH.push_next, GH.set_next, he, c1', hsh]
        refine ih (m - 1) _ _ _ (by omega) ⟨by omega, hkk2, i + 1, by omega, ?_⟩
        rw [hst]
        exact (by simp +decide (disch := first | assumption | (apply GH.ok_push; assumption) | exact cellV_int _ _ | exact cellV_bool _ | omega) only [go_sem, ↓reduceIte, Nat.reduceEqDiff, Nat.reduceAdd, Int.reduceToNat, he]; first | done | exact rfl)
      · have c1' : ¬ (((bestS f i).1 : Nat) : Int) = 0 := by omega
        by_cases c2 : (bestS f i).2 < f i
        · rw [if_pos (.inr c2)] at hst
          simp +decide (disch := first | assumption | exact cellV_int _ _ | exact cellV_bool _ | omega | (simp only [GH.pn, GH.sn] <;> omega) | (with_reducible ((repeat (first | apply GH.ok_push | apply GH.ok_set)); assumption)) | ((try simp only [GH.push_hid, GH.set_hid]); refine GH.vis ?_ ?_ <;> first | assumption | ((try simp only [GH.pn, GH.sn]) <;> omega))) only [go_sem, ↓reduceIte, Nat.reduceEqDiff, Nat.reduceAdd, Int.reduceToNat, Int.reduceAdd, Int.reduceNeg, Int.reduceSub, Int.reduceMul, Int.reduceLT, Int.reduceLE, Int.reduceEq, ↓GH.gp_eq, ↓GH.gp_ne, ↓GH.gs_eq, ↓GH.gs_ne, GH.push_next, GH.set_next, he, c1', c2, hsh]
          refine ih (m - 1) _ _ _ (by omega) ⟨by omega, hkk2, i + 1, by omega, ?_⟩
          rw [hst]
          exact (by simp +decide (disch := first | assumption | (apply GH.ok_push; assumption) | exact cellV_int _ _ | exact cellV_bool _ | omega) only [go_sem, ↓reduceIte, Nat.reduceEqDiff, Nat.reduceAdd, Int.reduceToNat, he]; first | done | exact rfl)
        · rw [if_neg (by omega)] at hst
          by_cases c3 : f i = (bestS f i).2
          · rw [if_pos c3] at hst
            simp +decide (disch := first | assumption | exact cellV_int _ _ | exact cellV_bool _ | omega | (simp only [GH.pn, GH.sn] <;> omega) | (with_reducible ((repeat (first | apply GH.ok_push | apply GH.ok_set)); assumption)) | ((try simp only [GH.push_hid, GH.set_hid]); refine GH.vis ?_ ?_ <;> first | assumption | ((try simp only [GH.pn, GH.sn]) <;> omega))) only [go_sem, ↓reduceIte, Nat.reduceEqDiff, Nat.reduceAdd, Int.reduceToNat, Int.reduceAdd, Int.reduceNeg, Int.reduceSub, Int.reduceMul, Int.reduceLT, Int.reduceLE, Int.reduceEq, ↓GH.gp_eq, ↓GH.gp_ne, ↓GH.gs_eq, ↓GH.gs_ne, GH.push_next, GH.set_next, he, c1', c2, c3, hsh]
            refine ih (m - 1) _ _ _ (by omega) ⟨by omega, hkk2, i + 1, by omega, ?_⟩
            rw [hst]
            exact (by simp +decide (disch := first | assumption | (apply GH.ok_push; assumption) | exact cellV_int _ _ | exact cellV_bool _ | omega) only [go_sem, ↓reduceIte, Nat.reduceEqDiff, Nat.reduceAdd, Int.reduceToNat, he]; first | done | exact rfl)
          · rw [if_neg c3] at hst
            simp +decide (disch := first | assumption | exact cellV_int _ _ | exact cellV_bool _ | omega | (simp only [GH.pn, GH.sn] <;> omega) | (with_reducible ((repeat (first | apply GH.ok_push | apply GH.ok_set)); assumption)) | ((try simp only [GH.push_hid, GH.set_hid]); refine GH.vis ?_ ?_ <;> first | assumption | ((try simp only [GH.pn, GH.sn]) <;> omega))) only [go_sem, ↓reduceIte, Nat.reduceEqDiff, Nat.reduceAdd, Int.reduceToNat, Int.reduceAdd, Int.reduceNeg, Int.reduceSub, Int.reduceMul, Int.reduceLT, Int.reduceLE, Int.reduceEq, ↓GH.gp_eq, ↓GH.gp_ne, ↓GH.gs_eq, ↓GH.gs_ne, GH.push_next, GH.set_next, he, c1', c2, c3, hsh]
            refine ih (m - 1) _ _ _ (by omega) ⟨by omega, hkk2, i + 1, by omega, ?_⟩
            rw [hst]
            exact (by simp +decide (disch := first | assumption | (apply GH.ok_push; assumption) | exact cellV_int _ _ | exact cellV_bool _ | omega) only [go_sem, ↓reduceIte, Nat.reduceEqDiff, Nat.reduceAdd, Int.reduceToNat, he]; first | done | exact rfl)
    · have ci' : ¬ (i : Int) < T.length := by omega
      have : i = T.length := by omega
      subst this
      simp +decide (disch := first | assumption | (apply GH.ok_push; assumption) | exact cellV_int _ _ | exact cellV_bool _ | omega) only [go_sem, ↓reduceIte, Nat.reduceEqDiff, Nat.reduceAdd, Int.reduceToNat, he, hl, ci']
      exact out _ _ _ ⟨hlo, (by simp +decide (disch := first | assumption | (apply GH.ok_push; assumption) | exact cellV_int _ _ | exact cellV_bool _ | omega) only [go_sem, ↓reduceIte, Nat.reduceEqDiff, Nat.reduceAdd, Int.reduceToNat, he]; first | done | exact rfl)⟩
end Go.Proofs.YtngmaccaldhjcaaDoor
set_option maxRecDepth 100000
set_option maxHeartbeats 4000000
set_option linter.unusedSimpArgs false
set_option linter.unusedVariables false
namespace Go.Proofs.YtngmaccaldhjcaaDoor
open Go.Ds
theorem bslP2 (a b c d x y z w : Value) : bsl 2 #[a, b, c, d] [(0, .agg #[x, y]), (1, .agg #[z, w])] = some #[x, y, z, w] := rfl
theorem bslP1 (a b x y : Value) : bsl 2 #[a, b] [(0, .agg #[x, y])] = some #[x, y] := rfl
theorem bldP0 (a b : Value) : buildF [(0, 1), (1, 1)] none #[a, b] [] = some (.agg #[a, b]) := rfl
attribute [go_sem] bslP2 bslP1 bldP0
theorem gain_sm {m00 m01 m02 m10 m11 m12 m20 m21 m22 x0 x1 x2 y0 y1 y2 a b c : Int} (hm : Sm c m00 ∧ Sm c m01 ∧ Sm c m02 ∧ Sm c m10 ∧ Sm c m11 ∧ Sm c m12 ∧ Sm c m20 ∧ Sm c m21 ∧ Sm c m22) (hx : Sm a x0 ∧ Sm a x1 ∧ Sm a x2) (hy : Sm b y0 ∧ Sm b y1 ∧ Sm b y2) : Sm (9 * (a * b * c)) (gainZ m00 m01 m02 m10 m11 m12 m20 m21 m22 x0 x1 x2 y0 y1 y2) := by
  obtain ⟨h00, h01, h02, h10, h11, h12, h20, h21, h22⟩ := hm
  obtain ⟨hx0, hx1, hx2⟩ := hx
  obtain ⟨hy0, hy1, hy2⟩ := hy
  have q00 := (hx0.mul hy0).mul h00
  have q01 := (hx0.mul hy1).mul h01
  have q02 := (hx0.mul hy2).mul h02
  have q10 := (hx1.mul hy0).mul h10
  have q11 := (hx1.mul hy1).mul h11
  have q12 := (hx1.mul hy2).mul h12
  have q20 := (hx2.mul hy0).mul h20
  have q21 := (hx2.mul hy1).mul h21
  have q22 := (hx2.mul hy2).mul h22
  unfold Sm gainZ at *
  omega
/-- What Gain returns. -/
def gainR (T : List (List Int)) (L : List Int) (d : Int) (M : List Int) (f : Int) : Value :=
  if err2 T L d M f = 0 then .tuple #[raV (lowN (gT T (ne L 0) (ne L 1) (ne L 2) (ne M 0) (ne M 1) (ne M 2)) (d * f)) (lowD (gT T (ne L 0) (ne L 1) (ne L 2) (ne M 0) (ne M 1) (ne M 2)) (d * f)), .int .i64 0]
  else .tuple #[raV 0 0, .int .i64 2]
theorem err2_cases (T : List (List Int)) (L : List Int) (d : Int) (M : List Int) (f : Int) : (err2 T L d M f = 2) ∨ (err2 T L d M f = 0 ∧ tabB T = true ∧ mixB T.length L d = true ∧ mixB T.length M f = true) := by
  unfold err2
  split
  · rename_i h; exact .inr ⟨rfl, h⟩
  · exact .inl rfl
theorem err1_cases (T : List (List Int)) (L : List Int) (d : Int) : (err1 T L d = 2) ∨ (err1 T L d = 0 ∧ tabB T = true ∧ mixB T.length L d = true) := by
  unfold err1
  split
  · rename_i h; exact .inr ⟨rfl, h⟩
  · exact .inl rfl
theorem mix_sm {n : Nat} {L : List Int} {d : Int} (h : mixB n L d = true) (i : Nat) : Sm 10000 (ne L i) := by
  have := mix_facts h
  have h6 := this.2.2.2.2.2.1 i
  unfold Sm
  omega
theorem Gain_rets {X : Caller} (hX : Xok X) (T : List (List Int)) (hF : Few T) (L : List Int) (d : Int) (M : List Int) (f : Int) (t s r : Value) (g : GH) (ht : Sl2 g t T) (hs : SlR g s (ints L)) (hr : SlR g r (ints M)) :
    Rets Tryd.prog X 20 [t, paV s d, paV r f] g (fun v g' lo => g.next ≤ lo ∧ v = gainR T L d M f) := by
  have hc := hs.cell
  have hcr := hr.cell
  unfold paV
  refine Rets.run hX.pres p20 (hX.free 20 (by decide) _ _) rfl fun ho => ?_
  have hk : Kept g ((((g.push (cellsOb [s, .int .i64 d] 25)).push (cellsOb [r, .int .i64 f] 25)).push (cellsOb [.int .i64 0, .int .i64 0] 32)).push (cellsOb [s, .int .i64 d, r, .int .i64 f] 25)) := (by (repeat' first | exact Kept.refl _ | assumption | refine Kept.push ?_ ?_ _ | refine Kept.setV ?_ ?_ ?_ _) <;> (first | assumption | exact cellV_int _ _ | exact cellV_bool _ | omega | (simp only [GH.pn, GH.sn] <;> omega) | (with_reducible ((repeat (first | apply GH.ok_push | apply GH.ok_set)); assumption)) | ((try simp only [GH.push_hid, GH.set_hid]); refine GH.vis ?_ ?_ <;> first | assumption | ((try simp only [GH.pn, GH.sn]) <;> omega))))
  have hg : ((((g.push (cellsOb [s, .int .i64 d] 25)).push (cellsOb [r, .int .i64 f] 25)).push (cellsOb [.int .i64 0, .int .i64 0] 32)).push (cellsOb [s, .int .i64 d, r, .int .i64 f] 25)).get (g.next + 1 + 1 + 1) = cellsOb [s, .int .i64 d, r, .int .i64 f] 25 := (by simp (disch := first | assumption | exact cellV_int _ _ | exact cellV_bool _ | omega | (simp only [GH.pn, GH.sn] <;> omega) | (with_reducible ((repeat (first | apply GH.ok_push | apply GH.ok_set)); assumption)) | ((try simp only [GH.push_hid, GH.set_hid]); refine GH.vis ?_ ?_ <;> first | assumption | ((try simp only [GH.pn, GH.sn]) <;> omega))) only [↓GH.gp_eq, ↓GH.gp_ne, ↓GH.gs_eq, ↓GH.gs_ne, GH.push_next, GH.set_next]; first | done | exact rfl)
  have hA : ((((g.push (cellsOb [s, .int .i64 d] 25)).push (cellsOb [r, .int .i64 f] 25)).push (cellsOb [.int .i64 0, .int .i64 0] 32)).push (cellsOb [s, .int .i64 d, r, .int .i64 f] 25)).get g.next = cellsOb [s, .int .i64 d] 25 := (by simp (disch := first | assumption | exact cellV_int _ _ | exact cellV_bool _ | omega | (simp only [GH.pn, GH.sn] <;> omega) | (with_reducible ((repeat (first | apply GH.ok_push | apply GH.ok_set)); assumption)) | ((try simp only [GH.push_hid, GH.set_hid]); refine GH.vis ?_ ?_ <;> first | assumption | ((try simp only [GH.pn, GH.sn]) <;> omega))) only [↓GH.gp_eq, ↓GH.gp_ne, ↓GH.gs_eq, ↓GH.gs_ne, GH.push_next, GH.set_next]; first | done | exact rfl)
  have hB : ((((g.push (cellsOb [s, .int .i64 d] 25)).push (cellsOb [r, .int .i64 f] 25)).push (cellsOb [.int .i64 0, .int .i64 0] 32)).push (cellsOb [s, .int .i64 d, r, .int .i64 f] 25)).get (g.next + 1) = cellsOb [r, .int .i64 f] 25 := (by simp (disch := first | assumption | exact cellV_int _ _ | exact cellV_bool _ | omega | (simp only [GH.pn, GH.sn] <;> omega) | (with_reducible ((repeat (first | apply GH.ok_push | apply GH.ok_set)); assumption)) | ((try simp only [GH.push_hid, GH.set_hid]); refine GH.vis ?_ ?_ <;> first | assumption | ((try simp only [GH.pn, GH.sn]) <;> omega))) only [↓GH.gp_eq, ↓GH.gp_ne, ↓GH.gs_eq, ↓GH.gs_ne, GH.push_next, GH.set_next]; first | done | exact rfl)
  have hC : ((((g.push (cellsOb [s, .int .i64 d] 25)).push (cellsOb [r, .int .i64 f] 25)).push (cellsOb [.int .i64 0, .int .i64 0] 32)).push (cellsOb [s, .int .i64 d, r, .int .i64 f] 25)).get (g.next + 1 + 1) = cellsOb [.int .i64 0, .int .i64 0] 32 := (by simp (disch := first | assumption | exact cellV_int _ _ | exact cellV_bool _ | omega | (simp only [GH.pn, GH.sn] <;> omega) | (with_reducible ((repeat (first | apply GH.ok_push | apply GH.ok_set)); assumption)) | ((try simp only [GH.push_hid, GH.set_hid]); refine GH.vis ?_ ?_ <;> first | assumption | ((try simp only [GH.pn, GH.sn]) <;> omega))) only [↓GH.gp_eq, ↓GH.gp_ne, ↓GH.gs_eq, ↓GH.gs_ne, GH.push_next, GH.set_next]; first | done | exact rfl)
  have hokH : ((((g.push (cellsOb [s, .int .i64 d] 25)).push (cellsOb [r, .int .i64 f] 25)).push (cellsOb [.int .i64 0, .int .i64 0] 32)).push (cellsOb [s, .int .i64 d, r, .int .i64 f] 25)).ok := GH.ok_push (GH.ok_push (GH.ok_push (GH.ok_push ho)))
  simp +decide (disch := first | assumption | exact cellV_int _ _ | exact cellV_bool _ | omega | (simp only [GH.pn, GH.sn] <;> omega) | (with_reducible ((repeat (first | apply GH.ok_push | apply GH.ok_set)); assumption)) | ((try simp only [GH.push_hid, GH.set_hid]); refine GH.vis ?_ ?_ <;> first | assumption | ((try simp only [GH.pn, GH.sn]) <;> omega))) only [go_sem, ↓reduceIte, Nat.reduceEqDiff, Nat.reduceAdd, Int.reduceToNat, Int.reduceAdd, Int.reduceNeg, Int.reduceSub, Int.reduceMul, Int.reduceLT, Int.reduceLE, Int.reduceEq, ↓GH.gp_eq, ↓GH.gp_ne, ↓GH.gs_eq, ↓GH.gs_ne, GH.push_next, GH.set_next, hc, hcr]
  obtain ⟨H, hH⟩ : ∃ H, ((((g.push (cellsOb [s, .int .i64 d] 25)).push (cellsOb [r, .int .i64 f] 25)).push (cellsOb [.int .i64 0, .int .i64 0] 32)).push (cellsOb [s, .int .i64 d, r, .int .i64 f] 25)) = H := ⟨_, rfl⟩
  have hnH : H.next = g.next + 1 + 1 + 1 + 1 := by rw [← hH]; rfl
  rw [hH] at hk hg hA hB hC hokH
  have hck := check2_rets hX T hF L d M f t s r (g.next + 1 + 1 + 1) 25 H (ht.kept hk) (hs.kept hk) (hr.kept hk) (by omega) hg
  rw [← hH] at hck
  refine CallD.calm hck ?_
  rw [hH]
  rintro v g1 hx1 rfl
  have hn1 := hx1.next
  have hok1 := hx1.ok hokH
  have hA1 := (hx1.gets g.next (by omega)).trans hA
  have hB1 := (hx1.gets (g.next + 1) (by omega)).trans hB
  have hC1 := (hx1.gets (g.next + 1 + 1) (by omega)).trans hC
  have hvC := GH.seen hC1 Nat.one_ne_zero
  have hk1 := hk.ext hx1
  unfold gainR
  rcases err2_cases T L d M f with hE | ⟨hE, hT, hm1, hm2⟩
  · rw [hE]
    simp +decide (disch := first | assumption | exact cellV_int _ _ | exact cellV_bool _ | omega | (simp only [GH.pn, GH.sn] <;> omega) | (with_reducible ((repeat (first | apply GH.ok_push | apply GH.ok_set)); assumption)) | ((try simp only [GH.push_hid, GH.set_hid]); refine GH.vis ?_ ?_ <;> first | assumption | ((try simp only [GH.pn, GH.sn]) <;> omega))) only [go_sem, ↓reduceIte, Nat.reduceEqDiff, Nat.reduceAdd, Int.reduceToNat, Int.reduceAdd, Int.reduceNeg, Int.reduceSub, Int.reduceMul, Int.reduceLT, Int.reduceLE, Int.reduceEq, ↓GH.gp_eq, ↓GH.gp_ne, ↓GH.gs_eq, ↓GH.gs_ne, GH.push_next, GH.set_next, hC1]
    intro hx0
    exact ⟨by omega, rfl⟩
  · rw [hE]
    obtain ⟨a1, a2, a3, a4, a5, a6, a7, a8⟩ := mix_facts hm1
    obtain ⟨b1, b2, b3, b4, b5, b6, b7, b8⟩ := mix_facts hm2
    have hmo := mixtureOf_rets hX L (by omega) (by omega) d s
    have hmo2 := mixtureOf_rets hX M (by omega) (by omega) f r
    unfold paV mxV at hmo hmo2
    simp +decide (disch := first | assumption | exact cellV_int _ _ | exact cellV_bool _ | omega | (simp only [GH.pn, GH.sn] <;> omega) | (with_reducible ((repeat (first | apply GH.ok_push | apply GH.ok_set)); assumption)) | ((try simp only [GH.push_hid, GH.set_hid]); refine GH.vis ?_ ?_ <;> first | assumption | ((try simp only [GH.pn, GH.sn]) <;> omega))) only [go_sem, ↓reduceIte, Nat.reduceEqDiff, Nat.reduceAdd, Int.reduceToNat, Int.reduceAdd, Int.reduceNeg, Int.reduceSub, Int.reduceMul, Int.reduceLT, Int.reduceLE, Int.reduceEq, ↓GH.gp_eq, ↓GH.gp_ne, ↓GH.gs_eq, ↓GH.gs_ne, GH.push_next, GH.set_next, hA1, hB1]
    refine CallD.calm (hmo g1 (hs.kept hk1)) ?_
    rintro v g2 hx2 rfl
    have hn2 := hx2.next
    have hok2 := hx2.ok hok1
    have hB2 := (hx2.gets (g.next + 1) (by omega)).trans hB1
    have hC2 := (hx2.gets (g.next + 1 + 1) (by omega)).trans hC1
    have hk2 := hk1.ext hx2
    simp +decide (disch := first | assumption | exact cellV_int _ _ | exact cellV_bool _ | omega | (simp only [GH.pn, GH.sn] <;> omega) | (with_reducible ((repeat (first | apply GH.ok_push | apply GH.ok_set)); assumption)) | ((try simp only [GH.push_hid, GH.set_hid]); refine GH.vis ?_ ?_ <;> first | assumption | ((try simp only [GH.pn, GH.sn]) <;> omega))) only [go_sem, ↓reduceIte, Nat.reduceEqDiff, Nat.reduceAdd, Int.reduceToNat, Int.reduceAdd, Int.reduceNeg, Int.reduceSub, Int.reduceMul, Int.reduceLT, Int.reduceLE, Int.reduceEq, ↓GH.gp_eq, ↓GH.gp_ne, ↓GH.gs_eq, ↓GH.gs_ne, GH.push_next, GH.set_next, hB2]
    refine CallD.calm (hmo2 g2 (hr.kept hk2)) ?_
    rintro v g3 hx3 rfl
    have hn3 := hx3.next
    have hok3 := hx3.ok hok2
    have hC3 := (hx3.gets (g.next + 1 + 1) (by omega)).trans hC2
    have hk3 := hk2.ext hx3
    simp +decide (disch := first | assumption | exact cellV_int _ _ | exact cellV_bool _ | omega | (simp only [GH.pn, GH.sn] <;> omega) | (with_reducible ((repeat (first | apply GH.ok_push | apply GH.ok_set)); assumption)) | ((try simp only [GH.push_hid, GH.set_hid]); refine GH.vis ?_ ?_ <;> first | assumption | ((try simp only [GH.pn, GH.sn]) <;> omega))) only [go_sem, ↓reduceIte, Nat.reduceEqDiff, Nat.reduceAdd, Int.reduceToNat, Int.reduceAdd, Int.reduceNeg, Int.reduceSub, Int.reduceMul, Int.reduceLT, Int.reduceLE, Int.reduceEq, ↓GH.gp_eq, ↓GH.gp_ne, ↓GH.gs_eq, ↓GH.gs_ne, GH.push_next, GH.set_next]
    have hma := market_rets hX T hT t
    unfold mkT mkV at hma
    refine CallD.name fun G hG => ?_
    have hnG : G.next = g3.next + 1 + 1 := by rw [hG]; rfl
    have hokG : G.ok := by rw [hG]; exact GH.ok_set (GH.ok_set (GH.ok_push (GH.ok_push hok3)))
    have hP : G.get g3.next = cellsOb [.int .i64 (L.getD 0 0), .int .i64 (L.getD 1 0), .int .i64 (L.getD 2 0), .int .i64 d] 69 := by rw [hG]; exact (by simp (disch := first | assumption | exact cellV_int _ _ | exact cellV_bool _ | omega | (simp only [GH.pn, GH.sn] <;> omega) | (with_reducible ((repeat (first | apply GH.ok_push | apply GH.ok_set)); assumption)) | ((try simp only [GH.push_hid, GH.set_hid]); refine GH.vis ?_ ?_ <;> first | assumption | ((try simp only [GH.pn, GH.sn]) <;> omega))) only [↓GH.gp_eq, ↓GH.gp_ne, ↓GH.gs_eq, ↓GH.gs_ne, GH.push_next, GH.set_next]; first | done | exact rfl)
    have hQ : G.get (g3.next + 1) = cellsOb [.int .i64 (M.getD 0 0), .int .i64 (M.getD 1 0), .int .i64 (M.getD 2 0), .int .i64 f] 69 := by rw [hG]; exact (by simp (disch := first | assumption | exact cellV_int _ _ | exact cellV_bool _ | omega | (simp only [GH.pn, GH.sn] <;> omega) | (with_reducible ((repeat (first | apply GH.ok_push | apply GH.ok_set)); assumption)) | ((try simp only [GH.push_hid, GH.set_hid]); refine GH.vis ?_ ?_ <;> first | assumption | ((try simp only [GH.pn, GH.sn]) <;> omega))) only [↓GH.gp_eq, ↓GH.gp_ne, ↓GH.gs_eq, ↓GH.gs_ne, GH.push_next, GH.set_next]; first | done | exact rfl)
    have hkG : Kept g3 G := by rw [hG]; exact (by (repeat' first | exact Kept.refl _ | assumption | refine Kept.push ?_ ?_ _ | refine Kept.setV ?_ ?_ ?_ _) <;> (first | assumption | exact cellV_int _ _ | exact cellV_bool _ | omega | (simp only [GH.pn, GH.sn] <;> omega) | (with_reducible ((repeat (first | apply GH.ok_push | apply GH.ok_set)); assumption)) | ((try simp only [GH.push_hid, GH.set_hid]); refine GH.vis ?_ ?_ <;> first | assumption | ((try simp only [GH.pn, GH.sn]) <;> omega))))
    have hCG := (hkG.gets (g.next + 1 + 1) (by omega)).trans hC3
    refine CallD.calm (hma G (ht.kept (hk3.trans hkG))) ?_
    rintro v g5 hx5 rfl
    have hn5 := hx5.next
    have hok5 := hx5.ok hokG
    have hP5 := (hx5.gets g3.next (by omega)).trans hP
    have hQ5 := (hx5.gets (g3.next + 1) (by omega)).trans hQ
    have hC5 := (hx5.gets (g.next + 1 + 1) (by omega)).trans hCG
    have hvC5 := GH.seen hC5 Nat.one_ne_zero
    have hsx : Sm 10000 (L.getD 0 0) ∧ Sm 10000 (L.getD 1 0) ∧ Sm 10000 (L.getD 2 0) := ⟨mix_sm hm1 0, mix_sm hm1 1, mix_sm hm1 2⟩
    have hsy : Sm 10000 (M.getD 0 0) ∧ Sm 10000 (M.getD 1 0) ∧ Sm 10000 (M.getD 2 0) := ⟨mix_sm hm2 0, mix_sm hm2 1, mix_sm hm2 2⟩
    have hga := gain_rets hX T.length (te T 0 0) (te T 0 1) (te T 0 2) (te T 1 0) (te T 1 1) (te T 1 2) (te T 2 0) (te T 2 1) (te T 2 2) (L.getD 0 0) (L.getD 1 0) (L.getD 2 0) (M.getD 0 0) (M.getD 1 0) (M.getD 2 0) 10000 10000 20 (tab_sm9 hT) hsx hsy (by decide) (by decide)
    have hgs := gain_sm (tab_sm9 hT) hsx hsy
    obtain ⟨Z, hZ⟩ : ∃ Z, gainZ (te T 0 0) (te T 0 1) (te T 0 2) (te T 1 0) (te T 1 1) (te T 1 2) (te T 2 0) (te T 2 1) (te T 2 2) (L.getD 0 0) (L.getD 1 0) (L.getD 2 0) (M.getD 0 0) (M.getD 1 0) (M.getD 2 0) = Z := ⟨_, rfl⟩
    have hZ2 : gT T (ne L 0) (ne L 1) (ne L 2) (ne M 0) (ne M 1) (ne M 2) = Z := hZ
    rw [hZ2]
    rw [hZ] at hga hgs
    unfold mkV vcV at hga
    simp +decide (disch := first | assumption | exact cellV_int _ _ | exact cellV_bool _ | omega | (simp only [GH.pn, GH.sn] <;> omega) | (with_reducible ((repeat (first | apply GH.ok_push | apply GH.ok_set)); assumption)) | ((try simp only [GH.push_hid, GH.set_hid]); refine GH.vis ?_ ?_ <;> first | assumption | ((try simp only [GH.pn, GH.sn]) <;> omega))) only [go_sem, ↓reduceIte, Nat.reduceEqDiff, Nat.reduceAdd, Int.reduceToNat, Int.reduceAdd, Int.reduceNeg, Int.reduceSub, Int.reduceMul, Int.reduceLT, Int.reduceLE, Int.reduceEq, ↓GH.gp_eq, ↓GH.gp_ne, ↓GH.gs_eq, ↓GH.gs_ne, GH.push_next, GH.set_next, hP5, hQ5]
    refine CallD.calm (hga _) ?_
    rintro v g6 hx6 rfl
    have hn6 := hx6.next
    have hok6 := hx6.ok hok5
    have hP6 := (hx6.gets g3.next (by omega)).trans hP5
    have hQ6 := (hx6.gets (g3.next + 1) (by omega)).trans hQ5
    have hC6 := (hx6.gets (g.next + 1 + 1) (by omega)).trans hC5
    have hdf : 0 < d * f ∧ d * f ≤ 100000000 := by
      have h1 := Int.mul_pos (show 0 < d by omega) (show 0 < f by omega)
      have h2 := Int.mul_le_mul a5 b5 (by omega) (by omega)
      exact ⟨h1, h2⟩
    simp +decide (disch := first | assumption | exact cellV_int _ _ | exact cellV_bool _ | omega | (simp only [GH.pn, GH.sn] <;> omega) | (with_reducible ((repeat (first | apply GH.ok_push | apply GH.ok_set)); assumption)) | ((try simp only [GH.push_hid, GH.set_hid]); refine GH.vis ?_ ?_ <;> first | assumption | ((try simp only [GH.pn, GH.sn]) <;> omega))) only [go_sem, ↓reduceIte, Nat.reduceEqDiff, Nat.reduceAdd, Int.reduceToNat, Int.reduceAdd, Int.reduceNeg, Int.reduceSub, Int.reduceMul, Int.reduceLT, Int.reduceLE, Int.reduceEq, ↓GH.gp_eq, ↓GH.gp_ne, ↓GH.gs_eq, ↓GH.gs_ne, GH.push_next, GH.set_next, hP6, hQ6]
    refine CallD.calm (lowest_rets hX Z (d * f) (hgs.up (by decide)) (by omega) _) ?_
    rintro v g7 hx7 rfl
    have hn7 := hx7.next
    have hC7 := (hx7.gets (g.next + 1 + 1) (by omega)).trans hC6
    have hvC7 := GH.seen hC7 Nat.one_ne_zero
    unfold raV
    simp +decide (disch := first | assumption | exact cellV_int _ _ | exact cellV_bool _ | omega | (simp only [GH.pn, GH.sn] <;> omega) | (with_reducible ((repeat (first | apply GH.ok_push | apply GH.ok_set)); assumption)) | ((try simp only [GH.push_hid, GH.set_hid]); refine GH.vis ?_ ?_ <;> first | assumption | ((try simp only [GH.pn, GH.sn]) <;> omega))) only [go_sem, ↓reduceIte, Nat.reduceEqDiff, Nat.reduceAdd, Int.reduceToNat, Int.reduceAdd, Int.reduceNeg, Int.reduceSub, Int.reduceMul, Int.reduceLT, Int.reduceLE, Int.reduceEq, ↓GH.gp_eq, ↓GH.gp_ne, ↓GH.gs_eq, ↓GH.gs_ne, GH.push_next, GH.set_next, hC7]
    intro hx0
    exact ⟨by omega, rfl⟩
end Go.Proofs.YtngmaccaldhjcaaDoor
set_option maxRecDepth 100000
set_option maxHeartbeats 4000000
set_option linter.unusedSimpArgs false
set_option linter.unusedVariables false
namespace Go.Proofs.YtngmaccaldhjcaaDoor
open Go.Ds
def restB (T : List (List Int)) (L : List Int) : Bool := decide (andn (fashF (v3 (ne L 0) (ne L 1) (ne L 2)) 3) (bestT T L) = 0)
def atRestR (T : List (List Int)) (L : List Int) (d : Int) : Value := if err1 T L d = 0 then .tuple #[.bool (restB T L), .int .i64 0] else .tuple #[.bool false, .int .i64 2]
def bestR (T : List (List Int)) (L : List Int) (d : Int) : Value := if err1 T L d = 0 then .tuple #[.int .i64 (bestT T L : Nat), .int .i64 0] else .tuple #[.int .i64 0, .int .i64 2]
theorem fash_pad {L : List Int} (h1 : 1 ≤ L.length) (h3 : L.length ≤ 3) : fashF (v3 (ne L 0) (ne L 1) (ne L 2)) 3 = fashF (fun i => L.getD i 0) L.length := by
  match L, h1, h3 with
  | [a], _, _ => simp [fashF, v3, ne]
  | [a, b], _, _ => simp [fashF, v3, ne]
  | [a, b, c], _, _ => simp [fashF, v3, ne]
theorem two_pow3 {n : Nat} (h : n ≤ 3) : 2 ^ n ≤ 8 := by
  obtain rfl | rfl | rfl | rfl : n = 0 ∨ n = 1 ∨ n = 2 ∨ n = 3 := by omega
  all_goals decide
theorem bestT_lt (T : List (List Int)) (L : List Int) (h : T.length ≤ 3) : bestT T L < 8 := Nat.lt_of_lt_of_le (bestS_lt _ _) (two_pow3 h)
theorem AtRest_rets {X : Caller} (hX : Xok X) (T : List (List Int)) (hF : Few T) (L : List Int) (d : Int) (t s : Value) (g : GH) (ht : Sl2 g t T) (hs : SlR g s (ints L)) :
    Rets Tryd.prog X 22 [t, paV s d] g (fun v g' lo => g.next ≤ lo ∧ v = atRestR T L d) := by
  have hc := hs.cell
  unfold paV
  refine Rets.run hX.pres p22 (hX.free 22 (by decide) _ _) rfl fun ho => ?_
  have hk : Kept g ((g.push (cellsOb [s, .int .i64 d] 25)).push (cellsOb [s, .int .i64 d] 25)) := (by (repeat' first | exact Kept.refl _ | assumption | refine Kept.push ?_ ?_ _ | refine Kept.setV ?_ ?_ ?_ _) <;> (first | assumption | exact cellV_int _ _ | exact cellV_bool _ | omega | (simp only [GH.pn, GH.sn] <;> omega) | (with_reducible ((repeat (first | apply GH.ok_push | apply GH.ok_set)); assumption)) | ((try simp only [GH.push_hid, GH.set_hid]); refine GH.vis ?_ ?_ <;> first | assumption | ((try simp only [GH.pn, GH.sn]) <;> omega))))
  have hg : ((g.push (cellsOb [s, .int .i64 d] 25)).push (cellsOb [s, .int .i64 d] 25)).get (g.next + 1) = cellsOb [s, .int .i64 d] 25 := (by simp (disch := first | assumption | exact cellV_int _ _ | exact cellV_bool _ | omega | (simp only [GH.pn, GH.sn] <;> omega) | (with_reducible ((repeat (first | apply GH.ok_push | apply GH.ok_set)); assumption)) | ((try simp only [GH.push_hid, GH.set_hid]); refine GH.vis ?_ ?_ <;> first | assumption | ((try simp only [GH.pn, GH.sn]) <;> omega))) only [↓GH.gp_eq, ↓GH.gp_ne, ↓GH.gs_eq, ↓GH.gs_ne, GH.push_next, GH.set_next]; first | done | exact rfl)
  have hA : ((g.push (cellsOb [s, .int .i64 d] 25)).push (cellsOb [s, .int .i64 d] 25)).get g.next = cellsOb [s, .int .i64 d] 25 := (by simp (disch := first | assumption | exact cellV_int _ _ | exact cellV_bool _ | omega | (simp only [GH.pn, GH.sn] <;> omega) | (with_reducible ((repeat (first | apply GH.ok_push | apply GH.ok_set)); assumption)) | ((try simp only [GH.push_hid, GH.set_hid]); refine GH.vis ?_ ?_ <;> first | assumption | ((try simp only [GH.pn, GH.sn]) <;> omega))) only [↓GH.gp_eq, ↓GH.gp_ne, ↓GH.gs_eq, ↓GH.gs_ne, GH.push_next, GH.set_next]; first | done | exact rfl)
  have hokH : ((g.push (cellsOb [s, .int .i64 d] 25)).push (cellsOb [s, .int .i64 d] 25)).ok := GH.ok_push (GH.ok_push ho)
  simp +decide (disch := first | assumption | exact cellV_int _ _ | exact cellV_bool _ | omega | (simp only [GH.pn, GH.sn] <;> omega) | (with_reducible ((repeat (first | apply GH.ok_push | apply GH.ok_set)); assumption)) | ((try simp only [GH.push_hid, GH.set_hid]); refine GH.vis ?_ ?_ <;> first | assumption | ((try simp only [GH.pn, GH.sn]) <;> omega))) only [go_sem, ↓reduceIte, Nat.reduceEqDiff, Nat.reduceAdd, Int.reduceToNat, Int.reduceAdd, Int.reduceNeg, Int.reduceSub, Int.reduceMul, Int.reduceLT, Int.reduceLE, Int.reduceEq, ↓GH.gp_eq, ↓GH.gp_ne, ↓GH.gs_eq, ↓GH.gs_ne, GH.push_next, GH.set_next, hc]
  obtain ⟨H, hH⟩ : ∃ H, ((g.push (cellsOb [s, .int .i64 d] 25)).push (cellsOb [s, .int .i64 d] 25)) = H := ⟨_, rfl⟩
  have hnH : H.next = g.next + 1 + 1 := by rw [← hH]; rfl
  rw [hH] at hk hg hA hokH
  have hck := check1_rets hX T hF L d t s (g.next + 1) 25 H (ht.kept hk) (hs.kept hk) (by omega) hg
  rw [← hH] at hck
  refine CallD.calm hck ?_
  rw [hH]
  rintro v g1 hx1 rfl
  have hn1 := hx1.next
  have hok1 := hx1.ok hokH
  have hA1 := (hx1.gets g.next (by omega)).trans hA
  have hk1 := hk.ext hx1
  rcases err1_cases T L d with hE | ⟨hE, hT, hm1⟩
  · unfold atRestR
    rw [hE]
    simp +decide (disch := first | assumption | exact cellV_int _ _ | exact cellV_bool _ | omega | (simp only [GH.pn, GH.sn] <;> omega) | (with_reducible ((repeat (first | apply GH.ok_push | apply GH.ok_set)); assumption)) | ((try simp only [GH.push_hid, GH.set_hid]); refine GH.vis ?_ ?_ <;> first | assumption | ((try simp only [GH.pn, GH.sn]) <;> omega))) only [go_sem, ↓reduceIte, Nat.reduceEqDiff, Nat.reduceAdd, Int.reduceToNat, Int.reduceAdd, Int.reduceNeg, Int.reduceSub, Int.reduceMul, Int.reduceLT, Int.reduceLE, Int.reduceEq, ↓GH.gp_eq, ↓GH.gp_ne, ↓GH.gs_eq, ↓GH.gs_ne, GH.push_next, GH.set_next]
    intro hx0
    exact ⟨by omega, rfl⟩
  · obtain ⟨a1, a2, a3, a4, a5, a6, a7, a8⟩ := mix_facts hm1
    have hmo := mixtureOf_rets hX L (by omega) (by omega) d s
    unfold paV mxV at hmo
    have hma := market_rets hX T hT t
    unfold mkT mkV at hma
    unfold atRestR
    rw [hE]
    simp +decide (disch := first | assumption | exact cellV_int _ _ | exact cellV_bool _ | omega | (simp only [GH.pn, GH.sn] <;> omega) | (with_reducible ((repeat (first | apply GH.ok_push | apply GH.ok_set)); assumption)) | ((try simp only [GH.push_hid, GH.set_hid]); refine GH.vis ?_ ?_ <;> first | assumption | ((try simp only [GH.pn, GH.sn]) <;> omega))) only [go_sem, ↓reduceIte, Nat.reduceEqDiff, Nat.reduceAdd, Int.reduceToNat, Int.reduceAdd, Int.reduceNeg, Int.reduceSub, Int.reduceMul, Int.reduceLT, Int.reduceLE, Int.reduceEq, ↓GH.gp_eq, ↓GH.gp_ne, ↓GH.gs_eq, ↓GH.gs_ne, GH.push_next, GH.set_next]
    refine CallD.calm (hma g1 (ht.kept hk1)) ?_
    rintro v g2 hx2 rfl
    have hn2 := hx2.next
    have hok2 := hx2.ok hok1
    have hA2 := (hx2.gets g.next (by omega)).trans hA1
    have hk2 := hk1.ext hx2
    simp +decide (disch := first | assumption | exact cellV_int _ _ | exact cellV_bool _ | omega | (simp only [GH.pn, GH.sn] <;> omega) | (with_reducible ((repeat (first | apply GH.ok_push | apply GH.ok_set)); assumption)) | ((try simp only [GH.push_hid, GH.set_hid]); refine GH.vis ?_ ?_ <;> first | assumption | ((try simp only [GH.pn, GH.sn]) <;> omega))) only [go_sem, ↓reduceIte, Nat.reduceEqDiff, Nat.reduceAdd, Int.reduceToNat, Int.reduceAdd, Int.reduceNeg, Int.reduceSub, Int.reduceMul, Int.reduceLT, Int.reduceLE, Int.reduceEq, ↓GH.gp_eq, ↓GH.gp_ne, ↓GH.gs_eq, ↓GH.gs_ne, GH.push_next, GH.set_next, hA2]
    refine CallD.calm (hmo g2 (hs.kept hk2)) ?_
    rintro v g3 hx3 rfl
    have hn3 := hx3.next
    have hsx : Sm 10000 (L.getD 0 0) ∧ Sm 10000 (L.getD 1 0) ∧ Sm 10000 (L.getD 2 0) := ⟨mix_sm hm1 0, mix_sm hm1 1, mix_sm hm1 2⟩
    have hat := atRest_rets hX T.length (by omega) (te T 0 0) (te T 0 1) (te T 0 2) (te T 1 0) (te T 1 1) (te T 1 2) (te T 2 0) (te T 2 1) (te T 2 2) (L.getD 0 0) (L.getD 1 0) (L.getD 2 0) d (tab_sm9 hT) hsx
    unfold mkV mxV at hat
    simp +decide (disch := first | assumption | exact cellV_int _ _ | exact cellV_bool _ | omega | (simp only [GH.pn, GH.sn] <;> omega) | (with_reducible ((repeat (first | apply GH.ok_push | apply GH.ok_set)); assumption)) | ((try simp only [GH.push_hid, GH.set_hid]); refine GH.vis ?_ ?_ <;> first | assumption | ((try simp only [GH.pn, GH.sn]) <;> omega))) only [go_sem, ↓reduceIte, Nat.reduceEqDiff, Nat.reduceAdd, Int.reduceToNat, Int.reduceAdd, Int.reduceNeg, Int.reduceSub, Int.reduceMul, Int.reduceLT, Int.reduceLE, Int.reduceEq, ↓GH.gp_eq, ↓GH.gp_ne, ↓GH.gs_eq, ↓GH.gs_ne, GH.push_next, GH.set_next]
    refine CallD.calm (hat _) ?_
    rintro v g4 hx4 rfl
    have hn4 := hx4.next
    simp +decide (disch := first | assumption | exact cellV_int _ _ | exact cellV_bool _ | omega | (simp only [GH.pn, GH.sn] <;> omega) | (with_reducible ((repeat (first | apply GH.ok_push | apply GH.ok_set)); assumption)) | ((try simp only [GH.push_hid, GH.set_hid]); refine GH.vis ?_ ?_ <;> first | assumption | ((try simp only [GH.pn, GH.sn]) <;> omega))) only [go_sem, ↓reduceIte, Nat.reduceEqDiff, Nat.reduceAdd, Int.reduceToNat, Int.reduceAdd, Int.reduceNeg, Int.reduceSub, Int.reduceMul, Int.reduceLT, Int.reduceLE, Int.reduceEq, ↓GH.gp_eq, ↓GH.gp_ne, ↓GH.gs_eq, ↓GH.gs_ne, GH.push_next, GH.set_next]
    intro hx0
    refine ⟨by omega, ?_⟩
    rfl
theorem Best_rets {X : Caller} (hX : Xok X) (T : List (List Int)) (hF : Few T) (L : List Int) (d : Int) (t s : Value) (g : GH) (ht : Sl2 g t T) (hs : SlR g s (ints L)) :
    Rets Tryd.prog X 24 [t, paV s d] g (fun v g' lo => g.next ≤ lo ∧ v = bestR T L d) := by
  have hc := hs.cell
  unfold paV
  refine Rets.run hX.pres p24 (hX.free 24 (by decide) _ _) rfl fun ho => ?_
  have hk : Kept g ((g.push (cellsOb [s, .int .i64 d] 25)).push (cellsOb [s, .int .i64 d] 25)) := (by (repeat' first | exact Kept.refl _ | assumption | refine Kept.push ?_ ?_ _ | refine Kept.setV ?_ ?_ ?_ _) <;> (first | assumption | exact cellV_int _ _ | exact cellV_bool _ | omega | (simp only [GH.pn, GH.sn] <;> omega) | (with_reducible ((repeat (first | apply GH.ok_push | apply GH.ok_set)); assumption)) | ((try simp only [GH.push_hid, GH.set_hid]); refine GH.vis ?_ ?_ <;> first | assumption | ((try simp only [GH.pn, GH.sn]) <;> omega))))
  have hg : ((g.push (cellsOb [s, .int .i64 d] 25)).push (cellsOb [s, .int .i64 d] 25)).get (g.next + 1) = cellsOb [s, .int .i64 d] 25 := (by simp (disch := first | assumption | exact cellV_int _ _ | exact cellV_bool _ | omega | (simp only [GH.pn, GH.sn] <;> omega) | (with_reducible ((repeat (first | apply GH.ok_push | apply GH.ok_set)); assumption)) | ((try simp only [GH.push_hid, GH.set_hid]); refine GH.vis ?_ ?_ <;> first | assumption | ((try simp only [GH.pn, GH.sn]) <;> omega))) only [↓GH.gp_eq, ↓GH.gp_ne, ↓GH.gs_eq, ↓GH.gs_ne, GH.push_next, GH.set_next]; first | done | exact rfl)
  have hA : ((g.push (cellsOb [s, .int .i64 d] 25)).push (cellsOb [s, .int .i64 d] 25)).get g.next = cellsOb [s, .int .i64 d] 25 := (by simp (disch := first | assumption | exact cellV_int _ _ | exact cellV_bool _ | omega | (simp only [GH.pn, GH.sn] <;> omega) | (with_reducible ((repeat (first | apply GH.ok_push | apply GH.ok_set)); assumption)) | ((try simp only [GH.push_hid, GH.set_hid]); refine GH.vis ?_ ?_ <;> first | assumption | ((try simp only [GH.pn, GH.sn]) <;> omega))) only [↓GH.gp_eq, ↓GH.gp_ne, ↓GH.gs_eq, ↓GH.gs_ne, GH.push_next, GH.set_next]; first | done | exact rfl)
  have hokH : ((g.push (cellsOb [s, .int .i64 d] 25)).push (cellsOb [s, .int .i64 d] 25)).ok := GH.ok_push (GH.ok_push ho)
  simp +decide (disch := first | assumption | exact cellV_int _ _ | exact cellV_bool _ | omega | (simp only [GH.pn, GH.sn] <;> omega) | (with_reducible ((repeat (first | apply GH.ok_push | apply GH.ok_set)); assumption)) | ((try simp only [GH.push_hid, GH.set_hid]); refine GH.vis ?_ ?_ <;> first | assumption | ((try simp only [GH.pn, GH.sn]) <;> omega))) only [go_sem, ↓reduceIte, Nat.reduceEqDiff, Nat.reduceAdd, Int.reduceToNat, Int.reduceAdd, Int.reduceNeg, Int.reduceSub, Int.reduceMul, Int.reduceLT, Int.reduceLE, Int.reduceEq, ↓GH.gp_eq, ↓GH.gp_ne, ↓GH.gs_eq, ↓GH.gs_ne, GH.push_next, GH.set_next, hc]
  obtain ⟨H, hH⟩ : ∃ H, ((g.push (cellsOb [s, .int .i64 d] 25)).push (cellsOb [s, .int .i64 d] 25)) = H := ⟨_, rfl⟩
  have hnH : H.next = g.next + 1 + 1 := by rw [← hH]; rfl
  rw [hH] at hk hg hA hokH
  have hck := check1_rets hX T hF L d t s (g.next + 1) 25 H (ht.kept hk) (hs.kept hk) (by omega) hg
  rw [← hH] at hck
  refine CallD.calm hck ?_
  rw [hH]
  rintro v g1 hx1 rfl
  have hn1 := hx1.next
  have hok1 := hx1.ok hokH
  have hA1 := (hx1.gets g.next (by omega)).trans hA
  have hk1 := hk.ext hx1
  rcases err1_cases T L d with hE | ⟨hE, hT, hm1⟩
  · unfold bestR
    rw [hE]
    simp +decide (disch := first | assumption | exact cellV_int _ _ | exact cellV_bool _ | omega | (simp only [GH.pn, GH.sn] <;> omega) | (with_reducible ((repeat (first | apply GH.ok_push | apply GH.ok_set)); assumption)) | ((try simp only [GH.push_hid, GH.set_hid]); refine GH.vis ?_ ?_ <;> first | assumption | ((try simp only [GH.pn, GH.sn]) <;> omega))) only [go_sem, ↓reduceIte, Nat.reduceEqDiff, Nat.reduceAdd, Int.reduceToNat, Int.reduceAdd, Int.reduceNeg, Int.reduceSub, Int.reduceMul, Int.reduceLT, Int.reduceLE, Int.reduceEq, ↓GH.gp_eq, ↓GH.gp_ne, ↓GH.gs_eq, ↓GH.gs_ne, GH.push_next, GH.set_next]
    intro hx0
    exact ⟨by omega, rfl⟩
  · obtain ⟨a1, a2, a3, a4, a5, a6, a7, a8⟩ := mix_facts hm1
    have hmo := mixtureOf_rets hX L (by omega) (by omega) d s
    unfold paV mxV at hmo
    have hma := market_rets hX T hT t
    unfold mkT mkV at hma
    unfold bestR
    rw [hE]
    simp +decide (disch := first | assumption | exact cellV_int _ _ | exact cellV_bool _ | omega | (simp only [GH.pn, GH.sn] <;> omega) | (with_reducible ((repeat (first | apply GH.ok_push | apply GH.ok_set)); assumption)) | ((try simp only [GH.push_hid, GH.set_hid]); refine GH.vis ?_ ?_ <;> first | assumption | ((try simp only [GH.pn, GH.sn]) <;> omega))) only [go_sem, ↓reduceIte, Nat.reduceEqDiff, Nat.reduceAdd, Int.reduceToNat, Int.reduceAdd, Int.reduceNeg, Int.reduceSub, Int.reduceMul, Int.reduceLT, Int.reduceLE, Int.reduceEq, ↓GH.gp_eq, ↓GH.gp_ne, ↓GH.gs_eq, ↓GH.gs_ne, GH.push_next, GH.set_next]
    refine CallD.calm (hma g1 (ht.kept hk1)) ?_
    rintro v g2 hx2 rfl
    have hn2 := hx2.next
    have hok2 := hx2.ok hok1
    have hA2 := (hx2.gets g.next (by omega)).trans hA1
    have hk2 := hk1.ext hx2
    simp +decide (disch := first | assumption | exact cellV_int _ _ | exact cellV_bool _ | omega | (simp only [GH.pn, GH.sn] <;> omega) | (with_reducible ((repeat (first | apply GH.ok_push | apply GH.ok_set)); assumption)) | ((try simp only [GH.push_hid, GH.set_hid]); refine GH.vis ?_ ?_ <;> first | assumption | ((try simp only [GH.pn, GH.sn]) <;> omega))) only [go_sem, ↓reduceIte, Nat.reduceEqDiff, Nat.reduceAdd, Int.reduceToNat, Int.reduceAdd, Int.reduceNeg, Int.reduceSub, Int.reduceMul, Int.reduceLT, Int.reduceLE, Int.reduceEq, ↓GH.gp_eq, ↓GH.gp_ne, ↓GH.gs_eq, ↓GH.gs_ne, GH.push_next, GH.set_next, hA2]
    refine CallD.calm (hmo g2 (hs.kept hk2)) ?_
    rintro v g3 hx3 rfl
    have hn3 := hx3.next
    have hsx : Sm 10000 (L.getD 0 0) ∧ Sm 10000 (L.getD 1 0) ∧ Sm 10000 (L.getD 2 0) := ⟨mix_sm hm1 0, mix_sm hm1 1, mix_sm hm1 2⟩
    have hat := best_rets hX T.length (by omega) (te T 0 0) (te T 0 1) (te T 0 2) (te T 1 0) (te T 1 1) (te T 1 2) (te T 2 0) (te T 2 1) (te T 2 2) (L.getD 0 0) (L.getD 1 0) (L.getD 2 0) d (tab_sm9 hT) hsx
    unfold mkV mxV at hat
    simp +decide (disch := first | assumption | exact cellV_int _ _ | exact cellV_bool _ | omega | (simp only [GH.pn, GH.sn] <;> omega) | (with_reducible ((repeat (first | apply GH.ok_push | apply GH.ok_set)); assumption)) | ((try simp only [GH.push_hid, GH.set_hid]); refine GH.vis ?_ ?_ <;> first | assumption | ((try simp only [GH.pn, GH.sn]) <;> omega))) only [go_sem, ↓reduceIte, Nat.reduceEqDiff, Nat.reduceAdd, Int.reduceToNat, Int.reduceAdd, Int.reduceNeg, Int.reduceSub, Int.reduceMul, Int.reduceLT, Int.reduceLE, Int.reduceEq, ↓GH.gp_eq, ↓GH.gp_ne, ↓GH.gs_eq, ↓GH.gs_ne, GH.push_next, GH.set_next]
    refine CallD.calm (hat _) ?_
    rintro v g4 hx4 rfl
    have hn4 := hx4.next
    simp +decide (disch := first | assumption | exact cellV_int _ _ | exact cellV_bool _ | omega | (simp only [GH.pn, GH.sn] <;> omega) | (with_reducible ((repeat (first | apply GH.ok_push | apply GH.ok_set)); assumption)) | ((try simp only [GH.push_hid, GH.set_hid]); refine GH.vis ?_ ?_ <;> first | assumption | ((try simp only [GH.pn, GH.sn]) <;> omega))) only [go_sem, ↓reduceIte, Nat.reduceEqDiff, Nat.reduceAdd, Int.reduceToNat, Int.reduceAdd, Int.reduceNeg, Int.reduceSub, Int.reduceMul, Int.reduceLT, Int.reduceLE, Int.reduceEq, ↓GH.gp_eq, ↓GH.gp_ne, ↓GH.gs_eq, ↓GH.gs_ne, GH.push_next, GH.set_next]
    intro hx0
    refine ⟨by omega, ?_⟩
    rfl
theorem refBestP_rets {X : Caller} (hX : Xok X) (T : List (List Int)) (hF : Few T) (L : List Int) (d : Int) (t s : Value) (g : GH) (ht : Sl2 g t T) (hs : SlR g s (ints L)) :
    Rets Tryd.prog X 25 [t, paV s d] g (fun v g' lo => g.next ≤ lo ∧ v = bestR T L d) := by
  have hc := hs.cell
  unfold paV
  refine Rets.run hX.pres p25 (hX.free 25 (by decide) _ _) rfl fun ho => ?_
  have hk : Kept g ((g.push (cellsOb [s, .int .i64 d] 25)).push (cellsOb [s, .int .i64 d] 25)) := (by (repeat' first | exact Kept.refl _ | assumption | refine Kept.push ?_ ?_ _ | refine Kept.setV ?_ ?_ ?_ _) <;> (first | assumption | exact cellV_int _ _ | exact cellV_bool _ | omega | (simp only [GH.pn, GH.sn] <;> omega) | (with_reducible ((repeat (first | apply GH.ok_push | apply GH.ok_set)); assumption)) | ((try simp only [GH.push_hid, GH.set_hid]); refine GH.vis ?_ ?_ <;> first | assumption | ((try simp only [GH.pn, GH.sn]) <;> omega))))
  have hg : ((g.push (cellsOb [s, .int .i64 d] 25)).push (cellsOb [s, .int .i64 d] 25)).get (g.next + 1) = cellsOb [s, .int .i64 d] 25 := (by simp (disch := first | assumption | exact cellV_int _ _ | exact cellV_bool _ | omega | (simp only [GH.pn, GH.sn] <;> omega) | (with_reducible ((repeat (first | apply GH.ok_push | apply GH.ok_set)); assumption)) | ((try simp only [GH.push_hid, GH.set_hid]); refine GH.vis ?_ ?_ <;> first | assumption | ((try simp only [GH.pn, GH.sn]) <;> omega))) only [↓GH.gp_eq, ↓GH.gp_ne, ↓GH.gs_eq, ↓GH.gs_ne, GH.push_next, GH.set_next]; first | done | exact rfl)
  have hA : ((g.push (cellsOb [s, .int .i64 d] 25)).push (cellsOb [s, .int .i64 d] 25)).get g.next = cellsOb [s, .int .i64 d] 25 := (by simp (disch := first | assumption | exact cellV_int _ _ | exact cellV_bool _ | omega | (simp only [GH.pn, GH.sn] <;> omega) | (with_reducible ((repeat (first | apply GH.ok_push | apply GH.ok_set)); assumption)) | ((try simp only [GH.push_hid, GH.set_hid]); refine GH.vis ?_ ?_ <;> first | assumption | ((try simp only [GH.pn, GH.sn]) <;> omega))) only [↓GH.gp_eq, ↓GH.gp_ne, ↓GH.gs_eq, ↓GH.gs_ne, GH.push_next, GH.set_next]; first | done | exact rfl)
  have hokH : ((g.push (cellsOb [s, .int .i64 d] 25)).push (cellsOb [s, .int .i64 d] 25)).ok := GH.ok_push (GH.ok_push ho)
  simp +decide (disch := first | assumption | exact cellV_int _ _ | exact cellV_bool _ | omega | (simp only [GH.pn, GH.sn] <;> omega) | (with_reducible ((repeat (first | apply GH.ok_push | apply GH.ok_set)); assumption)) | ((try simp only [GH.push_hid, GH.set_hid]); refine GH.vis ?_ ?_ <;> first | assumption | ((try simp only [GH.pn, GH.sn]) <;> omega))) only [go_sem, ↓reduceIte, Nat.reduceEqDiff, Nat.reduceAdd, Int.reduceToNat, Int.reduceAdd, Int.reduceNeg, Int.reduceSub, Int.reduceMul, Int.reduceLT, Int.reduceLE, Int.reduceEq, ↓GH.gp_eq, ↓GH.gp_ne, ↓GH.gs_eq, ↓GH.gs_ne, GH.push_next, GH.set_next, hc]
  obtain ⟨H, hH⟩ : ∃ H, ((g.push (cellsOb [s, .int .i64 d] 25)).push (cellsOb [s, .int .i64 d] 25)) = H := ⟨_, rfl⟩
  have hnH : H.next = g.next + 1 + 1 := by rw [← hH]; rfl
  rw [hH] at hk hg hA hokH
  have hck := asked1_rets hX T hF L d t s (g.next + 1) 25 H (ht.kept hk) (hs.kept hk) (by omega) hg
  rw [← hH] at hck
  refine CallD.calm hck ?_
  rw [hH]
  rintro v g1 hx1 rfl
  have hn1 := hx1.next
  have hok1 := hx1.ok hokH
  have hA1 := (hx1.gets g.next (by omega)).trans hA
  have hk1 := hk.ext hx1
  unfold bestR
  rcases err1_cases T L d with hE | ⟨hE, hT, hm1⟩
  · rw [hE]
    simp +decide (disch := first | assumption | exact cellV_int _ _ | exact cellV_bool _ | omega | (simp only [GH.pn, GH.sn] <;> omega) | (with_reducible ((repeat (first | apply GH.ok_push | apply GH.ok_set)); assumption)) | ((try simp only [GH.push_hid, GH.set_hid]); refine GH.vis ?_ ?_ <;> first | assumption | ((try simp only [GH.pn, GH.sn]) <;> omega))) only [go_sem, ↓reduceIte, Nat.reduceEqDiff, Nat.reduceAdd, Int.reduceToNat, Int.reduceAdd, Int.reduceNeg, Int.reduceSub, Int.reduceMul, Int.reduceLT, Int.reduceLE, Int.reduceEq, ↓GH.gp_eq, ↓GH.gp_ne, ↓GH.gs_eq, ↓GH.gs_ne, GH.push_next, GH.set_next]
    intro hx0
    exact ⟨by omega, rfl⟩
  · obtain ⟨a1, a2, a3, a4, a5, a6, a7, a8⟩ := mix_facts hm1
    have hbe := refBest_rets hX T hT L a3 (fun i => mix_sm hm1 i) d t s
    unfold paV at hbe
    rw [hE]
    simp +decide (disch := first | assumption | exact cellV_int _ _ | exact cellV_bool _ | omega | (simp only [GH.pn, GH.sn] <;> omega) | (with_reducible ((repeat (first | apply GH.ok_push | apply GH.ok_set)); assumption)) | ((try simp only [GH.push_hid, GH.set_hid]); refine GH.vis ?_ ?_ <;> first | assumption | ((try simp only [GH.pn, GH.sn]) <;> omega))) only [go_sem, ↓reduceIte, Nat.reduceEqDiff, Nat.reduceAdd, Int.reduceToNat, Int.reduceAdd, Int.reduceNeg, Int.reduceSub, Int.reduceMul, Int.reduceLT, Int.reduceLE, Int.reduceEq, ↓GH.gp_eq, ↓GH.gp_ne, ↓GH.gs_eq, ↓GH.gs_ne, GH.push_next, GH.set_next, hA1]
    refine CallD.calm (hbe g1 (ht.kept hk1) (hs.kept hk1)) ?_
    rintro v g2 hx2 rfl
    have hn2 := hx2.next
    simp +decide (disch := first | assumption | exact cellV_int _ _ | exact cellV_bool _ | omega | (simp only [GH.pn, GH.sn] <;> omega) | (with_reducible ((repeat (first | apply GH.ok_push | apply GH.ok_set)); assumption)) | ((try simp only [GH.push_hid, GH.set_hid]); refine GH.vis ?_ ?_ <;> first | assumption | ((try simp only [GH.pn, GH.sn]) <;> omega))) only [go_sem, ↓reduceIte, Nat.reduceEqDiff, Nat.reduceAdd, Int.reduceToNat, Int.reduceAdd, Int.reduceNeg, Int.reduceSub, Int.reduceMul, Int.reduceLT, Int.reduceLE, Int.reduceEq, ↓GH.gp_eq, ↓GH.gp_ne, ↓GH.gs_eq, ↓GH.gs_ne, GH.push_next, GH.set_next]
    intro hx0
    exact ⟨by omega, rfl⟩
theorem refAtRest_rets {X : Caller} (hX : Xok X) (T : List (List Int)) (hF : Few T) (L : List Int) (d : Int) (t s : Value) (g : GH) (ht : Sl2 g t T) (hs : SlR g s (ints L)) :
    Rets Tryd.prog X 23 [t, paV s d] g (fun v g' lo => g.next ≤ lo ∧ v = atRestR T L d) := by
  have hc := hs.cell
  unfold paV
  refine Rets.run hX.pres p23 (hX.free 23 (by decide) _ _) rfl fun ho => ?_
  have hk : Kept g ((g.push (cellsOb [s, .int .i64 d] 25)).push (cellsOb [s, .int .i64 d] 25)) := (by (repeat' first | exact Kept.refl _ | assumption | refine Kept.push ?_ ?_ _ | refine Kept.setV ?_ ?_ ?_ _) <;> (first | assumption | exact cellV_int _ _ | exact cellV_bool _ | omega | (simp only [GH.pn, GH.sn] <;> omega) | (with_reducible ((repeat (first | apply GH.ok_push | apply GH.ok_set)); assumption)) | ((try simp only [GH.push_hid, GH.set_hid]); refine GH.vis ?_ ?_ <;> first | assumption | ((try simp only [GH.pn, GH.sn]) <;> omega))))
  have hg : ((g.push (cellsOb [s, .int .i64 d] 25)).push (cellsOb [s, .int .i64 d] 25)).get (g.next + 1) = cellsOb [s, .int .i64 d] 25 := (by simp (disch := first | assumption | exact cellV_int _ _ | exact cellV_bool _ | omega | (simp only [GH.pn, GH.sn] <;> omega) | (with_reducible ((repeat (first | apply GH.ok_push | apply GH.ok_set)); assumption)) | ((try simp only [GH.push_hid, GH.set_hid]); refine GH.vis ?_ ?_ <;> first | assumption | ((try simp only [GH.pn, GH.sn]) <;> omega))) only [↓GH.gp_eq, ↓GH.gp_ne, ↓GH.gs_eq, ↓GH.gs_ne, GH.push_next, GH.set_next]; first | done | exact rfl)
  have hA : ((g.push (cellsOb [s, .int .i64 d] 25)).push (cellsOb [s, .int .i64 d] 25)).get g.next = cellsOb [s, .int .i64 d] 25 := (by simp (disch := first | assumption | exact cellV_int _ _ | exact cellV_bool _ | omega | (simp only [GH.pn, GH.sn] <;> omega) | (with_reducible ((repeat (first | apply GH.ok_push | apply GH.ok_set)); assumption)) | ((try simp only [GH.push_hid, GH.set_hid]); refine GH.vis ?_ ?_ <;> first | assumption | ((try simp only [GH.pn, GH.sn]) <;> omega))) only [↓GH.gp_eq, ↓GH.gp_ne, ↓GH.gs_eq, ↓GH.gs_ne, GH.push_next, GH.set_next]; first | done | exact rfl)
  have hokH : ((g.push (cellsOb [s, .int .i64 d] 25)).push (cellsOb [s, .int .i64 d] 25)).ok := GH.ok_push (GH.ok_push ho)
  simp +decide (disch := first | assumption | exact cellV_int _ _ | exact cellV_bool _ | omega | (simp only [GH.pn, GH.sn] <;> omega) | (with_reducible ((repeat (first | apply GH.ok_push | apply GH.ok_set)); assumption)) | ((try simp only [GH.push_hid, GH.set_hid]); refine GH.vis ?_ ?_ <;> first | assumption | ((try simp only [GH.pn, GH.sn]) <;> omega))) only [go_sem, ↓reduceIte, Nat.reduceEqDiff, Nat.reduceAdd, Int.reduceToNat, Int.reduceAdd, Int.reduceNeg, Int.reduceSub, Int.reduceMul, Int.reduceLT, Int.reduceLE, Int.reduceEq, ↓GH.gp_eq, ↓GH.gp_ne, ↓GH.gs_eq, ↓GH.gs_ne, GH.push_next, GH.set_next, hc]
  obtain ⟨H, hH⟩ : ∃ H, ((g.push (cellsOb [s, .int .i64 d] 25)).push (cellsOb [s, .int .i64 d] 25)) = H := ⟨_, rfl⟩
  have hnH : H.next = g.next + 1 + 1 := by rw [← hH]; rfl
  rw [hH] at hk hg hA hokH
  have hck := asked1_rets hX T hF L d t s (g.next + 1) 25 H (ht.kept hk) (hs.kept hk) (by omega) hg
  rw [← hH] at hck
  refine CallD.calm hck ?_
  rw [hH]
  rintro v g1 hx1 rfl
  have hn1 := hx1.next
  have hok1 := hx1.ok hokH
  have hA1 := (hx1.gets g.next (by omega)).trans hA
  have hk1 := hk.ext hx1
  unfold atRestR
  rcases err1_cases T L d with hE | ⟨hE, hT, hm1⟩
  · rw [hE]
    simp +decide (disch := first | assumption | exact cellV_int _ _ | exact cellV_bool _ | omega | (simp only [GH.pn, GH.sn] <;> omega) | (with_reducible ((repeat (first | apply GH.ok_push | apply GH.ok_set)); assumption)) | ((try simp only [GH.push_hid, GH.set_hid]); refine GH.vis ?_ ?_ <;> first | assumption | ((try simp only [GH.pn, GH.sn]) <;> omega))) only [go_sem, ↓reduceIte, Nat.reduceEqDiff, Nat.reduceAdd, Int.reduceToNat, Int.reduceAdd, Int.reduceNeg, Int.reduceSub, Int.reduceMul, Int.reduceLT, Int.reduceLE, Int.reduceEq, ↓GH.gp_eq, ↓GH.gp_ne, ↓GH.gs_eq, ↓GH.gs_ne, GH.push_next, GH.set_next]
    intro hx0
    exact ⟨by omega, rfl⟩
  · obtain ⟨a1, a2, a3, a4, a5, a6, a7, a8⟩ := mix_facts hm1
    have hbe := refBest_rets hX T hT L a3 (fun i => mix_sm hm1 i) d t s
    have hfa := refFash_rets hX L (by omega) d s
    rw [← fash_pad (by omega) (by omega)] at hfa
    unfold paV at hbe hfa
    have lt1 := fashF_lt (v3 (ne L 0) (ne L 1) (ne L 2)) 3
    have lt2 := bestT_lt T L (by omega)
    unfold restB
    obtain ⟨p, hp⟩ : ∃ p, fashF (v3 (ne L 0) (ne L 1) (ne L 2)) 3 = p := ⟨_, rfl⟩
    obtain ⟨q, hq⟩ : ∃ q, bestT T L = q := ⟨_, rfl⟩
    rw [hp] at hfa lt1 ⊢
    rw [hq] at hbe lt2 ⊢
    have han := andn_int (a := p) (b := q) (by omega) (by omega)
    rw [hE]
    simp +decide (disch := first | assumption | exact cellV_int _ _ | exact cellV_bool _ | omega | (simp only [GH.pn, GH.sn] <;> omega) | (with_reducible ((repeat (first | apply GH.ok_push | apply GH.ok_set)); assumption)) | ((try simp only [GH.push_hid, GH.set_hid]); refine GH.vis ?_ ?_ <;> first | assumption | ((try simp only [GH.pn, GH.sn]) <;> omega))) only [go_sem, ↓reduceIte, Nat.reduceEqDiff, Nat.reduceAdd, Int.reduceToNat, Int.reduceAdd, Int.reduceNeg, Int.reduceSub, Int.reduceMul, Int.reduceLT, Int.reduceLE, Int.reduceEq, ↓GH.gp_eq, ↓GH.gp_ne, ↓GH.gs_eq, ↓GH.gs_ne, GH.push_next, GH.set_next, hA1]
    refine CallD.calm (hfa g1 (hs.kept hk1)) ?_
    rintro v g2 hx2 rfl
    have hn2 := hx2.next
    have hA2 := (hx2.gets g.next (by omega)).trans hA1
    have hk2 := hk1.ext hx2
    simp +decide (disch := first | assumption | exact cellV_int _ _ | exact cellV_bool _ | omega | (simp only [GH.pn, GH.sn] <;> omega) | (with_reducible ((repeat (first | apply GH.ok_push | apply GH.ok_set)); assumption)) | ((try simp only [GH.push_hid, GH.set_hid]); refine GH.vis ?_ ?_ <;> first | assumption | ((try simp only [GH.pn, GH.sn]) <;> omega))) only [go_sem, ↓reduceIte, Nat.reduceEqDiff, Nat.reduceAdd, Int.reduceToNat, Int.reduceAdd, Int.reduceNeg, Int.reduceSub, Int.reduceMul, Int.reduceLT, Int.reduceLE, Int.reduceEq, ↓GH.gp_eq, ↓GH.gp_ne, ↓GH.gs_eq, ↓GH.gs_ne, GH.push_next, GH.set_next, hA2]
    refine CallD.calm (hbe g2 (ht.kept hk2) (hs.kept hk2)) ?_
    rintro v g3 hx3 rfl
    have hn3 := hx3.next
    by_cases c : andn p q = 0
    · have c' : ((andn p q : Nat) : Int) = 0 := by omega
      simp +decide (disch := first | assumption | exact cellV_int _ _ | exact cellV_bool _ | omega | (simp only [GH.pn, GH.sn] <;> omega) | (with_reducible ((repeat (first | apply GH.ok_push | apply GH.ok_set)); assumption)) | ((try simp only [GH.push_hid, GH.set_hid]); refine GH.vis ?_ ?_ <;> first | assumption | ((try simp only [GH.pn, GH.sn]) <;> omega))) only [go_sem, ↓reduceIte, Nat.reduceEqDiff, Nat.reduceAdd, Int.reduceToNat, Int.reduceAdd, Int.reduceNeg, Int.reduceSub, Int.reduceMul, Int.reduceLT, Int.reduceLE, Int.reduceEq, ↓GH.gp_eq, ↓GH.gp_ne, ↓GH.gs_eq, ↓GH.gs_ne, GH.push_next, GH.set_next, ↓han, c']
      intro hx0
      exact ⟨by omega, by first | rfl | (rw [decide_eq_true c]; rfl)⟩
    · have c' : ¬ ((andn p q : Nat) : Int) = 0 := by omega
      simp +decide (disch := first | assumption | exact cellV_int _ _ | exact cellV_bool _ | omega | (simp only [GH.pn, GH.sn] <;> omega) | (with_reducible ((repeat (first | apply GH.ok_push | apply GH.ok_set)); assumption)) | ((try simp only [GH.push_hid, GH.set_hid]); refine GH.vis ?_ ?_ <;> first | assumption | ((try simp only [GH.pn, GH.sn]) <;> omega))) only [go_sem, ↓reduceIte, Nat.reduceEqDiff, Nat.reduceAdd, Int.reduceToNat, Int.reduceAdd, Int.reduceNeg, Int.reduceSub, Int.reduceMul, Int.reduceLT, Int.reduceLE, Int.reduceEq, ↓GH.gp_eq, ↓GH.gp_ne, ↓GH.gs_eq, ↓GH.gs_ne, GH.push_next, GH.set_next, ↓han, c']
      intro hx0
      exact ⟨by omega, by first | rfl | (rw [decide_eq_false c]; rfl)⟩
theorem refGainP_rets {X : Caller} (hX : Xok X) (T : List (List Int)) (hF : Few T) (L : List Int) (d : Int) (M : List Int) (f : Int) (t s r : Value) (g : GH) (ht : Sl2 g t T) (hs : SlR g s (ints L)) (hr : SlR g r (ints M)) :
    Rets Tryd.prog X 21 [t, paV s d, paV r f] g (fun v g' lo => g.next ≤ lo ∧ v = gainR T L d M f) := by
  have hc := hs.cell
  have hcr := hr.cell
  unfold paV
  refine Rets.run hX.pres p21 (hX.free 21 (by decide) _ _) rfl fun ho => ?_
  have hk : Kept g ((((g.push (cellsOb [s, .int .i64 d] 25)).push (cellsOb [r, .int .i64 f] 25)).push (cellsOb [.int .i64 0, .int .i64 0] 32)).push (cellsOb [s, .int .i64 d, r, .int .i64 f] 25)) := (by (repeat' first | exact Kept.refl _ | assumption | refine Kept.push ?_ ?_ _ | refine Kept.setV ?_ ?_ ?_ _) <;> (first | assumption | exact cellV_int _ _ | exact cellV_bool _ | omega | (simp only [GH.pn, GH.sn] <;> omega) | (with_reducible ((repeat (first | apply GH.ok_push | apply GH.ok_set)); assumption)) | ((try simp only [GH.push_hid, GH.set_hid]); refine GH.vis ?_ ?_ <;> first | assumption | ((try simp only [GH.pn, GH.sn]) <;> omega))))
  have hg : ((((g.push (cellsOb [s, .int .i64 d] 25)).push (cellsOb [r, .int .i64 f] 25)).push (cellsOb [.int .i64 0, .int .i64 0] 32)).push (cellsOb [s, .int .i64 d, r, .int .i64 f] 25)).get (g.next + 1 + 1 + 1) = cellsOb [s, .int .i64 d, r, .int .i64 f] 25 := (by simp (disch := first | assumption | exact cellV_int _ _ | exact cellV_bool _ | omega | (simp only [GH.pn, GH.sn] <;> omega) | (with_reducible ((repeat (first | apply GH.ok_push | apply GH.ok_set)); assumption)) | ((try simp only [GH.push_hid, GH.set_hid]); refine GH.vis ?_ ?_ <;> first | assumption | ((try simp only [GH.pn, GH.sn]) <;> omega))) only [↓GH.gp_eq, ↓GH.gp_ne, ↓GH.gs_eq, ↓GH.gs_ne, GH.push_next, GH.set_next]; first | done | exact rfl)
  have hA : ((((g.push (cellsOb [s, .int .i64 d] 25)).push (cellsOb [r, .int .i64 f] 25)).push (cellsOb [.int .i64 0, .int .i64 0] 32)).push (cellsOb [s, .int .i64 d, r, .int .i64 f] 25)).get g.next = cellsOb [s, .int .i64 d] 25 := (by simp (disch := first | assumption | exact cellV_int _ _ | exact cellV_bool _ | omega | (simp only [GH.pn, GH.sn] <;> omega) | (with_reducible ((repeat (first | apply GH.ok_push | apply GH.ok_set)); assumption)) | ((try simp only [GH.push_hid, GH.set_hid]); refine GH.vis ?_ ?_ <;> first | assumption | ((try simp only [GH.pn, GH.sn]) <;> omega))) only [↓GH.gp_eq, ↓GH.gp_ne, ↓GH.gs_eq, ↓GH.gs_ne, GH.push_next, GH.set_next]; first | done | exact rfl)
  have hB : ((((g.push (cellsOb [s, .int .i64 d] 25)).push (cellsOb [r, .int .i64 f] 25)).push (cellsOb [.int .i64 0, .int .i64 0] 32)).push (cellsOb [s, .int .i64 d, r, .int .i64 f] 25)).get (g.next + 1) = cellsOb [r, .int .i64 f] 25 := (by simp (disch := first | assumption | exact cellV_int _ _ | exact cellV_bool _ | omega | (simp only [GH.pn, GH.sn] <;> omega) | (with_reducible ((repeat (first | apply GH.ok_push | apply GH.ok_set)); assumption)) | ((try simp only [GH.push_hid, GH.set_hid]); refine GH.vis ?_ ?_ <;> first | assumption | ((try simp only [GH.pn, GH.sn]) <;> omega))) only [↓GH.gp_eq, ↓GH.gp_ne, ↓GH.gs_eq, ↓GH.gs_ne, GH.push_next, GH.set_next]; first | done | exact rfl)
  have hC : ((((g.push (cellsOb [s, .int .i64 d] 25)).push (cellsOb [r, .int .i64 f] 25)).push (cellsOb [.int .i64 0, .int .i64 0] 32)).push (cellsOb [s, .int .i64 d, r, .int .i64 f] 25)).get (g.next + 1 + 1) = cellsOb [.int .i64 0, .int .i64 0] 32 := (by simp (disch := first | assumption | exact cellV_int _ _ | exact cellV_bool _ | omega | (simp only [GH.pn, GH.sn] <;> omega) | (with_reducible ((repeat (first | apply GH.ok_push | apply GH.ok_set)); assumption)) | ((try simp only [GH.push_hid, GH.set_hid]); refine GH.vis ?_ ?_ <;> first | assumption | ((try simp only [GH.pn, GH.sn]) <;> omega))) only [↓GH.gp_eq, ↓GH.gp_ne, ↓GH.gs_eq, ↓GH.gs_ne, GH.push_next, GH.set_next]; first | done | exact rfl)
  have hokH : ((((g.push (cellsOb [s, .int .i64 d] 25)).push (cellsOb [r, .int .i64 f] 25)).push (cellsOb [.int .i64 0, .int .i64 0] 32)).push (cellsOb [s, .int .i64 d, r, .int .i64 f] 25)).ok := GH.ok_push (GH.ok_push (GH.ok_push (GH.ok_push ho)))
  simp +decide (disch := first | assumption | exact cellV_int _ _ | exact cellV_bool _ | omega | (simp only [GH.pn, GH.sn] <;> omega) | (with_reducible ((repeat (first | apply GH.ok_push | apply GH.ok_set)); assumption)) | ((try simp only [GH.push_hid, GH.set_hid]); refine GH.vis ?_ ?_ <;> first | assumption | ((try simp only [GH.pn, GH.sn]) <;> omega))) only [go_sem, ↓reduceIte, Nat.reduceEqDiff, Nat.reduceAdd, Int.reduceToNat, Int.reduceAdd, Int.reduceNeg, Int.reduceSub, Int.reduceMul, Int.reduceLT, Int.reduceLE, Int.reduceEq, ↓GH.gp_eq, ↓GH.gp_ne, ↓GH.gs_eq, ↓GH.gs_ne, GH.push_next, GH.set_next, hc, hcr]
  obtain ⟨H, hH⟩ : ∃ H, ((((g.push (cellsOb [s, .int .i64 d] 25)).push (cellsOb [r, .int .i64 f] 25)).push (cellsOb [.int .i64 0, .int .i64 0] 32)).push (cellsOb [s, .int .i64 d, r, .int .i64 f] 25)) = H := ⟨_, rfl⟩
  have hnH : H.next = g.next + 1 + 1 + 1 + 1 := by rw [← hH]; rfl
  rw [hH] at hk hg hA hB hC hokH
  have hck := asked2_rets hX T hF L d M f t s r (g.next + 1 + 1 + 1) 25 H (ht.kept hk) (hs.kept hk) (hr.kept hk) (by omega) hg
  rw [← hH] at hck
  refine CallD.calm hck ?_
  rw [hH]
  rintro v g1 hx1 rfl
  have hn1 := hx1.next
  have hok1 := hx1.ok hokH
  have hA1 := (hx1.gets g.next (by omega)).trans hA
  have hB1 := (hx1.gets (g.next + 1) (by omega)).trans hB
  have hC1 := (hx1.gets (g.next + 1 + 1) (by omega)).trans hC
  have hvC := GH.seen hC1 Nat.one_ne_zero
  have hk1 := hk.ext hx1
  unfold gainR
  rcases err2_cases T L d M f with hE | ⟨hE, hT, hm1, hm2⟩
  · rw [hE]
    simp +decide (disch := first | assumption | exact cellV_int _ _ | exact cellV_bool _ | omega | (simp only [GH.pn, GH.sn] <;> omega) | (with_reducible ((repeat (first | apply GH.ok_push | apply GH.ok_set)); assumption)) | ((try simp only [GH.push_hid, GH.set_hid]); refine GH.vis ?_ ?_ <;> first | assumption | ((try simp only [GH.pn, GH.sn]) <;> omega))) only [go_sem, ↓reduceIte, Nat.reduceEqDiff, Nat.reduceAdd, Int.reduceToNat, Int.reduceAdd, Int.reduceNeg, Int.reduceSub, Int.reduceMul, Int.reduceLT, Int.reduceLE, Int.reduceEq, ↓GH.gp_eq, ↓GH.gp_ne, ↓GH.gs_eq, ↓GH.gs_ne, GH.push_next, GH.set_next, hC1]
    intro hx0
    exact ⟨by omega, rfl⟩
  · rw [hE]
    obtain ⟨a1, a2, a3, a4, a5, a6, a7, a8⟩ := mix_facts hm1
    obtain ⟨b1, b2, b3, b4, b5, b6, b7, b8⟩ := mix_facts hm2
    have hga := refGain_rets hX T hT L M a3 b3 10000 10000 (mix_sm hm1) (mix_sm hm2) (by decide) (by decide) t s r g1 (ht.kept hk1) (hs.kept hk1) (hr.kept hk1)
    rw [gain_same hT a3 b3] at hga
    have hgs := gain_sm (a := 10000) (b := 10000) (tab_sm9 hT) ⟨mix_sm hm1 0, mix_sm hm1 1, mix_sm hm1 2⟩ ⟨mix_sm hm2 0, mix_sm hm2 1, mix_sm hm2 2⟩
    obtain ⟨Z, hZ⟩ : ∃ Z, gT T (ne L 0) (ne L 1) (ne L 2) (ne M 0) (ne M 1) (ne M 2) = Z := ⟨_, rfl⟩
    have hgs : Sm (9 * (10000 * 10000 * 20)) Z := by rw [← hZ]; exact hgs
    rw [hZ] at hga ⊢
    have hdf : 0 < d * f ∧ d * f ≤ 100000000 := by
      have h1 := Int.mul_pos (show 0 < d by omega) (show 0 < f by omega)
      have h2 := Int.mul_le_mul a5 b5 (by omega) (by omega)
      exact ⟨h1, h2⟩
    simp +decide (disch := first | assumption | exact cellV_int _ _ | exact cellV_bool _ | omega | (simp only [GH.pn, GH.sn] <;> omega) | (with_reducible ((repeat (first | apply GH.ok_push | apply GH.ok_set)); assumption)) | ((try simp only [GH.push_hid, GH.set_hid]); refine GH.vis ?_ ?_ <;> first | assumption | ((try simp only [GH.pn, GH.sn]) <;> omega))) only [go_sem, ↓reduceIte, Nat.reduceEqDiff, Nat.reduceAdd, Int.reduceToNat, Int.reduceAdd, Int.reduceNeg, Int.reduceSub, Int.reduceMul, Int.reduceLT, Int.reduceLE, Int.reduceEq, ↓GH.gp_eq, ↓GH.gp_ne, ↓GH.gs_eq, ↓GH.gs_ne, GH.push_next, GH.set_next, hA1, hB1]
    refine CallD.calm hga ?_
    rintro v g2 hx2 rfl
    have hn2 := hx2.next
    have hA2 := (hx2.gets g.next (by omega)).trans hA1
    have hB2 := (hx2.gets (g.next + 1) (by omega)).trans hB1
    have hC2 := (hx2.gets (g.next + 1 + 1) (by omega)).trans hC1
    simp +decide (disch := first | assumption | exact cellV_int _ _ | exact cellV_bool _ | omega | (simp only [GH.pn, GH.sn] <;> omega) | (with_reducible ((repeat (first | apply GH.ok_push | apply GH.ok_set)); assumption)) | ((try simp only [GH.push_hid, GH.set_hid]); refine GH.vis ?_ ?_ <;> first | assumption | ((try simp only [GH.pn, GH.sn]) <;> omega))) only [go_sem, ↓reduceIte, Nat.reduceEqDiff, Nat.reduceAdd, Int.reduceToNat, Int.reduceAdd, Int.reduceNeg, Int.reduceSub, Int.reduceMul, Int.reduceLT, Int.reduceLE, Int.reduceEq, ↓GH.gp_eq, ↓GH.gp_ne, ↓GH.gs_eq, ↓GH.gs_ne, GH.push_next, GH.set_next, hA2, hB2]
    refine CallD.calm (refRatio_rets hX Z (d * f) (hgs.up (by decide)) (by omega) _) ?_
    rintro v g7 hx7 rfl
    have hn7 := hx7.next
    have hC7 := (hx7.gets (g.next + 1 + 1) (by omega)).trans hC2
    have hvC7 := GH.seen hC7 Nat.one_ne_zero
    unfold raV
    simp +decide (disch := first | assumption | exact cellV_int _ _ | exact cellV_bool _ | omega | (simp only [GH.pn, GH.sn] <;> omega) | (with_reducible ((repeat (first | apply GH.ok_push | apply GH.ok_set)); assumption)) | ((try simp only [GH.push_hid, GH.set_hid]); refine GH.vis ?_ ?_ <;> first | assumption | ((try simp only [GH.pn, GH.sn]) <;> omega))) only [go_sem, ↓reduceIte, Nat.reduceEqDiff, Nat.reduceAdd, Int.reduceToNat, Int.reduceAdd, Int.reduceNeg, Int.reduceSub, Int.reduceMul, Int.reduceLT, Int.reduceLE, Int.reduceEq, ↓GH.gp_eq, ↓GH.gp_ne, ↓GH.gs_eq, ↓GH.gs_ne, GH.push_next, GH.set_next, hC7]
    intro hx0
    exact ⟨by omega, rfl⟩
end Go.Proofs.YtngmaccaldhjcaaDoor
