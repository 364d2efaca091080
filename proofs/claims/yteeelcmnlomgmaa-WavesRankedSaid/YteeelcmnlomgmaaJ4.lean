import Derived.Test.YteeelcmnlomgmaaJ1
import Derived.Test.YteeelcmnlomgmaaKe
set_option linter.all false
set_option linter.unusedSimpArgs false
set_option linter.unnecessarySimpa false
set_option linter.unusedVariables false
set_option linter.unusedSectionVars false
set_option maxRecDepth 100000
set_option maxHeartbeats 8000000
set_option linter.unusedSimpArgs false
set_option linter.unusedVariables false
namespace Go.Proofs.Yteeelcmnlomgmaa
open Go.Ds
/-! ## What a row is -/
def rowGo (n : Nat) : List Int → List Int → Bool
  | _, [] => true
  | seen, x :: l => decide (1 ≤ x ∧ x ≤ n ∧ x ∉ seen) && rowGo n (seen ++ [x]) l
def rowE (L : List Int) : Int := if 10 < L.length then 3 else if rowGo L.length [] L = true then 0 else 2
def bools (B : List Bool) : List Value := B.map Value.bool
def hasB (n : Nat) (seen : List Int) : List Bool := (List.range n).map fun (y : Nat) => decide (((y : Int) + 1) ∈ seen)
theorem hasB_len (n : Nat) (seen : List Int) : (bools (hasB n seen)).length = n := by simp [bools, hasB]
theorem hasB_get {n k : Nat} (seen : List Int) (h : k < n) : (bools (hasB n seen))[k]? = some (.bool (decide (((k : Int) + 1) ∈ seen))) := by
  simp [bools, hasB, h]
theorem hasB_set {n k : Nat} (seen : List Int) (h : k < n) : (bools (hasB n seen)).set k (.bool true) = bools (hasB n (seen ++ [(k : Int) + 1])) := by
  apply List.ext_getElem?
  intro i
  by_cases c : i < n
  · rw [hasB_get _ c]
    by_cases d : k = i
    · subst d
      rw [List.getElem?_set_self (by rw [hasB_len]; exact h)]
      simp
    · rw [List.getElem?_set_ne d, hasB_get _ c]
      congr 3
      apply propext
      simp only [List.mem_append, List.mem_singleton]
      constructor
      · exact fun h => .inl h
      · rintro (h | h)
        · exact h
        · omega
  · rw [List.getElem?_eq_none (by rw [List.length_set, hasB_len]; omega), List.getElem?_eq_none (by rw [hasB_len]; omega)]
theorem hasB_nil (n : Nat) : repeatN [Value.bool false] n = bools (hasB n []) := by
  have : ∀ n, repeatN [Value.bool false] n = List.replicate n (.bool false) := by
    intro n
    induction n with
    | zero => rfl
    | succ n ih => rw [List.replicate_succ, ← ih]; rfl
  rw [this]
  apply List.ext_getElem?
  intro i
  by_cases c : i < n
  · rw [hasB_get _ c]; simp [c]
  · rw [List.getElem?_eq_none (by simp; omega), List.getElem?_eq_none (by rw [hasB_len]; omega)]
theorem drop_cons (L : List Int) (i : Nat) (h : i < L.length) : L.drop i = L.getD i 0 :: L.drop (i + 1) := by
  rw [List.drop_eq_getElem_cons h]; simp [h]
theorem rowGo_step (n : Nat) (L : List Int) (i : Nat) (h : i < L.length) : rowGo n (L.take i) (L.drop i) = (decide (1 ≤ L.getD i 0 ∧ L.getD i 0 ≤ n ∧ L.getD i 0 ∉ L.take i) && rowGo n (L.take (i + 1)) (L.drop (i + 1))) := by
  rw [drop_cons L i h, rowGo, ← take_snoc L i h]
theorem isRow_rets {X : Caller} (hX : Xok X) (L : List Int) (hL : L.length ≤ 1000) (s : Value) (g : GH) (hs : SlR g s (ints L)) :
    Rets Try.prog X 61 [s] g (fun v g' lo => g.next ≤ lo ∧ v = .bool (rowGo L.length [] L)) := by
  refine Rets.run hX.pres p61 (hX.free 61 (by decide) _ _) rfl fun ho => ?_
  have hl := hs.len
  rw [ints_len] at hl
  simp +decide (disch := first | assumption | (apply GH.ok_push; assumption) | exact cellV_int _ _ | exact cellV_bool _ | omega) only [go_sem, ↓reduceIte, Nat.reduceEqDiff, Nat.reduceAdd, Int.reduceToNat, hl]
  refine Wk.mkslice (n := L.length) (c := L.length) (by simp +decide (disch := first | assumption | (apply GH.ok_push; assumption) | exact cellV_int _ _ | exact cellV_bool _ | omega) only [go_sem, ↓reduceIte, Nat.reduceEqDiff, Nat.reduceAdd, Int.reduceToNat, hl]; first | done | exact rfl) (by simp +decide (disch := first | assumption | (apply GH.ok_push; assumption) | exact cellV_int _ _ | exact cellV_bool _ | omega) only [go_sem, ↓reduceIte, Nat.reduceEqDiff, Nat.reduceAdd, Int.reduceToNat, hl]; first | done | exact rfl) (Nat.le_refl _) (by omega) ?_
  simp +decide (disch := first | assumption | (apply GH.ok_push; assumption) | exact cellV_int _ _ | exact cellV_bool _ | omega) only [go_sem, ↓reduceIte, Nat.reduceEqDiff, Nat.reduceAdd, Int.reduceToNat, hl]
  refine Wk.loops (fun m e g' lo => g.next ≤ lo ∧ Kept g g' ∧ g.next < g'.next ∧ ∃ i : Nat, i + m = L.length ∧ (ev e (.s 0) = s ∧ ev e (.s 3) = .slice (some ⟨g.next, 0, none⟩) L.length L.length ∧ ev e (.s 9) = s ∧ ev e (.s 10) = .int .i64 L.length ∧ ev e (.s 11) = .int .i64 i) ∧ g'.get g.next = cellsOb (bools (hasB L.length (L.take i))) 4 ∧ rowGo L.length (L.take i) (L.drop i) = rowGo L.length [] L)
    (fun e g' lo => g.next ≤ lo ∧ rowGo L.length [] L = true) (n := L.length) ?_ ?_ ?_
  · refine ⟨Nat.le_refl _, (Kept.refl g).push ho _, Nat.lt_succ_self _, 0, by omega, (by simp +decide (disch := first | assumption | (apply GH.ok_push; assumption) | exact cellV_int _ _ | exact cellV_bool _ | omega) only [go_sem, ↓reduceIte, Nat.reduceEqDiff, Nat.reduceAdd, Int.reduceToNat, hl]; first | done | exact rfl), ?_, rfl⟩
    rw [GH.get_push ho, if_pos rfl, hasB_nil]; rfl
  · rintro e g' lo hog - ⟨hlo, hr⟩
    simp +decide (disch := first | assumption | (apply GH.ok_push; assumption) | exact cellV_int _ _ | exact cellV_bool _ | omega) only [go_sem, ↓reduceIte, Nat.reduceEqDiff, Nat.reduceAdd, Int.reduceToNat]
    intro hx
    exact ⟨hlo, by rw [hr]⟩
  · rintro m e g' lo ho' hl' ih out ⟨hlo, hk, hnx, i, hi, he, hget, hr⟩
    by_cases c : i < L.length
    · obtain ⟨p, hp1, hp2⟩ := (hs.kept hk).at (ints_get (D := L) (i := i) c)
      have hp1 := hp1 (i : Int) rfl
      have hst := rowGo_step L.length L i c
      have htk := take_snoc L i c
      obtain ⟨x, hx⟩ : ∃ x, L.getD i 0 = x := ⟨_, rfl⟩
      rw [hx] at hp2 hst htk
      by_cases c1 : x < 1
      · simp +decide (disch := first | assumption | (apply GH.ok_push; assumption) | exact cellV_int _ _ | exact cellV_bool _ | omega) only [go_sem, ↓reduceIte, Nat.reduceEqDiff, Nat.reduceAdd, Int.reduceToNat, he, hl, hp1, hp2]
        intro hx0
        refine ⟨hlo, ?_⟩
        rw [← hr, hst, decide_eq_false (by omega)]; rfl
      · by_cases c2 : (L.length : Int) < x
        · simp +decide (disch := first | assumption | (apply GH.ok_push; assumption) | exact cellV_int _ _ | exact cellV_bool _ | omega) only [go_sem, ↓reduceIte, Nat.reduceEqDiff, Nat.reduceAdd, Int.reduceToNat, he, hl, hp1, hp2]
          intro hx0
          refine ⟨hlo, ?_⟩
          rw [← hr, hst, decide_eq_false (by omega)]; rfl
        · obtain ⟨k, hk1⟩ : ∃ k : Nat, x = k + 1 := ⟨(x - 1).toNat, by omega⟩
          subst hk1
          have hkl : k < L.length := by omega
          have hia := iaddrS_at (j := g.next) (n := L.length) (c := L.length) (m := k) (x := (k : Int)) rfl hkl
          have hgc := hasB_get (L.take i) hkl
          have hlen := hasB_len L.length (L.take i)
          have hkk : (k : Int) + 1 - 1 = k := by omega
          by_cases c3 : ((k : Int) + 1) ∈ L.take i
          · rw [decide_eq_true c3] at hgc
            simp +decide (disch := first | assumption | (apply GH.ok_push; assumption) | exact cellV_int _ _ | exact cellV_bool _ | omega) only [go_sem, ↓reduceIte, Nat.reduceEqDiff, Nat.reduceAdd, Int.reduceToNat, he, hl, hp1, hp2, hkk, hia, hget, hgc]
            intro hx0
            refine ⟨hlo, ?_⟩
            rw [← hr, hst, decide_eq_false (fun h => h.2.2 c3)]; rfl
          · rw [decide_eq_false c3] at hgc
            simp +decide (disch := first | assumption | (apply GH.ok_push; assumption) | exact cellV_int _ _ | exact cellV_bool _ | omega) only [go_sem, ↓reduceIte, Nat.reduceEqDiff, Nat.reduceAdd, Int.reduceToNat, he, hl, hp1, hp2, hkk, hia, hget, hgc, hlen]
            have hw := Wrote.set (o := cellsOb (splice k (bools (hasB L.length (L.take i))) [.bool true]) 4) hget Nat.one_ne_zero ho'
            refine ih (m - 1) _ _ _ (by omega) ⟨by omega, hw.kept hk (Nat.le_refl _), hnx, i + 1, by omega, (by simp +decide (disch := first | assumption | (apply GH.ok_push; assumption) | exact cellV_int _ _ | exact cellV_bool _ | omega) only [go_sem, ↓reduceIte, Nat.reduceEqDiff, Nat.reduceAdd, Int.reduceToNat, he]; first | done | exact rfl), ?_, ?_⟩
            · rw [hw.get, splice_set _ _ _ (by rw [hlen]; exact hkl), hasB_set _ hkl, ← htk]
            · rw [← hr, hst, decide_eq_true ⟨by omega, by omega, c3⟩]; rfl
    · simp +decide (disch := first | assumption | (apply GH.ok_push; assumption) | exact cellV_int _ _ | exact cellV_bool _ | omega) only [go_sem, ↓reduceIte, Nat.reduceEqDiff, Nat.reduceAdd, Int.reduceToNat, he]
      refine out _ _ _ ⟨hlo, ?_⟩
      rw [← hr, List.drop_of_length_le (by omega)]; cases L.take i <;> rfl
theorem checkRow_rets {X : Caller} (hX : Xok X) (L : List Int) (hL : L.length ≤ 1000) (s : Value) (g : GH) (hs : SlR g s (ints L)) :
    Rets Try.prog X 43 [s] g (fun v g' lo => g.next ≤ lo ∧ v = .int .i64 (rowE L)) := by
  refine Rets.run hX.pres p43 (hX.free 43 (by decide) _ _) rfl fun ho => ?_
  have hl := hs.len
  rw [ints_len] at hl
  unfold rowE
  by_cases c : 10 < L.length
  · rw [if_pos c]
    simp +decide (disch := first | assumption | (apply GH.ok_push; assumption) | exact cellV_int _ _ | exact cellV_bool _ | omega) only [go_sem, ↓reduceIte, Nat.reduceEqDiff, Nat.reduceAdd, Int.reduceToNat, hl]
    intro hx
    exact ⟨Nat.le_refl _, rfl⟩
  · rw [if_neg c]
    simp +decide (disch := first | assumption | (apply GH.ok_push; assumption) | exact cellV_int _ _ | exact cellV_bool _ | omega) only [go_sem, ↓reduceIte, Nat.reduceEqDiff, Nat.reduceAdd, Int.reduceToNat, hl]
    refine CallD.calm (isRow_rets hX L hL s _ hs) ?_
    rintro v G hx rfl
    have hn := hx.next
    by_cases d : rowGo L.length [] L = true
    · rw [if_pos d]
      simp +decide (disch := first | assumption | (apply GH.ok_push; assumption) | exact cellV_int _ _ | exact cellV_bool _ | omega) only [go_sem, ↓reduceIte, Nat.reduceEqDiff, Nat.reduceAdd, Int.reduceToNat, d]
      intro hx
      exact ⟨Nat.le_refl _, rfl⟩
    · rw [if_neg d]
      have d : rowGo L.length [] L = false := by simpa using d
      simp +decide (disch := first | assumption | (apply GH.ok_push; assumption) | exact cellV_int _ _ | exact cellV_bool _ | omega) only [go_sem, ↓reduceIte, Nat.reduceEqDiff, Nat.reduceAdd, Int.reduceToNat, d]
      intro hx
      exact ⟨Nat.le_refl _, rfl⟩
end Go.Proofs.Yteeelcmnlomgmaa
set_option maxRecDepth 100000
set_option maxHeartbeats 8000000
set_option linter.unusedSimpArgs false
set_option linter.unusedVariables false
namespace Go.Proofs.Yteeelcmnlomgmaa
open Go.Ds
/-! ## The row of the specification: a set in bits -/
theorem bit_add (m i y : Nat) (h : m / 2 ^ i % 2 = 0) : (m + 2 ^ i) / 2 ^ y % 2 = if y = i then 1 else m / 2 ^ y % 2 := by
  have hp : ∀ n, 0 < 2 ^ n := fun n => Nat.two_pow_pos n
  by_cases c : y = i
  · subst c
    rw [if_pos rfl, Nat.add_div_right _ (hp y)]
    omega
  · rw [if_neg c]
    by_cases d : y < i
    · obtain ⟨k, rfl⟩ : ∃ k, i = y + (k + 1) := ⟨i - y - 1, by omega⟩
      rw [Nat.pow_add, Nat.add_mul_div_left _ _ (hp y), Nat.pow_succ]
      omega
    · obtain ⟨k, rfl⟩ : ∃ k, y = (i + 1) + k := ⟨y - i - 1, by omega⟩
      have e : (m + 2 ^ i) / 2 ^ (i + 1) = m / 2 ^ (i + 1) := by
        rw [Nat.pow_succ, ← Nat.div_div_eq_div_mul, ← Nat.div_div_eq_div_mul, Nat.add_div_right _ (hp i)]
        omega
      rw [Nat.pow_add, ← Nat.div_div_eq_div_mul, ← Nat.div_div_eq_div_mul, e]
theorem shr_fact (t k : Nat) (hk : k ≤ 60) : (t : Int).fdiv (Int.ofNat (Nat.pow 2 (min (k : Int).toNat 64))) = ((t / 2 ^ k : Nat) : Int) := by
  have e : min (k : Int).toNat 64 = k := by omega
  rw [e]
  exact (Int.ofNat_fdiv t (2 ^ k)).symm
theorem shl_fact (k : Nat) (hk : k ≤ 60) : (1 : Int) * Int.ofNat (Nat.pow 2 (min (k : Int).toNat 64)) = ((2 ^ k : Nat) : Int) := by
  have e : min (k : Int).toNat 64 = k := by omega
  rw [e, Int.one_mul]; rfl
theorem refRow_rets {X : Caller} (hX : Xok X) (L : List Int) (hL : L.length ≤ 1000) (s : Value) (g : GH) (hs : SlR g s (ints L)) :
    Rets Try.prog X 41 [s] g (fun v g' lo => g.next ≤ lo ∧ v = .int .i64 (rowE L)) := by
  refine Rets.run hX.pres p41 (hX.free 41 (by decide) _ _) rfl fun ho => ?_
  have hl := hs.len
  rw [ints_len] at hl
  unfold rowE
  by_cases c0 : 10 < L.length
  · rw [if_pos c0]
    simp +decide (disch := first | assumption | (apply GH.ok_push; assumption) | exact cellV_int _ _ | exact cellV_bool _ | omega) only [go_sem, ↓reduceIte, Nat.reduceEqDiff, Nat.reduceAdd, Int.reduceToNat, hl]
    intro hx
    exact ⟨Nat.le_refl _, rfl⟩
  · rw [if_neg c0]
    simp +decide (disch := first | assumption | (apply GH.ok_push; assumption) | exact cellV_int _ _ | exact cellV_bool _ | omega) only [go_sem, ↓reduceIte, Nat.reduceEqDiff, Nat.reduceAdd, Int.reduceToNat, hl]
    refine Wk.loops (fun m e g' lo => g.next ≤ lo ∧ g' = g ∧ ∃ i : Nat, i + m = L.length ∧ ∃ t : Nat, (ev e (.s 0) = s ∧ ev e (.s 3) = .int .i64 t ∧ ev e (.s 4) = .int .i64 i) ∧ t ≤ 1024 * i ∧ (∀ y : Nat, y ≤ 10 → t / 2 ^ y % 2 = if (y : Int) ∈ L.take i then 1 else 0) ∧ rowGo L.length (L.take i) (L.drop i) = rowGo L.length [] L)
      (fun e g' lo => g.next ≤ lo ∧ rowGo L.length [] L = true) (n := L.length) ?_ ?_ ?_
    · exact ⟨Nat.le_refl _, rfl, 0, by omega, 0, (by simp +decide (disch := first | assumption | (apply GH.ok_push; assumption) | exact cellV_int _ _ | exact cellV_bool _ | omega) only [go_sem, ↓reduceIte, Nat.reduceEqDiff, Nat.reduceAdd, Int.reduceToNat]; first | done | exact rfl), by omega, fun y _ => by simp, rfl⟩
    · rintro e g' lo hog - ⟨hlo, hr⟩
      rw [if_pos hr]
      simp +decide (disch := first | assumption | (apply GH.ok_push; assumption) | exact cellV_int _ _ | exact cellV_bool _ | omega) only [go_sem, ↓reduceIte, Nat.reduceEqDiff, Nat.reduceAdd, Int.reduceToNat]
      intro hx
      exact ⟨hlo, rfl⟩
    · rintro m e g' lo ho' hl' ih out ⟨hlo, rfl, i, hi, t, he, ht, hb, hr⟩
      by_cases c : i < L.length
      · obtain ⟨p, hp1, hp2⟩ := hs.at (ints_get (D := L) (i := i) c)
        have hp1 := hp1 (i : Int) rfl
        have hst := rowGo_step L.length L i c
        have htk := take_snoc L i c
        obtain ⟨x, hx⟩ : ∃ x, L.getD i 0 = x := ⟨_, rfl⟩
        rw [hx] at hp2 hst htk
        by_cases c1 : x < 1
        · simp +decide (disch := first | assumption | (apply GH.ok_push; assumption) | exact cellV_int _ _ | exact cellV_bool _ | omega) only [go_sem, ↓reduceIte, Nat.reduceEqDiff, Nat.reduceAdd, Int.reduceToNat, he, hl, hp1, hp2]
          intro hx0
          refine ⟨hlo, ?_⟩
          rw [if_neg]
          rw [← hr, hst, decide_eq_false (by omega)]; simp
        · by_cases c2 : (L.length : Int) < x
          · simp +decide (disch := first | assumption | (apply GH.ok_push; assumption) | exact cellV_int _ _ | exact cellV_bool _ | omega) only [go_sem, ↓reduceIte, Nat.reduceEqDiff, Nat.reduceAdd, Int.reduceToNat, he, hl, hp1, hp2]
            intro hx0
            refine ⟨hlo, ?_⟩
            rw [if_neg]
            rw [← hr, hst, decide_eq_false (by omega)]; simp
          · obtain ⟨k, hk1⟩ : ∃ k : Nat, x = k := ⟨x.toNat, by omega⟩
            subst hk1
            have hkl : k ≤ L.length := by omega
            have hbk := hb k (by omega)
            have hsr : ((t : Int).fdiv (Int.ofNat (Nat.pow 2 (min (k : Int).toNat 64)))).tmod 2 = ((t / 2 ^ k % 2 : Nat) : Int) := by rw [shr_fact t k (by omega)]; rfl
            have hsl := shl_fact k (by omega)
            have hpw : 2 ^ k ≤ 1024 := by have := Nat.pow_le_pow_right (n := 2) (by omega) (show k ≤ 10 by omega); exact this
            obtain ⟨w, hw⟩ : ∃ w, 2 ^ k = w := ⟨_, rfl⟩
            by_cases c3 : ((k : Int)) ∈ L.take i
            · rw [if_pos c3] at hbk
              rw [hbk] at hsr
              simp +decide (disch := first | assumption | (apply GH.ok_push; assumption) | exact cellV_int _ _ | exact cellV_bool _ | omega) only [go_sem, ↓reduceIte, Nat.reduceEqDiff, Nat.reduceAdd, Int.reduceToNat, he, hl, hp1, hp2, hsr]
              intro hx0
              refine ⟨hlo, ?_⟩
              rw [if_neg]
              rw [← hr, hst, decide_eq_false (fun h => h.2.2 c3)]; simp
            · rw [if_neg c3] at hbk
              rw [hbk] at hsr
              rw [hw] at hsl hpw
              simp +decide (disch := first | assumption | (apply GH.ok_push; assumption) | exact cellV_int _ _ | exact cellV_bool _ | omega) only [go_sem, ↓reduceIte, Nat.reduceEqDiff, Nat.reduceAdd, Int.reduceToNat, he, hl, hp1, hp2, hsr, hsl]
              refine ih (m - 1) _ _ _ (by omega) ⟨hlo, rfl, i + 1, by omega, t + w, (by simp +decide (disch := first | assumption | (apply GH.ok_push; assumption) | exact cellV_int _ _ | exact cellV_bool _ | omega) only [go_sem, ↓reduceIte, Nat.reduceEqDiff, Nat.reduceAdd, Int.reduceToNat, he]; first | done | exact rfl), by omega, fun y hy => ?_, ?_⟩
              · rw [← hw, bit_add t k y hbk, hb y hy, htk]
                by_cases d : y = k
                · subst d; simp
                · have d' : ¬ (y : Int) = k := by omega
                  rw [if_neg d]
                  simp only [List.mem_append, List.mem_singleton, d', or_false]
              · rw [← hr, hst, decide_eq_true ⟨by omega, by omega, c3⟩]; rfl
      · simp +decide (disch := first | assumption | (apply GH.ok_push; assumption) | exact cellV_int _ _ | exact cellV_bool _ | omega) only [go_sem, ↓reduceIte, Nat.reduceEqDiff, Nat.reduceAdd, Int.reduceToNat, he, hl]
        refine out _ _ _ ⟨hlo, ?_⟩
        rw [← hr, List.drop_of_length_le (by omega)]; cases L.take i <;> rfl
end Go.Proofs.Yteeelcmnlomgmaa
set_option maxRecDepth 100000
set_option maxHeartbeats 8000000
set_option linter.unusedSimpArgs false
set_option linter.unusedVariables false
namespace Go.Proofs.Yteeelcmnlomgmaa
open Go.Ds
/-! ## Waves -/
def inTurnL : Bool → List Int → Bool
  | up, a :: b :: l => (decide (a < b) == up) && inTurnL (!up) (b :: l)
  | _, _ => true
theorem inTurnL_step (up : Bool) (L : List Int) (j : Nat) (h : j + 1 < L.length) : inTurnL up (L.drop j) = ((decide (L.getD j 0 < L.getD (j + 1) 0) == up) && inTurnL (!up) (L.drop (j + 1))) := by
  rw [drop_cons L j (by omega), drop_cons L (j + 1) h, inTurnL]
theorem inTurnL_end (up : Bool) (L : List Int) (j : Nat) (h : L.length ≤ j + 1) : inTurnL up (L.drop j) = true := by
  by_cases c : j < L.length
  · rw [drop_cons L j c, List.drop_of_length_le (by omega)]; rfl
  · rw [List.drop_of_length_le (by omega)]; rfl
theorem rowGo_mem {n : Nat} : ∀ {l seen : List Int}, rowGo n seen l = true → l.Nodup ∧ ∀ x ∈ l, x ∉ seen ∧ 1 ≤ x ∧ x ≤ n
  | [], _, _ => ⟨List.nodup_nil, fun x h => by cases h⟩
  | a :: l, seen, h => by
    simp only [rowGo, Bool.and_eq_true, decide_eq_true_eq] at h
    obtain ⟨h1, h2⟩ := rowGo_mem h.2
    refine ⟨List.nodup_cons.2 ⟨fun ha => (h2 a ha).1 (by simp), h1⟩, fun x hx => ?_⟩
    rcases List.mem_cons.1 hx with rfl | hx
    · exact ⟨h.1.2.2, h.1.1, h.1.2.1⟩
    · have := h2 x hx
      exact ⟨fun hs => this.1 (by simp [hs]), this.2⟩
/-- Numbers next to each other are different. -/
def Diff (L : List Int) : Prop := ∀ j, j + 1 < L.length → L.getD j 0 ≠ L.getD (j + 1) 0
theorem nodup_diff {L : List Int} (h : L.Nodup) : Diff L := by
  intro j hj e
  rw [List.getD_eq_getElem?_getD, List.getD_eq_getElem?_getD, List.getElem?_eq_getElem (by omega), List.getElem?_eq_getElem hj] at e
  have h2 := List.pairwise_iff_getElem.1 h j (j + 1) (by omega) hj (by omega)
  exact h2 (by simpa using e)
theorem row_facts {L : List Int} (h : rowE L = 0) : L.length ≤ 10 ∧ L.Nodup ∧ Diff L ∧ ∀ x ∈ L, 1 ≤ x ∧ x ≤ L.length := by
  unfold rowE at h
  split at h
  · omega
  · split at h
    · rename_i h1 h2
      obtain ⟨a, b⟩ := rowGo_mem h2
      exact ⟨by omega, a, nodup_diff a, fun x hx => (b x hx).2⟩
    · omega
theorem rowE_cases (L : List Int) : rowE L = 0 ∨ rowE L = 2 ∨ rowE L = 3 := by
  unfold rowE
  split
  · exact .inr (.inr rfl)
  · split
    · exact .inl rfl
    · exact .inr (.inl rfl)
theorem inTurn_rets {X : Caller} (hX : Xok X) (L : List Int) (hL : L.length ≤ 1000) (up : Bool) (s : Value) (g : GH) (hs : SlR g s (ints L)) :
    Rets Try.prog X 66 [s, .bool up] g (fun v g' lo => g.next ≤ lo ∧ v = .bool (inTurnL up L)) := by
  refine Rets.run hX.pres p66 (hX.free 66 (by decide) _ _) rfl fun ho => ?_
  have hl := hs.len
  rw [ints_len] at hl
  simp +decide (disch := first | assumption | (apply GH.ok_push; assumption) | exact cellV_int _ _ | exact cellV_bool _ | omega) only [go_sem, ↓reduceIte, Nat.reduceEqDiff, Nat.reduceAdd, Int.reduceToNat]
  refine Wk.loops (fun m e g' lo => g.next ≤ lo ∧ g' = g ∧ ∃ j : Nat, j + m = L.length ∧ ∃ u : Bool, (ev e (.s 0) = s ∧ ev e (.s 1) = .bool u ∧ ev e (.s 5) = .int .i64 (j + 1)) ∧ inTurnL u (L.drop j) = inTurnL up L)
    (fun e g' lo => g.next ≤ lo ∧ inTurnL up L = true) (n := L.length) ?_ ?_ ?_
  · exact ⟨Nat.le_refl _, rfl, 0, by omega, up, (by simp +decide (disch := first | assumption | (apply GH.ok_push; assumption) | exact cellV_int _ _ | exact cellV_bool _ | omega) only [go_sem, ↓reduceIte, Nat.reduceEqDiff, Nat.reduceAdd, Int.reduceToNat]; first | done | exact rfl), rfl⟩
  · rintro e g' lo hog - ⟨hlo, hr⟩
    simp +decide (disch := first | assumption | (apply GH.ok_push; assumption) | exact cellV_int _ _ | exact cellV_bool _ | omega) only [go_sem, ↓reduceIte, Nat.reduceEqDiff, Nat.reduceAdd, Int.reduceToNat]
    intro hx
    exact ⟨hlo, by rw [hr]⟩
  · rintro m e g' lo ho' hl' ih out ⟨hlo, rfl, j, hj, u, he, hr⟩
    by_cases c : j + 1 < L.length
    · obtain ⟨b1, o1, hb1, hp1, hp2⟩ := hs.ptr (ints_get (D := L) (i := j) (by omega))
      obtain ⟨b2, o2, hb2, hq1, hq2⟩ := hs.ptr (ints_get (D := L) (i := j + 1) c)
      have hp1 := hp1 (j : Int) rfl
      have hq1 := hq1 ((j : Int) + 1) (by omega)
      have hst := inTurnL_step u L j c
      have hj1 : (j : Int) + 1 - 1 = j := by omega
      by_cases d : L.getD j 0 < L.getD (j + 1) 0
      · rw [decide_eq_true d] at hst
        cases u with
        | true =>
          simp +decide (disch := first | assumption | (apply GH.ok_push; assumption) | exact cellV_int _ _ | exact cellV_bool _ | omega) only [go_sem, ↓reduceIte, Nat.reduceEqDiff, Nat.reduceAdd, Int.reduceToNat, he, hl, hj1, hp1, hp2, hq1, hq2, d]
          exact ih (m - 1) _ _ _ (by omega) ⟨hlo, rfl, j + 1, by omega, false, (by simp +decide (disch := first | assumption | (apply GH.ok_push; assumption) | exact cellV_int _ _ | exact cellV_bool _ | omega) only [go_sem, ↓reduceIte, Nat.reduceEqDiff, Nat.reduceAdd, Int.reduceToNat, he]; first | done | exact rfl), by rw [← hr, hst]; rfl⟩
        | false =>
          simp +decide (disch := first | assumption | (apply GH.ok_push; assumption) | exact cellV_int _ _ | exact cellV_bool _ | omega) only [go_sem, ↓reduceIte, Nat.reduceEqDiff, Nat.reduceAdd, Int.reduceToNat, he, hl, hj1, hp1, hp2, hq1, hq2, d]
          intro hx0
          refine ⟨hlo, ?_⟩
          rw [← hr, hst]; rfl
      · rw [decide_eq_false d] at hst
        cases u with
        | true =>
          simp +decide (disch := first | assumption | (apply GH.ok_push; assumption) | exact cellV_int _ _ | exact cellV_bool _ | omega) only [go_sem, ↓reduceIte, Nat.reduceEqDiff, Nat.reduceAdd, Int.reduceToNat, he, hl, hj1, hp1, hp2, hq1, hq2, d]
          intro hx0
          refine ⟨hlo, ?_⟩
          rw [← hr, hst]; rfl
        | false =>
          simp +decide (disch := first | assumption | (apply GH.ok_push; assumption) | exact cellV_int _ _ | exact cellV_bool _ | omega) only [go_sem, ↓reduceIte, Nat.reduceEqDiff, Nat.reduceAdd, Int.reduceToNat, he, hl, hj1, hp1, hp2, hq1, hq2, d]
          exact ih (m - 1) _ _ _ (by omega) ⟨hlo, rfl, j + 1, by omega, true, (by simp +decide (disch := first | assumption | (apply GH.ok_push; assumption) | exact cellV_int _ _ | exact cellV_bool _ | omega) only [go_sem, ↓reduceIte, Nat.reduceEqDiff, Nat.reduceAdd, Int.reduceToNat, he]; first | done | exact rfl), by rw [← hr, hst]; rfl⟩
    · simp +decide (disch := first | assumption | (apply GH.ok_push; assumption) | exact cellV_int _ _ | exact cellV_bool _ | omega) only [go_sem, ↓reduceIte, Nat.reduceEqDiff, Nat.reduceAdd, Int.reduceToNat, he, hl]
      refine out _ _ _ ⟨hlo, ?_⟩
      rw [← hr, inTurnL_end u L j (by omega)]
theorem isWave_rets {X : Caller} (hX : Xok X) (L : List Int) (hL : L.length ≤ 1000) (s : Value) (g : GH) (hs : SlR g s (ints L)) :
    Rets Try.prog X 44 [s] g (fun v g' lo => g.next ≤ lo ∧ v = .bool (inTurnL true L)) := by
  refine Rets.run hX.pres p44 (hX.free 44 (by decide) _ _) rfl fun ho => ?_
  simp +decide (disch := first | assumption | (apply GH.ok_push; assumption) | exact cellV_int _ _ | exact cellV_bool _ | omega) only [go_sem, ↓reduceIte, Nat.reduceEqDiff, Nat.reduceAdd, Int.reduceToNat]
  refine CallD.calm (inTurn_rets hX L hL true s _ hs) ?_
  rintro v G hx rfl
  have hn := hx.next
  simp +decide (disch := first | assumption | (apply GH.ok_push; assumption) | exact cellV_int _ _ | exact cellV_bool _ | omega) only [go_sem, ↓reduceIte, Nat.reduceEqDiff, Nat.reduceAdd, Int.reduceToNat]
  intro hx0
  exact ⟨Nat.le_refl _, rfl⟩
theorem refWave_rets {X : Caller} (hX : Xok X) (L : List Int) (hL : L.length ≤ 1000) (hd : Diff L) (s : Value) (g : GH) (hs : SlR g s (ints L)) :
    Rets Try.prog X 45 [s] g (fun v g' lo => g.next ≤ lo ∧ v = .bool (inTurnL true L)) := by
  refine Rets.run hX.pres p45 (hX.free 45 (by decide) _ _) rfl fun ho => ?_
  have hl := hs.len
  rw [ints_len] at hl
  simp +decide (disch := first | assumption | (apply GH.ok_push; assumption) | exact cellV_int _ _ | exact cellV_bool _ | omega) only [go_sem, ↓reduceIte, Nat.reduceEqDiff, Nat.reduceAdd, Int.reduceToNat]
  refine Wk.loops (fun m e g' lo => g.next ≤ lo ∧ g' = g ∧ ∃ j : Nat, j + m = L.length ∧ (ev e (.s 0) = s ∧ ev e (.s 3) = .int .i64 (j + 1)) ∧ inTurnL (decide (j % 2 = 0)) (L.drop j) = inTurnL true L)
    (fun e g' lo => g.next ≤ lo ∧ inTurnL true L = true) (n := L.length) ?_ ?_ ?_
  · exact ⟨Nat.le_refl _, rfl, 0, by omega, (by simp +decide (disch := first | assumption | (apply GH.ok_push; assumption) | exact cellV_int _ _ | exact cellV_bool _ | omega) only [go_sem, ↓reduceIte, Nat.reduceEqDiff, Nat.reduceAdd, Int.reduceToNat]; first | done | exact rfl), rfl⟩
  · rintro e g' lo hog - ⟨hlo, hr⟩
    simp +decide (disch := first | assumption | (apply GH.ok_push; assumption) | exact cellV_int _ _ | exact cellV_bool _ | omega) only [go_sem, ↓reduceIte, Nat.reduceEqDiff, Nat.reduceAdd, Int.reduceToNat]
    intro hx
    exact ⟨hlo, by rw [hr]⟩
  · rintro m e g' lo ho' hl' ih out ⟨hlo, rfl, j, hj, he, hr⟩
    by_cases c : j + 1 < L.length
    · obtain ⟨b1, o1, hb1, hp1, hp2⟩ := hs.ptr (ints_get (D := L) (i := j) (by omega))
      obtain ⟨b2, o2, hb2, hq1, hq2⟩ := hs.ptr (ints_get (D := L) (i := j + 1) c)
      have hp1 := hp1 (j : Int) rfl
      have hq1 := hq1 ((j : Int) + 1) (by omega)
      have hst := inTurnL_step (decide (j % 2 = 0)) L j c
      have hj1 : (j : Int) + 1 - 1 = j := by omega
      have hne := hd j c
      have ht : ((j : Int) + 1).tmod 2 = (((j + 1) % 2 : Nat) : Int) := rfl
      by_cases c2 : j % 2 = 0
      · have ht2 : (j + 1) % 2 = 1 := by omega
        have hs2 : decide ((j + 1) % 2 = 0) = false := decide_eq_false (by omega)
        rw [ht2] at ht
        rw [decide_eq_true c2] at hst hr
        by_cases d : L.getD j 0 < L.getD (j + 1) 0
        · rw [decide_eq_true d] at hst
          simp +decide (disch := first | assumption | (apply GH.ok_push; assumption) | exact cellV_int _ _ | exact cellV_bool _ | omega) only [go_sem, ↓reduceIte, Nat.reduceEqDiff, Nat.reduceAdd, Int.reduceToNat, he, hl, hj1, hp1, hp2, hq1, hq2, d, ht]
          exact ih (m - 1) _ _ _ (by omega) ⟨hlo, rfl, j + 1, by omega, (by simp +decide (disch := first | assumption | (apply GH.ok_push; assumption) | exact cellV_int _ _ | exact cellV_bool _ | omega) only [go_sem, ↓reduceIte, Nat.reduceEqDiff, Nat.reduceAdd, Int.reduceToNat, he]; first | done | exact rfl), by rw [hs2, ← hr, hst]; rfl⟩
        · rw [decide_eq_false d] at hst
          simp +decide (disch := first | assumption | (apply GH.ok_push; assumption) | exact cellV_int _ _ | exact cellV_bool _ | omega) only [go_sem, ↓reduceIte, Nat.reduceEqDiff, Nat.reduceAdd, Int.reduceToNat, he, hl, hj1, hp1, hp2, hq1, hq2, d, ht]
          intro hx0
          refine ⟨hlo, ?_⟩
          rw [← hr, hst]; rfl
      · have ht2 : (j + 1) % 2 = 0 := by omega
        have hs2 : decide ((j + 1) % 2 = 0) = true := decide_eq_true (by omega)
        rw [ht2] at ht
        rw [decide_eq_false c2] at hst hr
        by_cases d : L.getD j 0 < L.getD (j + 1) 0
        · rw [decide_eq_true d] at hst
          simp +decide (disch := first | assumption | (apply GH.ok_push; assumption) | exact cellV_int _ _ | exact cellV_bool _ | omega) only [go_sem, ↓reduceIte, Nat.reduceEqDiff, Nat.reduceAdd, Int.reduceToNat, he, hl, hj1, hp1, hp2, hq1, hq2, d, ht]
          intro hx0
          refine ⟨hlo, ?_⟩
          rw [← hr, hst]; rfl
        · rw [decide_eq_false d] at hst
          have d2 : ¬ L.getD j 0 ≤ L.getD (j + 1) 0 := by omega
          simp +decide (disch := first | assumption | (apply GH.ok_push; assumption) | exact cellV_int _ _ | exact cellV_bool _ | omega) only [go_sem, ↓reduceIte, Nat.reduceEqDiff, Nat.reduceAdd, Int.reduceToNat, he, hl, hj1, hp1, hp2, hq1, hq2, d2, ht]
          exact ih (m - 1) _ _ _ (by omega) ⟨hlo, rfl, j + 1, by omega, (by simp +decide (disch := first | assumption | (apply GH.ok_push; assumption) | exact cellV_int _ _ | exact cellV_bool _ | omega) only [go_sem, ↓reduceIte, Nat.reduceEqDiff, Nat.reduceAdd, Int.reduceToNat, he]; first | done | exact rfl), by rw [hs2, ← hr, hst]; rfl⟩
    · simp +decide (disch := first | assumption | (apply GH.ok_push; assumption) | exact cellV_int _ _ | exact cellV_bool _ | omega) only [go_sem, ↓reduceIte, Nat.reduceEqDiff, Nat.reduceAdd, Int.reduceToNat, he, hl]
      refine out _ _ _ ⟨hlo, ?_⟩
      rw [← hr, inTurnL_end _ L j (by omega)]
/-- What IsWave answers. -/
def waveB (L : List Int) : Bool := decide (rowE L = 0) && inTurnL true L
theorem IsWave_rets {X : Caller} (hX : Xok X) (L : List Int) (hL : L.length ≤ 1000) (s : Value) (g : GH) (hs : SlR g s (ints L)) :
    Rets Try.prog X 15 [s] g (fun v g' lo => g.next ≤ lo ∧ v = .tuple #[.bool (waveB L), .int .i64 (rowE L)]) := by
  refine Rets.run hX.pres p15 (hX.free 15 (by decide) _ _) rfl fun ho => ?_
  simp +decide (disch := first | assumption | (apply GH.ok_push; assumption) | exact cellV_int _ _ | exact cellV_bool _ | omega) only [go_sem, ↓reduceIte, Nat.reduceEqDiff, Nat.reduceAdd, Int.reduceToNat]
  refine CallD.calm (checkRow_rets hX L hL s _ hs) ?_
  rintro v G hx rfl
  have hn := hx.next
  unfold waveB
  by_cases c : rowE L = 0
  · rw [decide_eq_true c]
    simp +decide (disch := first | assumption | (apply GH.ok_push; assumption) | exact cellV_int _ _ | exact cellV_bool _ | omega) only [go_sem, ↓reduceIte, Nat.reduceEqDiff, Nat.reduceAdd, Int.reduceToNat, c]
    refine CallD.calm (isWave_rets hX L hL s _ (hs.ext hx)) ?_
    rintro v G2 hx2 rfl
    have hn := hx2.next
    simp +decide (disch := first | assumption | (apply GH.ok_push; assumption) | exact cellV_int _ _ | exact cellV_bool _ | omega) only [go_sem, ↓reduceIte, Nat.reduceEqDiff, Nat.reduceAdd, Int.reduceToNat]
    intro hx0
    exact ⟨Nat.le_refl _, by simp [c]⟩
  · rw [decide_eq_false c]
    simp +decide (disch := first | assumption | (apply GH.ok_push; assumption) | exact cellV_int _ _ | exact cellV_bool _ | omega) only [go_sem, ↓reduceIte, Nat.reduceEqDiff, Nat.reduceAdd, Int.reduceToNat, c]
    intro hx0
    exact ⟨Nat.le_refl _, by simp [c]⟩
theorem refIsWave_rets {X : Caller} (hX : Xok X) (L : List Int) (hL : L.length ≤ 1000) (s : Value) (g : GH) (hs : SlR g s (ints L)) :
    Rets Try.prog X 16 [s] g (fun v g' lo => g.next ≤ lo ∧ v = .tuple #[.bool (waveB L), .int .i64 (rowE L)]) := by
  refine Rets.run hX.pres p16 (hX.free 16 (by decide) _ _) rfl fun ho => ?_
  simp +decide (disch := first | assumption | (apply GH.ok_push; assumption) | exact cellV_int _ _ | exact cellV_bool _ | omega) only [go_sem, ↓reduceIte, Nat.reduceEqDiff, Nat.reduceAdd, Int.reduceToNat]
  refine CallD.calm (refRow_rets hX L hL s _ hs) ?_
  rintro v G hx rfl
  have hn := hx.next
  unfold waveB
  by_cases c : rowE L = 0
  · rw [decide_eq_true c]
    simp +decide (disch := first | assumption | (apply GH.ok_push; assumption) | exact cellV_int _ _ | exact cellV_bool _ | omega) only [go_sem, ↓reduceIte, Nat.reduceEqDiff, Nat.reduceAdd, Int.reduceToNat, c]
    refine CallD.calm (refWave_rets hX L hL (row_facts c).2.2.1 s _ (hs.ext hx)) ?_
    rintro v G2 hx2 rfl
    have hn := hx2.next
    simp +decide (disch := first | assumption | (apply GH.ok_push; assumption) | exact cellV_int _ _ | exact cellV_bool _ | omega) only [go_sem, ↓reduceIte, Nat.reduceEqDiff, Nat.reduceAdd, Int.reduceToNat]
    intro hx0
    exact ⟨Nat.le_refl _, by simp [c]⟩
  · rw [decide_eq_false c]
    simp +decide (disch := first | assumption | (apply GH.ok_push; assumption) | exact cellV_int _ _ | exact cellV_bool _ | omega) only [go_sem, ↓reduceIte, Nat.reduceEqDiff, Nat.reduceAdd, Int.reduceToNat, c]
    intro hx0
    exact ⟨Nat.le_refl _, by simp [c]⟩
end Go.Proofs.Yteeelcmnlomgmaa
set_option maxRecDepth 100000
set_option maxHeartbeats 8000000
set_option linter.unusedSimpArgs false
set_option linter.unusedVariables false
namespace Go.Proofs.Yteeelcmnlomgmaa
open Go.Ds
/-! ## Rows turned, and their turns -/
def rng (n : Nat) (f : Nat → Int) : List Int := (List.range n).map f
theorem rng_len (n : Nat) (f : Nat → Int) : (rng n f).length = n := by simp [rng]
theorem rng_get {n i : Nat} (f : Nat → Int) (h : i < n) : (rng n f).getD i 0 = f i := by simp [rng, h]
theorem rng_succ (n : Nat) (f : Nat → Int) : rng (n + 1) f = rng n f ++ [f n] := by simp [rng, List.range_succ]
theorem rng_congr {n : Nat} {f h : Nat → Int} (k : ∀ i, i < n → f i = h i) : rng n f = rng n h := by
  unfold rng
  apply List.map_congr_left
  intro i hi
  exact k i (List.mem_range.1 hi)
theorem rng_set {n : Nat} (f : Nat → Int) (c : Nat) (x : Int) : (rng n f).set c x = rng n (fun k => if k = c then x else f k) := by
  apply List.ext_getElem
  · simp [rng]
  · intro i h1 h2
    simp only [rng, List.length_map, List.length_range, List.length_set] at h1 h2
    simp only [rng, List.getElem_set, List.getElem_map, List.getElem_range]
    by_cases q : c = i
    · subst q; simp
    · rw [if_neg q, if_neg (Ne.symm q)]
theorem list_rng (L : List Int) : L = rng L.length (fun i => L.getD i 0) := by
  apply List.ext_getElem
  · simp [rng]
  · intro i h1 h2; simp [rng, h1]
theorem repeat_rng (n : Nat) : repeatN [.int .i64 0] n = ints (rng n fun _ => 0) := by
  rw [repeatN_replicate]
  simp only [ints, rng, List.map_map]
  apply List.ext_getElem <;> simp


def turnL (L : List Int) : List Int := rng L.length (fun r => (L.length : Int) + 1 - L.getD r 0)
theorem turnL_len (L : List Int) : (turnL L).length = L.length := rng_len _ _
theorem mem_getD {L : List Int} {i : Nat} (h : i < L.length) : L.getD i 0 ∈ L := by
  rw [List.getD_eq_getElem?_getD, List.getElem?_eq_getElem h]; exact List.getElem_mem _
def turnedV (L : List Int) : List Int := if rowE L = 0 then turnL L else []
theorem Turned_rets {X : Caller} (hX : Xok X) (L : List Int) (hL : L.length ≤ 1000) (s : Value) (g : GH) (hs : SlR g s (ints L)) :
    Rets Try.prog X 17 [s] g (fun v g' lo => g.next ≤ lo ∧ ∃ u, v = .tuple #[u, .int .i64 (rowE L)] ∧ SlR g' u (ints (turnedV L))) := by
  refine Rets.run hX.pres p17 (hX.free 17 (by decide) _ _) rfl fun ho => ?_
  have hl := hs.len
  rw [ints_len] at hl
  simp +decide (disch := first | assumption | (apply GH.ok_push; assumption) | exact cellV_int _ _ | exact cellV_bool _ | omega) only [go_sem, ↓reduceIte, Nat.reduceEqDiff, Nat.reduceAdd, Int.reduceToNat]
  refine CallD.calm (checkRow_rets hX L hL s _ hs) ?_
  rintro v G hx rfl
  have hn := hx.next
  have hoG := hx.ok ho
  unfold turnedV
  by_cases c : rowE L = 0
  · rw [if_pos c]
    have hf := row_facts c
    have hsG := hs.ext hx
    have hkG := (Kept.refl g).ext hx
    simp +decide (disch := first | assumption | (apply GH.ok_push; assumption) | exact cellV_int _ _ | exact cellV_bool _ | omega) only [go_sem, ↓reduceIte, Nat.reduceEqDiff, Nat.reduceAdd, Int.reduceToNat, c, hl]
    refine Wk.mkslice (n := L.length) (c := L.length) (by simp +decide (disch := first | assumption | (apply GH.ok_push; assumption) | exact cellV_int _ _ | exact cellV_bool _ | omega) only [go_sem, ↓reduceIte, Nat.reduceEqDiff, Nat.reduceAdd, Int.reduceToNat, hl]; first | done | exact rfl) (by simp +decide (disch := first | assumption | (apply GH.ok_push; assumption) | exact cellV_int _ _ | exact cellV_bool _ | omega) only [go_sem, ↓reduceIte, Nat.reduceEqDiff, Nat.reduceAdd, Int.reduceToNat, hl]; first | done | exact rfl) (Nat.le_refl _) (by omega) ?_
    simp +decide (disch := first | assumption | (apply GH.ok_push; assumption) | exact cellV_int _ _ | exact cellV_bool _ | omega) only [go_sem, ↓reduceIte, Nat.reduceEqDiff, Nat.reduceAdd, Int.reduceToNat, hl]
    refine Wk.loops (fun m e g' lo => g.next ≤ lo ∧ Kept G g' ∧ G.next < g'.next ∧ ∃ i : Nat, i + m = L.length ∧ (ev e (.s 0) = s ∧ ev e (.s 5) = .slice (some ⟨G.next, 0, none⟩) L.length L.length ∧ ev e (.s 16) = s ∧ ev e (.s 17) = .int .i64 L.length ∧ ev e (.s 18) = .int .i64 i) ∧ g'.get G.next = cellsOb (ints (rng L.length (fun r => if r < i then (L.length : Int) + 1 - L.getD r 0 else 0))) 3)
      (fun e g' lo => g.next ≤ lo ∧ G.next < g'.next ∧ ev e (.s 5) = .slice (some ⟨G.next, 0, none⟩) L.length L.length ∧ g'.get G.next = cellsOb (ints (turnL L)) 3) (n := L.length) ?_ ?_ ?_
    · refine ⟨Nat.le_refl _, (Kept.refl G).push hoG _, Nat.lt_succ_self _, 0, by omega, (by simp +decide (disch := first | assumption | (apply GH.ok_push; assumption) | exact cellV_int _ _ | exact cellV_bool _ | omega) only [go_sem, ↓reduceIte, Nat.reduceEqDiff, Nat.reduceAdd, Int.reduceToNat, hl]; first | done | exact rfl), ?_⟩
      rw [GH.get_push hoG, if_pos rfl, repeat_rng]
      congr 2
    · rintro e g' lo hog - ⟨hlo, hnx, he, hget⟩
      simp +decide (disch := first | assumption | (apply GH.ok_push; assumption) | exact cellV_int _ _ | exact cellV_bool _ | omega) only [go_sem, ↓reduceIte, Nat.reduceEqDiff, Nat.reduceAdd, Int.reduceToNat, he]
      intro hx0
      rw [c]
      exact ⟨hlo, _, rfl, SlR.whole hget hnx (by rw [ints_len, turnL_len])⟩
    · rintro m e g' lo ho' hl' ih out ⟨hlo, hk, hnx, i, hi, he, hget⟩
      by_cases ci : i < L.length
      · obtain ⟨p, hp1, hp2⟩ := (hsG.kept hk).at (ints_get (D := L) (i := i) ci)
        have hp1 := hp1 (i : Int) rfl
        have hxr := hf.2.2.2 _ (mem_getD ci)
        have hia := iaddrS_at (j := G.next) (n := L.length) (c := L.length) (m := i) (x := (i : Int)) rfl ci
        have hlen : (ints (rng L.length (fun r => if r < i then (L.length : Int) + 1 - L.getD r 0 else 0))).length = L.length := by rw [ints_len, rng_len]
        simp +decide (disch := first | assumption | (apply GH.ok_push; assumption) | exact cellV_int _ _ | exact cellV_bool _ | omega) only [go_sem, ↓reduceIte, Nat.reduceEqDiff, Nat.reduceAdd, Int.reduceToNat, he, hl, hp1, hp2, hia, hget, hlen]
        have hw := Wrote.set (o := cellsOb (splice i (ints (rng L.length (fun r => if r < i then (L.length : Int) + 1 - L.getD r 0 else 0))) [.int .i64 ((L.length : Int) + 1 - L.getD i 0)]) 3) hget Nat.one_ne_zero ho'
        refine ih (m - 1) _ _ _ (by omega) ⟨by omega, hw.kept hk (Nat.le_refl _), hnx, i + 1, by omega, (by simp +decide (disch := first | assumption | (apply GH.ok_push; assumption) | exact cellV_int _ _ | exact cellV_bool _ | omega) only [go_sem, ↓reduceIte, Nat.reduceEqDiff, Nat.reduceAdd, Int.reduceToNat, he]; first | done | exact rfl), ?_⟩
        rw [hw.get, splice_set _ _ _ (by rw [hlen]; exact ci), ints_set, rng_set]
        congr 2
        refine rng_congr fun k hk => ?_
        by_cases hkc : k = i
        · subst hkc; simp
        · rw [if_neg hkc]
          by_cases hkl : k < i
          · rw [if_pos hkl, if_pos (by omega)]
          · rw [if_neg hkl, if_neg (by omega)]
      · simp +decide (disch := first | assumption | (apply GH.ok_push; assumption) | exact cellV_int _ _ | exact cellV_bool _ | omega) only [go_sem, ↓reduceIte, Nat.reduceEqDiff, Nat.reduceAdd, Int.reduceToNat, he]
        refine out _ _ _ ⟨hlo, hnx, (by simp +decide (disch := first | assumption | (apply GH.ok_push; assumption) | exact cellV_int _ _ | exact cellV_bool _ | omega) only [go_sem, ↓reduceIte, Nat.reduceEqDiff, Nat.reduceAdd, Int.reduceToNat, he]; first | done | exact rfl), ?_⟩
        rw [hget]
        congr 2
        refine rng_congr fun k hk => ?_
        rw [if_pos (by omega)]
  · rw [if_neg c]
    simp +decide (disch := first | assumption | (apply GH.ok_push; assumption) | exact cellV_int _ _ | exact cellV_bool _ | omega) only [go_sem, ↓reduceIte, Nat.reduceEqDiff, Nat.reduceAdd, Int.reduceToNat, c]
    intro hx0
    exact ⟨Nat.le_refl _, _, rfl, SlR.nil⟩
theorem refTurned_rets {X : Caller} (hX : Xok X) (L : List Int) (hL : L.length ≤ 1000) (s : Value) (g : GH) (hs : SlR g s (ints L)) :
    Rets Try.prog X 18 [s] g (fun v g' lo => g.next ≤ lo ∧ ∃ u, v = .tuple #[u, .int .i64 (rowE L)] ∧ SlR g' u (ints (turnedV L))) := by
  refine Rets.run hX.pres p18 (hX.free 18 (by decide) _ _) rfl fun ho => ?_
  have hl := hs.len
  rw [ints_len] at hl
  simp +decide (disch := first | assumption | (apply GH.ok_push; assumption) | exact cellV_int _ _ | exact cellV_bool _ | omega) only [go_sem, ↓reduceIte, Nat.reduceEqDiff, Nat.reduceAdd, Int.reduceToNat]
  refine CallD.calm (refRow_rets hX L hL s _ hs) ?_
  rintro v G hx rfl
  have hn := hx.next
  have hoG := hx.ok ho
  unfold turnedV
  by_cases c : rowE L = 0
  · rw [if_pos c]
    have hf := row_facts c
    have hsG := hs.ext hx
    simp +decide (disch := first | assumption | (apply GH.ok_push; assumption) | exact cellV_int _ _ | exact cellV_bool _ | omega) only [go_sem, ↓reduceIte, Nat.reduceEqDiff, Nat.reduceAdd, Int.reduceToNat, c, hl]
    refine Wk.loops (fun m e g' lo => g.next ≤ lo ∧ Kept G g' ∧ ∃ i : Nat, i + m = L.length ∧ (ev e (.s 0) = s ∧ ev e (.s 6) = .int .i64 i) ∧ ∃ o, ev e (.s 5) = o ∧ Own g' o (ints (rng i (fun r => (L.length : Int) + 1 - L.getD r 0))) 3 G.next)
      (fun e g' lo => g.next ≤ lo ∧ ∃ o, ev e (.s 5) = o ∧ Own g' o (ints (turnL L)) 3 G.next) (n := L.length) ?_ ?_ ?_
    · exact ⟨Nat.le_refl _, Kept.refl _, 0, by omega, (by simp +decide (disch := first | assumption | (apply GH.ok_push; assumption) | exact cellV_int _ _ | exact cellV_bool _ | omega) only [go_sem, ↓reduceIte, Nat.reduceEqDiff, Nat.reduceAdd, Int.reduceToNat]; first | done | exact rfl), .slice none 0 0, (by simp +decide (disch := first | assumption | (apply GH.ok_push; assumption) | exact cellV_int _ _ | exact cellV_bool _ | omega) only [go_sem, ↓reduceIte, Nat.reduceEqDiff, Nat.reduceAdd, Int.reduceToNat]; first | done | exact rfl), Own.nil⟩
    · rintro e g' lo hog - ⟨hlo, o, h5, hown⟩
      simp +decide (disch := first | assumption | (apply GH.ok_push; assumption) | exact cellV_int _ _ | exact cellV_bool _ | omega) only [go_sem, ↓reduceIte, Nat.reduceEqDiff, Nat.reduceAdd, Int.reduceToNat, h5]
      intro hx0
      rw [c]
      exact ⟨hlo, _, rfl, hown.read⟩
    · rintro m e g' lo ho' hl' ih out ⟨hlo, hk, i, hi, he, o, h5, hown⟩
      by_cases ci : i < L.length
      · obtain ⟨p, hp1, hp2⟩ := (hsG.kept hk).at (ints_get (D := L) (i := i) ci)
        have hp1 := hp1 (i : Int) rfl
        have hxr := hf.2.2.2 _ (mem_getD ci)
        simp +decide (disch := first | assumption | (apply GH.ok_push; assumption) | exact cellV_int _ _ | exact cellV_bool _ | omega) only [go_sem, ↓reduceIte, Nat.reduceEqDiff, Nat.reduceAdd, Int.reduceToNat, he, h5, hl, hp1, hp2]
        refine AppD.own2 (lw := g.next) (hown.push ho' _) (SlR.one ho' _ _) (by simp) rfl (by simp [ints_len, rng_len]; omega) (by have := hk.next; simp [GH.push]; omega) hlo (by omega) (GH.ok_push ho') (fun s' g3 lo3 sp wr hgr hlo3 => ?_)
        simp +decide (disch := first | assumption | (apply GH.ok_push; assumption) | exact cellV_int _ _ | exact cellV_bool _ | omega) only [go_sem, ↓reduceIte, Nat.reduceEqDiff, Nat.reduceAdd, Int.reduceToNat, he]
        refine ih (m - 1) _ _ _ (by omega) ⟨hlo3, (hk.push ho' _).grew2 hgr (Nat.le_refl _), i + 1, by omega, (by simp +decide (disch := first | assumption | (apply GH.ok_push; assumption) | exact cellV_int _ _ | exact cellV_bool _ | omega) only [go_sem, ↓reduceIte, Nat.reduceEqDiff, Nat.reduceAdd, Int.reduceToNat, he]; first | done | exact rfl), s', (by simp +decide (disch := first | assumption | (apply GH.ok_push; assumption) | exact cellV_int _ _ | exact cellV_bool _ | omega) only [go_sem, ↓reduceIte, Nat.reduceEqDiff, Nat.reduceAdd, Int.reduceToNat]; first | done | exact rfl), ?_⟩
        rw [rng_succ, ints_app]
        exact hgr.own
      · simp +decide (disch := first | assumption | (apply GH.ok_push; assumption) | exact cellV_int _ _ | exact cellV_bool _ | omega) only [go_sem, ↓reduceIte, Nat.reduceEqDiff, Nat.reduceAdd, Int.reduceToNat, he, h5, hl]
        refine out _ _ _ ⟨hlo, o, (by simp +decide (disch := first | assumption | (apply GH.ok_push; assumption) | exact cellV_int _ _ | exact cellV_bool _ | omega) only [go_sem, ↓reduceIte, Nat.reduceEqDiff, Nat.reduceAdd, Int.reduceToNat, h5]; first | done | exact rfl), ?_⟩
        unfold turnL
        rw [show i = L.length by omega] at hown; exact hown
  · rw [if_neg c]
    simp +decide (disch := first | assumption | (apply GH.ok_push; assumption) | exact cellV_int _ _ | exact cellV_bool _ | omega) only [go_sem, ↓reduceIte, Nat.reduceEqDiff, Nat.reduceAdd, Int.reduceToNat, c]
    intro hx0
    exact ⟨Nat.le_refl _, _, rfl, SlR.nil⟩
/-- How many of the first positions but the first are peaks or valleys. -/
def cntT (L : List Int) : Nat → Nat
  | 0 => 0
  | j + 1 => cntT L j + if (decide (L.getD j 0 < L.getD (j + 1) 0) == decide (L.getD (j + 2) 0 < L.getD (j + 1) 0)) = true then 1 else 0
theorem cntT_le (L : List Int) (j : Nat) : cntT L j ≤ j := by
  induction j with
  | zero => exact Nat.le_refl _
  | succ j ih => simp only [cntT]; split <;> omega
def turnsV (L : List Int) : Nat := if rowE L = 0 then cntT L (L.length - 2) else 0
theorem Turns_rets {X : Caller} (hX : Xok X) (L : List Int) (hL : L.length ≤ 1000) (s : Value) (g : GH) (hs : SlR g s (ints L)) :
    Rets Try.prog X 20 [s] g (fun v g' lo => g.next ≤ lo ∧ v = .tuple #[.int .i64 (turnsV L), .int .i64 (rowE L)]) := by
  refine Rets.run hX.pres p20 (hX.free 20 (by decide) _ _) rfl fun ho => ?_
  have hl := hs.len
  rw [ints_len] at hl
  simp +decide (disch := first | assumption | (apply GH.ok_push; assumption) | exact cellV_int _ _ | exact cellV_bool _ | omega) only [go_sem, ↓reduceIte, Nat.reduceEqDiff, Nat.reduceAdd, Int.reduceToNat]
  refine CallD.calm (checkRow_rets hX L hL s _ hs) ?_
  rintro v G hx rfl
  have hn := hx.next
  have hoG := hx.ok ho
  unfold turnsV
  by_cases c : rowE L = 0
  · rw [if_pos c]
    have hsG := hs.ext hx
    simp +decide (disch := first | assumption | (apply GH.ok_push; assumption) | exact cellV_int _ _ | exact cellV_bool _ | omega) only [go_sem, ↓reduceIte, Nat.reduceEqDiff, Nat.reduceAdd, Int.reduceToNat, c, hl]
    refine Wk.loops (fun m e g' lo => g.next ≤ lo ∧ g' = G ∧ ∃ j : Nat, j + m = L.length ∧ (ev e (.s 0) = s ∧ ev e (.s 5) = .int .i64 (cntT L j : Nat) ∧ ev e (.s 6) = .int .i64 (j + 1)) ∧ (j = 0 ∨ j + 2 ≤ L.length))
      (fun e g' lo => g.next ≤ lo ∧ ev e (.s 5) = .int .i64 (cntT L (L.length - 2) : Nat)) (n := L.length) ?_ ?_ ?_
    · exact ⟨Nat.le_refl _, rfl, 0, by omega, (by simp +decide (disch := first | assumption | (apply GH.ok_push; assumption) | exact cellV_int _ _ | exact cellV_bool _ | omega) only [go_sem, ↓reduceIte, Nat.reduceEqDiff, Nat.reduceAdd, Int.reduceToNat]; first | done | exact rfl), .inl rfl⟩
    · rintro e g' lo hog - ⟨hlo, he⟩
      simp +decide (disch := first | assumption | (apply GH.ok_push; assumption) | exact cellV_int _ _ | exact cellV_bool _ | omega) only [go_sem, ↓reduceIte, Nat.reduceEqDiff, Nat.reduceAdd, Int.reduceToNat, he]
      intro hx0
      exact ⟨hlo, by rw [c]⟩
    · rintro m e g' lo ho' hl' ih out ⟨hlo, rfl, j, hj, he, hjj⟩
      have hcj := cntT_le L j
      have hj0 : (j : Int) + 1 - 1 = j := by omega
      by_cases ci : j + 2 < L.length
      · obtain ⟨b1, o1, hb1, hp1, hp2⟩ := hsG.ptr (ints_get (D := L) (i := j) (by omega))
        obtain ⟨b2, o2, hb2, hq1, hq2⟩ := hsG.ptr (ints_get (D := L) (i := j + 1) (by omega))
        obtain ⟨b3, o3, hb3, hr1, hr2⟩ := hsG.ptr (ints_get (D := L) (i := j + 2) ci)
        have hp1 := hp1 (j : Int) rfl
        have hq1 := hq1 ((j : Int) + 1) (by omega)
        have hr1 := hr1 ((j : Int) + 1 + 1) (by omega)
        have hst : cntT L (j + 1) = cntT L j + if (decide (L.getD j 0 < L.getD (j + 1) 0) == decide (L.getD (j + 2) 0 < L.getD (j + 1) 0)) = true then 1 else 0 := rfl
        by_cases d1 : L.getD j 0 < L.getD (j + 1) 0
        · by_cases d2 : L.getD (j + 2) 0 < L.getD (j + 1) 0
          · rw [decide_eq_true d1, decide_eq_true d2, if_pos (by decide)] at hst
            simp +decide (disch := first | assumption | (apply GH.ok_push; assumption) | exact cellV_int _ _ | exact cellV_bool _ | omega) only [go_sem, ↓reduceIte, Nat.reduceEqDiff, Nat.reduceAdd, Int.reduceToNat, he, hl, hj0, hp1, hp2, hq1, hq2, hr1, hr2, d1, d2]
            exact ih (m - 1) _ _ _ (by omega) ⟨hlo, rfl, j + 1, by omega, by rw [hst]; exact (by simp +decide (disch := first | assumption | (apply GH.ok_push; assumption) | exact cellV_int _ _ | exact cellV_bool _ | omega) only [go_sem, ↓reduceIte, Nat.reduceEqDiff, Nat.reduceAdd, Int.reduceToNat, he]; first | done | exact rfl), .inr (by omega)⟩
          · rw [decide_eq_true d1, decide_eq_false d2, if_neg (by decide)] at hst
            simp +decide (disch := first | assumption | (apply GH.ok_push; assumption) | exact cellV_int _ _ | exact cellV_bool _ | omega) only [go_sem, ↓reduceIte, Nat.reduceEqDiff, Nat.reduceAdd, Int.reduceToNat, he, hl, hj0, hp1, hp2, hq1, hq2, hr1, hr2, d1, d2]
            exact ih (m - 1) _ _ _ (by omega) ⟨hlo, rfl, j + 1, by omega, by rw [hst]; exact (by simp +decide (disch := first | assumption | (apply GH.ok_push; assumption) | exact cellV_int _ _ | exact cellV_bool _ | omega) only [go_sem, ↓reduceIte, Nat.reduceEqDiff, Nat.reduceAdd, Int.reduceToNat, he]; first | done | exact rfl), .inr (by omega)⟩
        · by_cases d2 : L.getD (j + 2) 0 < L.getD (j + 1) 0
          · rw [decide_eq_false d1, decide_eq_true d2, if_neg (by decide)] at hst
            simp +decide (disch := first | assumption | (apply GH.ok_push; assumption) | exact cellV_int _ _ | exact cellV_bool _ | omega) only [go_sem, ↓reduceIte, Nat.reduceEqDiff, Nat.reduceAdd, Int.reduceToNat, he, hl, hj0, hp1, hp2, hq1, hq2, hr1, hr2, d1, d2]
            exact ih (m - 1) _ _ _ (by omega) ⟨hlo, rfl, j + 1, by omega, by rw [hst]; exact (by simp +decide (disch := first | assumption | (apply GH.ok_push; assumption) | exact cellV_int _ _ | exact cellV_bool _ | omega) only [go_sem, ↓reduceIte, Nat.reduceEqDiff, Nat.reduceAdd, Int.reduceToNat, he]; first | done | exact rfl), .inr (by omega)⟩
          · rw [decide_eq_false d1, decide_eq_false d2, if_pos (by decide)] at hst
            simp +decide (disch := first | assumption | (apply GH.ok_push; assumption) | exact cellV_int _ _ | exact cellV_bool _ | omega) only [go_sem, ↓reduceIte, Nat.reduceEqDiff, Nat.reduceAdd, Int.reduceToNat, he, hl, hj0, hp1, hp2, hq1, hq2, hr1, hr2, d1, d2]
            exact ih (m - 1) _ _ _ (by omega) ⟨hlo, rfl, j + 1, by omega, by rw [hst]; exact (by simp +decide (disch := first | assumption | (apply GH.ok_push; assumption) | exact cellV_int _ _ | exact cellV_bool _ | omega) only [go_sem, ↓reduceIte, Nat.reduceEqDiff, Nat.reduceAdd, Int.reduceToNat, he]; first | done | exact rfl), .inr (by omega)⟩
      · simp +decide (disch := first | assumption | (apply GH.ok_push; assumption) | exact cellV_int _ _ | exact cellV_bool _ | omega) only [go_sem, ↓reduceIte, Nat.reduceEqDiff, Nat.reduceAdd, Int.reduceToNat, he, hl]
        refine out _ _ _ ⟨hlo, ?_⟩
        rw [show L.length - 2 = j by omega]
        exact (by simp +decide (disch := first | assumption | (apply GH.ok_push; assumption) | exact cellV_int _ _ | exact cellV_bool _ | omega) only [go_sem, ↓reduceIte, Nat.reduceEqDiff, Nat.reduceAdd, Int.reduceToNat, he]; first | done | exact rfl)
  · rw [if_neg c]
    simp +decide (disch := first | assumption | (apply GH.ok_push; assumption) | exact cellV_int _ _ | exact cellV_bool _ | omega) only [go_sem, ↓reduceIte, Nat.reduceEqDiff, Nat.reduceAdd, Int.reduceToNat, c]
    intro hx0
    exact ⟨Nat.le_refl _, rfl⟩
theorem refTurns_rets {X : Caller} (hX : Xok X) (L : List Int) (hL : L.length ≤ 1000) (s : Value) (g : GH) (hs : SlR g s (ints L)) :
    Rets Try.prog X 21 [s] g (fun v g' lo => g.next ≤ lo ∧ v = .tuple #[.int .i64 (turnsV L), .int .i64 (rowE L)]) := by
  refine Rets.run hX.pres p21 (hX.free 21 (by decide) _ _) rfl fun ho => ?_
  have hl := hs.len
  rw [ints_len] at hl
  simp +decide (disch := first | assumption | (apply GH.ok_push; assumption) | exact cellV_int _ _ | exact cellV_bool _ | omega) only [go_sem, ↓reduceIte, Nat.reduceEqDiff, Nat.reduceAdd, Int.reduceToNat]
  refine CallD.calm (refRow_rets hX L hL s _ hs) ?_
  rintro v G hx rfl
  have hn := hx.next
  have hoG := hx.ok ho
  have hsG := hs.ext hx
  simp +decide (disch := first | assumption | (apply GH.ok_push; assumption) | exact cellV_int _ _ | exact cellV_bool _ | omega) only [go_sem, ↓reduceIte, Nat.reduceEqDiff, Nat.reduceAdd, Int.reduceToNat]
  refine Wk.loops (fun m e g' lo => g.next ≤ lo ∧ g' = G ∧ ∃ j : Nat, j + m = L.length ∧ (ev e (.s 0) = s ∧ ev e (.s 4) = .int .i64 (rowE L) ∧ ev e (.s 5) = .int .i64 (cntT L j : Nat) ∧ ev e (.s 6) = .int .i64 (j + 1)) ∧ (j = 0 ∨ j + 2 ≤ L.length) ∧ (rowE L ≠ 0 → j = 0))
    (fun e g' lo => g.next ≤ lo ∧ ev e (.s 4) = .int .i64 (rowE L) ∧ ev e (.s 5) = .int .i64 (turnsV L : Nat)) (n := L.length) ?_ ?_ ?_
  · exact ⟨Nat.le_refl _, rfl, 0, by omega, (by simp +decide (disch := first | assumption | (apply GH.ok_push; assumption) | exact cellV_int _ _ | exact cellV_bool _ | omega) only [go_sem, ↓reduceIte, Nat.reduceEqDiff, Nat.reduceAdd, Int.reduceToNat]; first | done | exact rfl), .inl rfl, fun _ => rfl⟩
  · rintro e g' lo hog - ⟨hlo, he⟩
    simp +decide (disch := first | assumption | (apply GH.ok_push; assumption) | exact cellV_int _ _ | exact cellV_bool _ | omega) only [go_sem, ↓reduceIte, Nat.reduceEqDiff, Nat.reduceAdd, Int.reduceToNat, he]
    intro hx0
    exact ⟨hlo, rfl⟩
  · rintro m e g' lo ho' hl' ih out ⟨hlo, rfl, j, hj, he, hjj, hj00⟩
    have hcj := cntT_le L j
    have hj0 : (j : Int) + 1 - 1 = j := by omega
    by_cases c : rowE L = 0
    · by_cases ci : j + 2 < L.length
      · obtain ⟨b1, o1, hb1, hp1, hp2⟩ := hsG.ptr (ints_get (D := L) (i := j) (by omega))
        obtain ⟨b2, o2, hb2, hq1, hq2⟩ := hsG.ptr (ints_get (D := L) (i := j + 1) (by omega))
        obtain ⟨b3, o3, hb3, hr1, hr2⟩ := hsG.ptr (ints_get (D := L) (i := j + 2) ci)
        have hp1 := hp1 (j : Int) rfl
        have hq1 := hq1 ((j : Int) + 1) (by omega)
        have hr1 := hr1 ((j : Int) + 1 + 1) (by omega)
        have hst : cntT L (j + 1) = cntT L j + if (decide (L.getD j 0 < L.getD (j + 1) 0) == decide (L.getD (j + 2) 0 < L.getD (j + 1) 0)) = true then 1 else 0 := rfl
        by_cases d1 : L.getD j 0 < L.getD (j + 1) 0
        · by_cases d2 : L.getD (j + 2) 0 < L.getD (j + 1) 0
          · rw [decide_eq_true d1, decide_eq_true d2, if_pos (by decide)] at hst
            simp +decide (disch := first | assumption | (apply GH.ok_push; assumption) | exact cellV_int _ _ | exact cellV_bool _ | omega) only [go_sem, ↓reduceIte, Nat.reduceEqDiff, Nat.reduceAdd, Int.reduceToNat, he, hl, hj0, hp1, hp2, hq1, hq2, hr1, hr2, d1, d2, c]
            exact ih (m - 1) _ _ _ (by omega) ⟨hlo, rfl, j + 1, by omega, by rw [hst]; exact (by simp +decide (disch := first | assumption | (apply GH.ok_push; assumption) | exact cellV_int _ _ | exact cellV_bool _ | omega) only [go_sem, ↓reduceIte, Nat.reduceEqDiff, Nat.reduceAdd, Int.reduceToNat, he]; first | done | exact rfl), .inr (by omega), fun h => absurd c h⟩
          · rw [decide_eq_true d1, decide_eq_false d2, if_neg (by decide)] at hst
            simp +decide (disch := first | assumption | (apply GH.ok_push; assumption) | exact cellV_int _ _ | exact cellV_bool _ | omega) only [go_sem, ↓reduceIte, Nat.reduceEqDiff, Nat.reduceAdd, Int.reduceToNat, he, hl, hj0, hp1, hp2, hq1, hq2, hr1, hr2, d1, d2, c]
            exact ih (m - 1) _ _ _ (by omega) ⟨hlo, rfl, j + 1, by omega, by rw [hst]; exact (by simp +decide (disch := first | assumption | (apply GH.ok_push; assumption) | exact cellV_int _ _ | exact cellV_bool _ | omega) only [go_sem, ↓reduceIte, Nat.reduceEqDiff, Nat.reduceAdd, Int.reduceToNat, he]; first | done | exact rfl), .inr (by omega), fun h => absurd c h⟩
        · by_cases d2 : L.getD (j + 2) 0 < L.getD (j + 1) 0
          · rw [decide_eq_false d1, decide_eq_true d2, if_neg (by decide)] at hst
            simp +decide (disch := first | assumption | (apply GH.ok_push; assumption) | exact cellV_int _ _ | exact cellV_bool _ | omega) only [go_sem, ↓reduceIte, Nat.reduceEqDiff, Nat.reduceAdd, Int.reduceToNat, he, hl, hj0, hp1, hp2, hq1, hq2, hr1, hr2, d1, d2, c]
            exact ih (m - 1) _ _ _ (by omega) ⟨hlo, rfl, j + 1, by omega, by rw [hst]; exact (by simp +decide (disch := first | assumption | (apply GH.ok_push; assumption) | exact cellV_int _ _ | exact cellV_bool _ | omega) only [go_sem, ↓reduceIte, Nat.reduceEqDiff, Nat.reduceAdd, Int.reduceToNat, he]; first | done | exact rfl), .inr (by omega), fun h => absurd c h⟩
          · rw [decide_eq_false d1, decide_eq_false d2, if_pos (by decide)] at hst
            simp +decide (disch := first | assumption | (apply GH.ok_push; assumption) | exact cellV_int _ _ | exact cellV_bool _ | omega) only [go_sem, ↓reduceIte, Nat.reduceEqDiff, Nat.reduceAdd, Int.reduceToNat, he, hl, hj0, hp1, hp2, hq1, hq2, hr1, hr2, d1, d2, c]
            exact ih (m - 1) _ _ _ (by omega) ⟨hlo, rfl, j + 1, by omega, by rw [hst]; exact (by simp +decide (disch := first | assumption | (apply GH.ok_push; assumption) | exact cellV_int _ _ | exact cellV_bool _ | omega) only [go_sem, ↓reduceIte, Nat.reduceEqDiff, Nat.reduceAdd, Int.reduceToNat, he]; first | done | exact rfl), .inr (by omega), fun h => absurd c h⟩
      · simp +decide (disch := first | assumption | (apply GH.ok_push; assumption) | exact cellV_int _ _ | exact cellV_bool _ | omega) only [go_sem, ↓reduceIte, Nat.reduceEqDiff, Nat.reduceAdd, Int.reduceToNat, he, hl]
        refine out _ _ _ ⟨hlo, ?_⟩
        unfold turnsV
        rw [if_pos c, show L.length - 2 = j by omega]
        exact (by simp +decide (disch := first | assumption | (apply GH.ok_push; assumption) | exact cellV_int _ _ | exact cellV_bool _ | omega) only [go_sem, ↓reduceIte, Nat.reduceEqDiff, Nat.reduceAdd, Int.reduceToNat, he]; first | done | exact rfl)
    · have := hj00 c
      subst this
      have hv : turnsV L = cntT L 0 := by unfold turnsV; rw [if_neg c]; rfl
      rw [← hv] at he
      by_cases ci : 0 + 2 < L.length
      · simp +decide (disch := first | assumption | (apply GH.ok_push; assumption) | exact cellV_int _ _ | exact cellV_bool _ | omega) only [go_sem, ↓reduceIte, Nat.reduceEqDiff, Nat.reduceAdd, Int.reduceToNat, he, hl, c]
        exact out _ _ _ ⟨hlo, (by simp +decide (disch := first | assumption | (apply GH.ok_push; assumption) | exact cellV_int _ _ | exact cellV_bool _ | omega) only [go_sem, ↓reduceIte, Nat.reduceEqDiff, Nat.reduceAdd, Int.reduceToNat, he]; first | done | exact rfl)⟩
      · simp +decide (disch := first | assumption | (apply GH.ok_push; assumption) | exact cellV_int _ _ | exact cellV_bool _ | omega) only [go_sem, ↓reduceIte, Nat.reduceEqDiff, Nat.reduceAdd, Int.reduceToNat, he, hl, c]
        exact out _ _ _ ⟨hlo, (by simp +decide (disch := first | assumption | (apply GH.ok_push; assumption) | exact cellV_int _ _ | exact cellV_bool _ | omega) only [go_sem, ↓reduceIte, Nat.reduceEqDiff, Nat.reduceAdd, Int.reduceToNat, he]; first | done | exact rfl)⟩
end Go.Proofs.Yteeelcmnlomgmaa
set_option maxRecDepth 100000
set_option maxHeartbeats 8000000
set_option linter.unusedSimpArgs false
set_option linter.unusedVariables false
namespace Go.Proofs.Yteeelcmnlomgmaa
open Go.Ds
/-! ## Rows, turned and read backwards -/
theorem rowGo_of {n : Nat} : ∀ {l seen : List Int}, l.Nodup → (∀ x ∈ l, x ∉ seen ∧ 1 ≤ x ∧ x ≤ n) → rowGo n seen l = true
  | [], _, _, _ => rfl
  | a :: l, seen, h, k => by
    have h1 := List.nodup_cons.1 h
    have ka := k a (List.mem_cons_self)
    simp only [rowGo, Bool.and_eq_true, decide_eq_true_eq]
    refine ⟨⟨ka.2.1, ka.2.2, ka.1⟩, rowGo_of h1.2 fun x hx => ?_⟩
    have kx := k x (List.mem_cons_of_mem _ hx)
    refine ⟨fun hs => ?_, kx.2⟩
    rcases List.mem_append.1 hs with h2 | h2
    · exact kx.1 h2
    · rw [List.mem_singleton.1 h2] at hx
      exact h1.1 hx
theorem rowE_of {L : List Int} (h : L.length ≤ 10) (hn : L.Nodup) (hr : ∀ x ∈ L, 1 ≤ x ∧ x ≤ L.length) : rowE L = 0 := by
  unfold rowE
  rw [if_neg (by omega), rowGo_of hn (fun x hx => ⟨by simp, hr x hx⟩)]; rfl
theorem turnL_map (L : List Int) : turnL L = L.map (fun x => (L.length : Int) + 1 - x) := by
  apply List.ext_getElem
  · simp [turnL_len]
  · intro i h1 h2
    rw [turnL_len] at h1
    simp [turnL, rng, h1]
theorem turnL_row {L : List Int} (h : rowE L = 0) : rowE (turnL L) = 0 := by
  obtain ⟨h1, h2, h3, h4⟩ := row_facts h
  refine rowE_of (by rw [turnL_len]; exact h1) ?_ fun x hx => ?_
  · rw [turnL_map]
    unfold List.Nodup at h2 ⊢
    rw [List.pairwise_map]
    exact h2.imp fun {a b} hab he => hab (by omega)
  · rw [turnL_map, List.mem_map] at hx
    obtain ⟨y, hy, rfl⟩ := hx
    have := h4 y hy
    rw [turnL_len]
    omega
theorem turnL_get {L : List Int} {j : Nat} (h : j < L.length) : (turnL L).getD j 0 = (L.length : Int) + 1 - L.getD j 0 := rng_get _ h
theorem turnL_turnL (L : List Int) : turnL (turnL L) = L := by
  conv => rhs; rw [list_rng L]
  unfold turnL
  rw [rng_len]
  refine rng_congr fun i hi => ?_
  rw [rng_get _ hi]
  omega
theorem rev_row {L : List Int} (h : rowE L = 0) : rowE L.reverse = 0 := by
  obtain ⟨h1, h2, h3, h4⟩ := row_facts h
  refine rowE_of (by simpa using h1) ?_ fun x hx => ?_
  · unfold List.Nodup at h2 ⊢
    rw [List.pairwise_reverse]
    exact h2.imp fun {a b} hab he => hab he.symm
  · have := h4 x (List.mem_reverse.1 hx)
    simpa using this
/-- Up at the place j? -/
def sgn (L : List Int) (j : Nat) : Bool := decide (L.getD j 0 < L.getD (j + 1) 0)
theorem inTurnL_iff : ∀ (L : List Int) (up : Bool), inTurnL up L = true ↔ ∀ j, j + 1 < L.length → sgn L j = (if j % 2 = 0 then up else !up)
  | [], up => ⟨fun _ j h => by simp at h, fun _ => rfl⟩
  | [a], up => ⟨fun _ j h => by simp at h, fun _ => rfl⟩
  | a :: b :: l, up => by
    rw [inTurnL, Bool.and_eq_true, inTurnL_iff (b :: l) (!up), beq_iff_eq]
    constructor
    · rintro ⟨h1, h2⟩ j hj
      cases j with
      | zero => simpa [sgn] using h1
      | succ j =>
        have := h2 j (by simpa using hj)
        have e : sgn (a :: b :: l) (j + 1) = sgn (b :: l) j := by simp [sgn]
        rw [e, this]
        by_cases c : j % 2 = 0
        · rw [if_pos c, if_neg (by omega)]
        · rw [if_neg c, if_pos (by omega)]; simp
    · intro h
      refine ⟨by have := h 0 (by simp); simpa [sgn] using this, fun j hj => ?_⟩
      have := h (j + 1) (by simpa using hj)
      have e : sgn (a :: b :: l) (j + 1) = sgn (b :: l) j := by simp [sgn]
      rw [e] at this
      rw [this]
      by_cases c : j % 2 = 0
      · rw [if_pos c, if_neg (by omega)]
      · rw [if_neg c, if_pos (by omega)]; simp
theorem sgn_turn {L : List Int} (hd : Diff L) {j : Nat} (h : j + 1 < L.length) : sgn (turnL L) j = !sgn L j := by
  unfold sgn
  rw [turnL_get (by omega), turnL_get h]
  have := hd j h
  by_cases c : L.getD j 0 < L.getD (j + 1) 0
  · rw [decide_eq_true c, decide_eq_false (by omega)]; rfl
  · rw [decide_eq_false c, decide_eq_true (by omega)]; rfl
theorem cntT_all (L : List Int) : ∀ m, cntT L m = m ↔ ∀ j, j < m → (sgn L j == decide (L.getD (j + 2) 0 < L.getD (j + 1) 0)) = true
  | 0 => ⟨fun _ j h => by omega, fun _ => rfl⟩
  | m + 1 => by
    have hle := cntT_le L m
    have ih := cntT_all L m
    have e : cntT L (m + 1) = cntT L m + if (sgn L m == decide (L.getD (m + 2) 0 < L.getD (m + 1) 0)) = true then 1 else 0 := rfl
    constructor
    · intro h j hj
      rw [e] at h
      by_cases c : (sgn L m == decide (L.getD (m + 2) 0 < L.getD (m + 1) 0)) = true
      · rw [if_pos c] at h
        by_cases d : j = m
        · subst d; exact c
        · exact ih.1 (by omega) j (by omega)
      · rw [if_neg c] at h; omega
    · intro h
      rw [e, if_pos (h m (by omega)), ih.2 fun j hj => h j (by omega)]
theorem sgn_next {L : List Int} (hd : Diff L) {j : Nat} (h : j + 2 < L.length) : decide (L.getD (j + 2) 0 < L.getD (j + 1) 0) = !sgn L (j + 1) := by
  unfold sgn
  have := hd (j + 1) h
  by_cases c : L.getD (j + 1) 0 < L.getD (j + 1 + 1) 0
  · rw [decide_eq_true c, decide_eq_false (by show ¬ L.getD (j + 1 + 1) 0 < _; omega)]; rfl
  · rw [decide_eq_false c, decide_eq_true (by show L.getD (j + 1 + 1) 0 < _; omega)]; rfl
theorem turns_wave {L : List Int} (hd : Diff L) (h2 : 2 ≤ L.length) : (inTurnL true L || inTurnL true (turnL L)) = decide (cntT L (L.length - 2) = L.length - 2) := by
  have hall : cntT L (L.length - 2) = L.length - 2 ↔ ∀ j, j + 1 < L.length → sgn L j = (if j % 2 = 0 then sgn L 0 else !sgn L 0) := by
    rw [cntT_all]
    constructor
    · intro h j
      induction j with
      | zero => intro _; rfl
      | succ j ih =>
        intro hj
        have h1 := ih (by omega)
        have h3 := h j (by omega)
        rw [sgn_next hd (by omega), beq_iff_eq] at h3
        have h4 : sgn L (j + 1) = !sgn L j := by rw [h3]; simp
        rw [h4, h1]
        by_cases c : j % 2 = 0
        · rw [if_pos c, if_neg (by omega)]
        · rw [if_neg c, if_pos (by omega)]; simp
    · intro h j hj
      rw [sgn_next hd (by omega), h j (by omega), h (j + 1) (by omega), beq_iff_eq]
      by_cases c : j % 2 = 0
      · rw [if_pos c, if_neg (by omega)]; simp
      · rw [if_neg c, if_pos (by omega)]
  have hA := inTurnL_iff L true
  have hB := inTurnL_iff (turnL L) true
  rw [turnL_len] at hB
  by_cases c : cntT L (L.length - 2) = L.length - 2
  · rw [decide_eq_true c]
    have hs := hall.1 c
    cases h0 : sgn L 0 with
    | true =>
      rw [h0] at hs
      rw [hA.2 hs]; rfl
    | false =>
      rw [h0] at hs
      rw [hB.2 fun j hj => by rw [sgn_turn hd hj, hs j hj]; by_cases c : j % 2 = 0 <;> simp [c]]
      simp
  · rw [decide_eq_false c, Bool.or_eq_false_iff]
    refine ⟨Bool.eq_false_iff.2 fun h => c (hall.2 fun j hj => ?_), Bool.eq_false_iff.2 fun h => c (hall.2 fun j hj => ?_)⟩
    · have h0 := hA.1 h 0 (by omega)
      rw [hA.1 h j hj, h0]; rfl
    · have h0 := hB.1 h 0 (by omega)
      have hj2 := hB.1 h j hj
      rw [sgn_turn hd (by omega)] at h0
      rw [sgn_turn hd hj] at hj2
      have e0 : sgn L 0 = false := by simpa using h0
      rw [e0]
      by_cases c : j % 2 = 0
      · rw [if_pos c] at hj2 ⊢; simpa using hj2
      · rw [if_neg c] at hj2 ⊢; simpa using hj2
theorem back_wave {L : List Int} (hd : Diff L) (he : L.length % 2 = 0) (h : inTurnL true L = true) : inTurnL true (turnL L).reverse = true := by
  rw [inTurnL_iff] at h ⊢
  intro i hi
  rw [List.length_reverse, turnL_len] at hi
  have hr : ∀ k, k < L.length → (turnL L).reverse.getD k 0 = (turnL L).getD (L.length - 1 - k) 0 := by
    intro k hk
    rw [List.getD_eq_getElem?_getD, List.getD_eq_getElem?_getD, List.getElem?_reverse (by rw [turnL_len]; exact hk), turnL_len]
  have h1 := h (L.length - 2 - i) (by omega)
  unfold sgn at h1 ⊢
  rw [hr i (by omega), hr (i + 1) (by omega), turnL_get (by omega), turnL_get (by omega)]
  rw [show L.length - 2 - i + 1 = L.length - 1 - i by omega] at h1
  rw [show L.length - 1 - (i + 1) = L.length - 2 - i by omega]
  have e : decide ((L.length : Int) + 1 - L.getD (L.length - 1 - i) 0 < (L.length : Int) + 1 - L.getD (L.length - 2 - i) 0) = decide (L.getD (L.length - 2 - i) 0 < L.getD (L.length - 1 - i) 0) := by
    congr 1
    apply propext
    omega
  rw [e, h1]
  by_cases c : i % 2 = 0
  · rw [if_pos c, if_pos (by omega)]
  · rw [if_neg c, if_neg (by omega)]
end Go.Proofs.Yteeelcmnlomgmaa
set_option maxRecDepth 100000
set_option maxHeartbeats 8000000
set_option linter.unusedSimpArgs false
set_option linter.unusedVariables false
namespace Go.Proofs.Yteeelcmnlomgmaa
open Go.Ds
theorem waveB_row {L : List Int} (h : rowE L = 0) : waveB L = inTurnL true L := by unfold waveB; rw [decide_eq_true h]; rfl
theorem turnedV_row {L : List Int} (h : rowE L = 0) : turnedV L = turnL L := if_pos h
theorem turnedLaw_rets {X : Caller} (hX : Xok X) (L : List Int) (s : Value) (g : GH) (hs : SlR g s (ints L)) :
    Rets Try.prog X 10 [s] g (fun v g' lo => g.next ≤ lo ∧ v = .bool true) := by
  have e0 : ∀ a b : Value, extF (.tuple #[a, b]) 0 = some a := fun _ _ => rfl
  have e1 : ∀ a b : Value, extF (.tuple #[a, b]) 1 = some b := fun _ _ => rfl
  refine Rets.run hX.pres p10 (hX.free 10 (by decide) _ _) rfl fun ho => ?_
  have hl := hs.len
  rw [ints_len] at hl
  by_cases c60 : (60 : Int) < L.length
  · simp +decide (disch := first | assumption | (apply GH.ok_push; assumption) | exact cellV_int _ _ | exact cellV_bool _ | omega) only [go_sem, ↓reduceIte, Nat.reduceEqDiff, Nat.reduceAdd, Int.reduceToNat, hl]
    refine CallD.calm (hX.alive _) ?_
    rintro v G1 hx rfl
    simp +decide (disch := first | assumption | (apply GH.ok_push; assumption) | exact cellV_int _ _ | exact cellV_bool _ | omega) only [go_sem, ↓reduceIte, Nat.reduceEqDiff, Nat.reduceAdd, Int.reduceToNat]
    intro hx0
    exact ⟨Nat.le_refl _, rfl⟩
  · simp +decide (disch := first | assumption | (apply GH.ok_push; assumption) | exact cellV_int _ _ | exact cellV_bool _ | omega) only [go_sem, ↓reduceIte, Nat.reduceEqDiff, Nat.reduceAdd, Int.reduceToNat, hl]
    refine CallD.calm (refRow_rets hX L (by omega) s _ hs) ?_
    rintro v G1 hx1 rfl
    have hn1 := hx1.next
    by_cases c : rowE L = 0
    · have hf := row_facts c
      have hs1 := hs.ext hx1
      simp +decide (disch := first | assumption | (apply GH.ok_push; assumption) | exact cellV_int _ _ | exact cellV_bool _ | omega) only [go_sem, ↓reduceIte, Nat.reduceEqDiff, Nat.reduceAdd, Int.reduceToNat, c, hl]
      refine CallD.calm (IsWave_rets hX L (by omega) s _ hs1) ?_
      rintro v G2 hx2 rfl
      have hn2 := hx2.next
      have hs2 := hs1.ext hx2
      rw [c, waveB_row c]
      simp +decide (disch := first | assumption | (apply GH.ok_push; assumption) | exact cellV_int _ _ | exact cellV_bool _ | omega) only [go_sem, ↓reduceIte, Nat.reduceEqDiff, Nat.reduceAdd, Int.reduceToNat, e0, e1]
      refine CallD.calm (Turned_rets hX L (by omega) s _ hs2) ?_
      rintro v G3 hx3 ⟨u, rfl, hu3⟩
      have hn3 := hx3.next
      have hs3 := hs2.ext hx3
      rw [turnedV_row c] at hu3
      rw [c]
      have cT := turnL_row c
      have hTl : (turnL L).length ≤ 1000 := by rw [turnL_len]; omega
      simp +decide (disch := first | assumption | (apply GH.ok_push; assumption) | exact cellV_int _ _ | exact cellV_bool _ | omega) only [go_sem, ↓reduceIte, Nat.reduceEqDiff, Nat.reduceAdd, Int.reduceToNat, e0, e1]
      refine CallD.calm (IsWave_rets hX (turnL L) hTl u _ hu3) ?_
      rintro v G4 hx4 rfl
      have hn4 := hx4.next
      have hs4 := hs3.ext hx4
      have hu4 := hu3.ext hx4
      rw [cT, waveB_row cT]
      simp +decide (disch := first | assumption | (apply GH.ok_push; assumption) | exact cellV_int _ _ | exact cellV_bool _ | omega) only [go_sem, ↓reduceIte, Nat.reduceEqDiff, Nat.reduceAdd, Int.reduceToNat, e0, e1]
      refine CallD.calm (Turned_rets hX (turnL L) hTl u _ hu4) ?_
      rintro v G5 hx5 ⟨w, rfl, hw5⟩
      have hn5 := hx5.next
      have hs5 := hs4.ext hx5
      have hu5 := hu4.ext hx5
      rw [turnedV_row cT, turnL_turnL] at hw5
      rw [cT]
      simp +decide (disch := first | assumption | (apply GH.ok_push; assumption) | exact cellV_int _ _ | exact cellV_bool _ | omega) only [go_sem, ↓reduceIte, Nat.reduceEqDiff, Nat.reduceAdd, Int.reduceToNat, e0, e1]
      refine CallD.calm (Turns_rets hX L (by omega) s _ hs5) ?_
      rintro v G6 hx6 rfl
      have hn6 := hx6.next
      have hs6 := hs5.ext hx6
      have hu6 := hu5.ext hx6
      have hw6 := hw5.ext hx6
      rw [c]
      have hcn : turnsV L = cntT L (L.length - 2) := if_pos c
      rw [hcn]
      have hcle := cntT_le L (L.length - 2)
      simp +decide (disch := first | assumption | (apply GH.ok_push; assumption) | exact cellV_int _ _ | exact cellV_bool _ | omega) only [go_sem, ↓reduceIte, Nat.reduceEqDiff, Nat.reduceAdd, Int.reduceToNat, e0, e1]
      refine CallD.calm (same_rets hX L L (by omega) (by omega) w s _ hw6 hs6) ?_
      rintro v G7 hx7 rfl
      have hn7 := hx7.next
      have hu7 := hu6.ext hx7
      have hself : decide (L = L) = true := decide_eq_true rfl
      have htw := turns_wave hf.2.2.1 (L := L)
      have hback := back_wave hf.2.2.1 (L := L)
      obtain ⟨cn, hcn2⟩ : ∃ cn, cntT L (L.length - 2) = cn := ⟨_, rfl⟩
      rw [hcn2] at htw hcle
      obtain ⟨ta, hta⟩ : ∃ b, inTurnL true (turnL L) = b := ⟨_, rfl⟩
      obtain ⟨la, hla⟩ : ∃ b, inTurnL true L = b := ⟨_, rfl⟩
      rw [hta, hla] at htw
      rw [hla] at hback
      rw [hself]
      have hul := hu7.len
      rw [ints_len, turnL_len] at hul
      have hm0 : (L.length : Int) - 1 - 0 = L.length - 1 := by omega
      have hmod : (L.length : Int).tmod 2 = ((L.length % 2 : Nat) : Int) := rfl
      cases la with
      | true =>
        by_cases c2 : 2 ≤ L.length
        · have hk := htw c2
          rw [Bool.true_or] at hk
          have hk2 := of_decide_eq_true hk.symm
          have hk3 : (cn : Int) = (L.length : Int) - 2 := by omega
          rw [hcn2, hla]
          by_cases par : L.length % 2 = 0
          · rw [par] at hmod
            simp +decide (disch := first | assumption | (apply GH.ok_push; assumption) | exact cellV_int _ _ | exact cellV_bool _ | omega) only [go_sem, ↓reduceIte, Nat.reduceEqDiff, Nat.reduceAdd, Int.reduceToNat, hk3, e0, e1, hmod, hul]
            refine Wk.loops (fun m e g' lo => g.next ≤ lo ∧ Kept G7 g' ∧ ∃ k : Nat, k + m = L.length ∧ (ev e (.s 6) = u ∧ ev e (.s 15) = .int .i64 ((L.length : Int) - 1 - k)) ∧ ∃ o, ev e (.s 14) = o ∧ Own g' o (ints ((turnL L).reverse.take k)) 3 G7.next)
              (fun e g' lo => g.next ≤ lo ∧ ∃ o, ev e (.s 14) = o ∧ Own g' o (ints (turnL L).reverse) 3 G7.next) (n := L.length) ?_ ?_ ?_
            · exact ⟨Nat.le_refl _, Kept.refl _, 0, by omega, (by simp +decide (disch := first | assumption | (apply GH.ok_push; assumption) | exact cellV_int _ _ | exact cellV_bool _ | omega) only [go_sem, ↓reduceIte, Nat.reduceEqDiff, Nat.reduceAdd, Int.reduceToNat, hul, hm0]; first | done | exact rfl), .slice none 0 0, (by simp +decide (disch := first | assumption | (apply GH.ok_push; assumption) | exact cellV_int _ _ | exact cellV_bool _ | omega) only [go_sem, ↓reduceIte, Nat.reduceEqDiff, Nat.reduceAdd, Int.reduceToNat]; first | done | exact rfl), Own.nil⟩
            · rintro e g' lo hog - ⟨hlo, o, h14, hown⟩
              simp +decide (disch := first | assumption | (apply GH.ok_push; assumption) | exact cellV_int _ _ | exact cellV_bool _ | omega) only [go_sem, ↓reduceIte, Nat.reduceEqDiff, Nat.reduceAdd, Int.reduceToNat, h14]
              refine CallD.calm (IsWave_rets hX _ (by rw [List.length_reverse]; exact hTl) o _ hown.read) ?_
              rintro v G9 hx9 rfl
              have hn9 := hx9.next
              rw [rev_row cT, waveB_row (rev_row cT), hback par rfl]
              simp +decide (disch := first | assumption | (apply GH.ok_push; assumption) | exact cellV_int _ _ | exact cellV_bool _ | omega) only [go_sem, ↓reduceIte, Nat.reduceEqDiff, Nat.reduceAdd, Int.reduceToNat, e0, e1]
              refine CallD.calm (hX.alive _) ?_
              rintro v G10 hx10 rfl
              simp +decide (disch := first | assumption | (apply GH.ok_push; assumption) | exact cellV_int _ _ | exact cellV_bool _ | omega) only [go_sem, ↓reduceIte, Nat.reduceEqDiff, Nat.reduceAdd, Int.reduceToNat]
              intro hx0
              exact ⟨by omega, rfl⟩
            · rintro m e g' lo ho' hl' ih out ⟨hlo, hk, k, hkm, he, o, h14, hown⟩
              have hkn := hk.next
              have hmk : (L.length : Int) - 1 - ((k : Int) + 1) = L.length - 1 - k - 1 := by omega
              by_cases ck : k < L.length
              · obtain ⟨p, hp1, hp2⟩ := (hu7.kept hk).at (ints_get (D := turnL L) (i := L.length - 1 - k) (by rw [turnL_len]; omega))
                have hp1 := hp1 ((L.length : Int) - 1 - k) (by omega)
                have htk : (turnL L).reverse.take (k + 1) = (turnL L).reverse.take k ++ [(turnL L).getD (L.length - 1 - k) 0] := by
                  rw [take_snoc _ k (by rw [List.length_reverse, turnL_len]; exact ck)]
                  congr 2
                  rw [List.getD_eq_getElem?_getD, List.getD_eq_getElem?_getD, List.getElem?_reverse (by rw [turnL_len]; exact ck), turnL_len]
                simp +decide (disch := first | assumption | (apply GH.ok_push; assumption) | exact cellV_int _ _ | exact cellV_bool _ | omega) only [go_sem, ↓reduceIte, Nat.reduceEqDiff, Nat.reduceAdd, Int.reduceToNat, he, h14, hp1, hp2]
                refine AppD.own2 (lw := g.next) (hown.push ho' _) (SlR.one ho' _ _) (by simp) rfl (by simp [ints_len]; omega) (by simp [GH.push]; omega) hlo (by omega) (GH.ok_push ho') (fun s' g3 lo3 sp wr hgr hlo3 => ?_)
                simp +decide (disch := first | assumption | (apply GH.ok_push; assumption) | exact cellV_int _ _ | exact cellV_bool _ | omega) only [go_sem, ↓reduceIte, Nat.reduceEqDiff, Nat.reduceAdd, Int.reduceToNat, he]
                refine ih (m - 1) _ _ _ (by omega) ⟨hlo3, (hk.push ho' _).grew2 hgr (Nat.le_refl _), k + 1, by omega, (by simp +decide (disch := first | assumption | (apply GH.ok_push; assumption) | exact cellV_int _ _ | exact cellV_bool _ | omega) only [go_sem, ↓reduceIte, Nat.reduceEqDiff, Nat.reduceAdd, Int.reduceToNat, he, hmk]; first | done | exact rfl), s', (by simp +decide (disch := first | assumption | (apply GH.ok_push; assumption) | exact cellV_int _ _ | exact cellV_bool _ | omega) only [go_sem, ↓reduceIte, Nat.reduceEqDiff, Nat.reduceAdd, Int.reduceToNat]; first | done | exact rfl), ?_⟩
                rw [htk, ints_app]
                exact hgr.own
              · simp +decide (disch := first | assumption | (apply GH.ok_push; assumption) | exact cellV_int _ _ | exact cellV_bool _ | omega) only [go_sem, ↓reduceIte, Nat.reduceEqDiff, Nat.reduceAdd, Int.reduceToNat, he, h14]
                refine out _ _ _ ⟨hlo, o, (by simp +decide (disch := first | assumption | (apply GH.ok_push; assumption) | exact cellV_int _ _ | exact cellV_bool _ | omega) only [go_sem, ↓reduceIte, Nat.reduceEqDiff, Nat.reduceAdd, Int.reduceToNat, h14]; first | done | exact rfl), ?_⟩
                rw [List.take_of_length_le (by rw [List.length_reverse, turnL_len]; omega)] at hown
                exact hown
          · rw [show L.length % 2 = 1 by omega] at hmod
            simp +decide (disch := first | assumption | (apply GH.ok_push; assumption) | exact cellV_int _ _ | exact cellV_bool _ | omega) only [go_sem, ↓reduceIte, Nat.reduceEqDiff, Nat.reduceAdd, Int.reduceToNat, hk3, e0, e1, hmod, hul]
            refine CallD.calm (hX.alive _) ?_
            rintro v G8 hx8 rfl
            simp +decide (disch := first | assumption | (apply GH.ok_push; assumption) | exact cellV_int _ _ | exact cellV_bool _ | omega) only [go_sem, ↓reduceIte, Nat.reduceEqDiff, Nat.reduceAdd, Int.reduceToNat]
            intro hx0
            exact ⟨Nat.le_refl _, rfl⟩
        · rw [hcn2, hla]
          by_cases par : L.length % 2 = 0
          · rw [par] at hmod
            simp +decide (disch := first | assumption | (apply GH.ok_push; assumption) | exact cellV_int _ _ | exact cellV_bool _ | omega) only [go_sem, ↓reduceIte, Nat.reduceEqDiff, Nat.reduceAdd, Int.reduceToNat, e0, e1, hmod, hul]
            refine Wk.loops (fun m e g' lo => g.next ≤ lo ∧ Kept G7 g' ∧ ∃ k : Nat, k + m = L.length ∧ (ev e (.s 6) = u ∧ ev e (.s 15) = .int .i64 ((L.length : Int) - 1 - k)) ∧ ∃ o, ev e (.s 14) = o ∧ Own g' o (ints ((turnL L).reverse.take k)) 3 G7.next)
              (fun e g' lo => g.next ≤ lo ∧ ∃ o, ev e (.s 14) = o ∧ Own g' o (ints (turnL L).reverse) 3 G7.next) (n := L.length) ?_ ?_ ?_
            · exact ⟨Nat.le_refl _, Kept.refl _, 0, by omega, (by simp +decide (disch := first | assumption | (apply GH.ok_push; assumption) | exact cellV_int _ _ | exact cellV_bool _ | omega) only [go_sem, ↓reduceIte, Nat.reduceEqDiff, Nat.reduceAdd, Int.reduceToNat, hul, hm0]; first | done | exact rfl), .slice none 0 0, (by simp +decide (disch := first | assumption | (apply GH.ok_push; assumption) | exact cellV_int _ _ | exact cellV_bool _ | omega) only [go_sem, ↓reduceIte, Nat.reduceEqDiff, Nat.reduceAdd, Int.reduceToNat]; first | done | exact rfl), Own.nil⟩
            · rintro e g' lo hog - ⟨hlo, o, h14, hown⟩
              simp +decide (disch := first | assumption | (apply GH.ok_push; assumption) | exact cellV_int _ _ | exact cellV_bool _ | omega) only [go_sem, ↓reduceIte, Nat.reduceEqDiff, Nat.reduceAdd, Int.reduceToNat, h14]
              refine CallD.calm (IsWave_rets hX _ (by rw [List.length_reverse]; exact hTl) o _ hown.read) ?_
              rintro v G9 hx9 rfl
              have hn9 := hx9.next
              rw [rev_row cT, waveB_row (rev_row cT), hback par rfl]
              simp +decide (disch := first | assumption | (apply GH.ok_push; assumption) | exact cellV_int _ _ | exact cellV_bool _ | omega) only [go_sem, ↓reduceIte, Nat.reduceEqDiff, Nat.reduceAdd, Int.reduceToNat, e0, e1]
              refine CallD.calm (hX.alive _) ?_
              rintro v G10 hx10 rfl
              simp +decide (disch := first | assumption | (apply GH.ok_push; assumption) | exact cellV_int _ _ | exact cellV_bool _ | omega) only [go_sem, ↓reduceIte, Nat.reduceEqDiff, Nat.reduceAdd, Int.reduceToNat]
              intro hx0
              exact ⟨by omega, rfl⟩
            · rintro m e g' lo ho' hl' ih out ⟨hlo, hk, k, hkm, he, o, h14, hown⟩
              have hkn := hk.next
              have hmk : (L.length : Int) - 1 - ((k : Int) + 1) = L.length - 1 - k - 1 := by omega
              by_cases ck : k < L.length
              · obtain ⟨p, hp1, hp2⟩ := (hu7.kept hk).at (ints_get (D := turnL L) (i := L.length - 1 - k) (by rw [turnL_len]; omega))
                have hp1 := hp1 ((L.length : Int) - 1 - k) (by omega)
                have htk : (turnL L).reverse.take (k + 1) = (turnL L).reverse.take k ++ [(turnL L).getD (L.length - 1 - k) 0] := by
                  rw [take_snoc _ k (by rw [List.length_reverse, turnL_len]; exact ck)]
                  congr 2
                  rw [List.getD_eq_getElem?_getD, List.getD_eq_getElem?_getD, List.getElem?_reverse (by rw [turnL_len]; exact ck), turnL_len]
                simp +decide (disch := first | assumption | (apply GH.ok_push; assumption) | exact cellV_int _ _ | exact cellV_bool _ | omega) only [go_sem, ↓reduceIte, Nat.reduceEqDiff, Nat.reduceAdd, Int.reduceToNat, he, h14, hp1, hp2]
                refine AppD.own2 (lw := g.next) (hown.push ho' _) (SlR.one ho' _ _) (by simp) rfl (by simp [ints_len]; omega) (by simp [GH.push]; omega) hlo (by omega) (GH.ok_push ho') (fun s' g3 lo3 sp wr hgr hlo3 => ?_)
                simp +decide (disch := first | assumption | (apply GH.ok_push; assumption) | exact cellV_int _ _ | exact cellV_bool _ | omega) only [go_sem, ↓reduceIte, Nat.reduceEqDiff, Nat.reduceAdd, Int.reduceToNat, he]
                refine ih (m - 1) _ _ _ (by omega) ⟨hlo3, (hk.push ho' _).grew2 hgr (Nat.le_refl _), k + 1, by omega, (by simp +decide (disch := first | assumption | (apply GH.ok_push; assumption) | exact cellV_int _ _ | exact cellV_bool _ | omega) only [go_sem, ↓reduceIte, Nat.reduceEqDiff, Nat.reduceAdd, Int.reduceToNat, he, hmk]; first | done | exact rfl), s', (by simp +decide (disch := first | assumption | (apply GH.ok_push; assumption) | exact cellV_int _ _ | exact cellV_bool _ | omega) only [go_sem, ↓reduceIte, Nat.reduceEqDiff, Nat.reduceAdd, Int.reduceToNat]; first | done | exact rfl), ?_⟩
                rw [htk, ints_app]
                exact hgr.own
              · simp +decide (disch := first | assumption | (apply GH.ok_push; assumption) | exact cellV_int _ _ | exact cellV_bool _ | omega) only [go_sem, ↓reduceIte, Nat.reduceEqDiff, Nat.reduceAdd, Int.reduceToNat, he, h14]
                refine out _ _ _ ⟨hlo, o, (by simp +decide (disch := first | assumption | (apply GH.ok_push; assumption) | exact cellV_int _ _ | exact cellV_bool _ | omega) only [go_sem, ↓reduceIte, Nat.reduceEqDiff, Nat.reduceAdd, Int.reduceToNat, h14]; first | done | exact rfl), ?_⟩
                rw [List.take_of_length_le (by rw [List.length_reverse, turnL_len]; omega)] at hown
                exact hown
          · rw [show L.length % 2 = 1 by omega] at hmod
            simp +decide (disch := first | assumption | (apply GH.ok_push; assumption) | exact cellV_int _ _ | exact cellV_bool _ | omega) only [go_sem, ↓reduceIte, Nat.reduceEqDiff, Nat.reduceAdd, Int.reduceToNat, e0, e1, hmod, hul]
            refine CallD.calm (hX.alive _) ?_
            rintro v G8 hx8 rfl
            simp +decide (disch := first | assumption | (apply GH.ok_push; assumption) | exact cellV_int _ _ | exact cellV_bool _ | omega) only [go_sem, ↓reduceIte, Nat.reduceEqDiff, Nat.reduceAdd, Int.reduceToNat]
            intro hx0
            exact ⟨Nat.le_refl _, rfl⟩
      | false =>
        rw [hcn2, hla, hta]
        by_cases c2 : 2 ≤ L.length
        · have hk := htw c2
          rw [Bool.false_or] at hk
          cases ta with
          | true =>
            have hk2 := of_decide_eq_true hk.symm
            have hk3 : (cn : Int) = (L.length : Int) - 2 := by omega
            simp +decide (disch := first | assumption | (apply GH.ok_push; assumption) | exact cellV_int _ _ | exact cellV_bool _ | omega) only [go_sem, ↓reduceIte, Nat.reduceEqDiff, Nat.reduceAdd, Int.reduceToNat, hk3, e0, e1]
            refine CallD.calm (hX.alive _) ?_
            rintro v G8 hx8 rfl
            simp +decide (disch := first | assumption | (apply GH.ok_push; assumption) | exact cellV_int _ _ | exact cellV_bool _ | omega) only [go_sem, ↓reduceIte, Nat.reduceEqDiff, Nat.reduceAdd, Int.reduceToNat]
            intro hx0
            exact ⟨Nat.le_refl _, rfl⟩
          | false =>
            have hk2 := of_decide_eq_false hk.symm
            have hk3 : ¬ (cn : Int) = (L.length : Int) - 2 := by omega
            simp +decide (disch := first | assumption | (apply GH.ok_push; assumption) | exact cellV_int _ _ | exact cellV_bool _ | omega) only [go_sem, ↓reduceIte, Nat.reduceEqDiff, Nat.reduceAdd, Int.reduceToNat, hk3, e0, e1]
            refine CallD.calm (hX.alive _) ?_
            rintro v G8 hx8 rfl
            simp +decide (disch := first | assumption | (apply GH.ok_push; assumption) | exact cellV_int _ _ | exact cellV_bool _ | omega) only [go_sem, ↓reduceIte, Nat.reduceEqDiff, Nat.reduceAdd, Int.reduceToNat]
            intro hx0
            exact ⟨Nat.le_refl _, rfl⟩
        · simp +decide (disch := first | assumption | (apply GH.ok_push; assumption) | exact cellV_int _ _ | exact cellV_bool _ | omega) only [go_sem, ↓reduceIte, Nat.reduceEqDiff, Nat.reduceAdd, Int.reduceToNat, e0, e1]
          refine CallD.calm (hX.alive _) ?_
          rintro v G8 hx8 rfl
          simp +decide (disch := first | assumption | (apply GH.ok_push; assumption) | exact cellV_int _ _ | exact cellV_bool _ | omega) only [go_sem, ↓reduceIte, Nat.reduceEqDiff, Nat.reduceAdd, Int.reduceToNat]
          intro hx0
          exact ⟨Nat.le_refl _, rfl⟩
    · simp +decide (disch := first | assumption | (apply GH.ok_push; assumption) | exact cellV_int _ _ | exact cellV_bool _ | omega) only [go_sem, ↓reduceIte, Nat.reduceEqDiff, Nat.reduceAdd, Int.reduceToNat, c]
      refine CallD.calm (hX.alive _) ?_
      rintro v G2 hx2 rfl
      simp +decide (disch := first | assumption | (apply GH.ok_push; assumption) | exact cellV_int _ _ | exact cellV_bool _ | omega) only [go_sem, ↓reduceIte, Nat.reduceEqDiff, Nat.reduceAdd, Int.reduceToNat]
      intro hx0
      exact ⟨Nat.le_refl _, rfl⟩
end Go.Proofs.Yteeelcmnlomgmaa
