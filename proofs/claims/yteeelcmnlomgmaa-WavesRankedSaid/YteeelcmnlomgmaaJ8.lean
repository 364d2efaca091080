import Derived.Test.YteeelcmnlomgmaaJ7
import Derived.Test.YteeelcmnlomgmaaJ4
set_option linter.all false
set_option linter.unusedSimpArgs false
set_option linter.unnecessarySimpa false
set_option linter.unusedVariables false
set_option linter.unusedSectionVars false
set_option maxRecDepth 100000
set_option maxHeartbeats 4000000
set_option linter.unusedSimpArgs false
set_option linter.unusedVariables false
namespace Go.Proofs.Yteeelcmnlomgmaa
open Go.Ds
/-! ## How a beginning goes on depends on the rank of its last number only -/
/-- Whether the number k + 1 is left, as 0 or 1. -/
def fr (u k : Nat) : Nat := if u / 2 ^ (k + 1) % 2 = 0 then 1 else 0
/-- How many of the first c numbers are left. -/
def rkT (u c : Nat) : Nat := sumTo (fr u) c
theorem rkT_succ (u c : Nat) : rkT u (c + 1) = rkT u c + fr u c := rfl
theorem bit_or (u k j : Nat) : (u ||| 2 ^ k) / 2 ^ j % 2 = if j = k then 1 else u / 2 ^ j % 2 := by
  have h : ∀ x j : Nat, x / 2 ^ j % 2 = if Nat.testBit x j = true then 1 else 0 := by
    intro x j
    rw [Nat.testBit_eq_decide_div_mod_eq]
    by_cases c : x / 2 ^ j % 2 = 1
    · rw [decide_eq_true c, if_pos rfl, c]
    · rw [decide_eq_false c, if_neg (by decide)]; omega
  rw [h, h, Nat.testBit_or, Nat.testBit_two_pow]
  by_cases c : j = k
  · subst c; simp
  · rw [if_neg c]
    have : decide (k = j) = false := decide_eq_false (fun e => c e.symm)
    rw [this, Bool.or_false]
theorem fr_or (u k j : Nat) : fr (u ||| 2 ^ (k + 1)) j = if j = k then 0 else fr u j := by
  unfold fr
  rw [bit_or]
  by_cases c : j = k
  · subst c; simp
  · rw [if_neg (by omega : ¬ j + 1 = k + 1), if_neg c]
theorem rkT_or (u k : Nat) (hk : fr u k = 1) : ∀ c, rkT (u ||| 2 ^ (k + 1)) c + (if k < c then 1 else 0) = rkT u c
  | 0 => by simp [rkT, sumTo]
  | c + 1 => by
    have ih := rkT_or u k hk c
    rw [rkT_succ, rkT_succ, fr_or]
    by_cases c1 : c = k
    · subst c1
      rw [if_pos rfl, if_pos (by omega)]
      rw [if_neg (by omega)] at ih
      omega
    · rw [if_neg c1]
      by_cases c2 : k < c
      · rw [if_pos c2] at ih; rw [if_pos (by omega)]; omega
      · rw [if_neg c2] at ih; rw [if_neg (by omega)]; omega
theorem rkT_mono (u : Nat) {a b : Nat} (h : a ≤ b) : rkT u a ≤ rkT u b := by
  obtain ⟨d, rfl⟩ : ∃ d, b = a + d := ⟨b - a, by omega⟩
  clear h
  induction d with
  | zero => exact Nat.le_refl _
  | succ d ih => rw [← Nat.add_assoc, rkT_succ]; omega
def upOk (m : Nat) : Bool := (List.range (m + 2)).all fun i => Nat.beq (sumTo (fun j => frm (m + 1) (m + 1 - (i + j))) (m + 1 - i)) (frm (m + 2) (i + 1))
def downOk (m : Nat) : Bool := (List.range (m + 2)).all fun i => Nat.beq (sumTo (fun j => frm (m + 1) (j + 1)) i) (frm (m + 2) (m + 2 - i))
theorem up_ok : (List.range 9).all upOk = true := by decide +kernel
theorem down_ok : (List.range 9).all downOk = true := by decide +kernel
theorem sumR_to (f : Nat → Nat) (lo : Nat) : ∀ c, sumR f lo c = sumTo (fun j => f (lo + j)) c
  | 0 => rfl
  | c + 1 => by rw [sumR_succ, sumR_to f lo c]; rfl
theorem up_id {m i : Nat} (hm : m < 9) (hi : i ≤ m + 1) : sumTo (fun j => frm (m + 1) (m + 1 - (i + j))) (m + 1 - i) = frm (m + 2) (i + 1) :=
  Nat.eq_of_beq_eq_true (all_at (show upOk m = true from all_at up_ok hm) (show i < m + 2 by omega))
theorem down_id {m i : Nat} (hm : m < 9) (hi : i ≤ m + 1) : sumTo (fun j => frm (m + 1) (j + 1)) i = frm (m + 2) (m + 2 - i) :=
  Nat.eq_of_beq_eq_true (all_at (show downOk m = true from all_at down_ok hm) (show i < m + 2 by omega))
/-- The value of a beginning whose last number is l. -/
theorem goW_rank (n : Nat) (hn : n ≤ 10) : ∀ (m : Nat), m < 10 → ∀ (u l : Nat), 1 ≤ l → l ≤ n → fr u (l - 1) = 0 → rkT u n = m →
    goW n m true u l = frm (m + 1) (rkT u (l - 1) + 1) ∧ goW n m false u l = frm (m + 1) (m + 1 - rkT u (l - 1))
  | 0, _, u, l, h1, h2, h3, h4 => by
    have := rkT_mono u (show l - 1 ≤ n by omega)
    have h0 : rkT u (l - 1) = 0 := by omega
    rw [h0]
    exact ⟨rfl, rfl⟩
  | m + 1, hm, u, l, h1, h2, h3, h4 => by
    have ih := goW_rank n hn m (by omega)
    have hrl : rkT u l = rkT u (l - 1) := by
      have := rkT_succ u (l - 1)
      rw [show l - 1 + 1 = l by omega, h3] at this
      omega
    have hle := rkT_mono u h2
    -- what each number that is left says
    have hstep : ∀ k, k < n → fr u k = 1 → goW n m true (u ||| 2 ^ (k + 1)) (k + 1) = frm (m + 1) (rkT u k + 1) ∧ goW n m false (u ||| 2 ^ (k + 1)) (k + 1) = frm (m + 1) (m + 1 - rkT u k) := by
      intro k hk hf
      have e1 := rkT_or u k hf n
      rw [if_pos hk] at e1
      have e2 := rkT_or u k hf k
      rw [if_neg (by omega)] at e2
      have := ih (u ||| 2 ^ (k + 1)) (k + 1) (by omega) (by omega) (by rw [Nat.add_sub_cancel, fr_or, if_pos rfl]) (by omega)
      rw [Nat.add_sub_cancel, show rkT (u ||| 2 ^ (k + 1)) k = rkT u k by omega] at this
      exact this
    have hgT : ∀ b k, k < n → gT n m b u k = if fr u k = 1 then (if b = true then frm (m + 1) (rkT u k + 1) else frm (m + 1) (m + 1 - rkT u k)) else 0 := by
      intro b k hk
      unfold gT
      by_cases c : u / 2 ^ (k + 1) % 2 = 0
      · have hf : fr u k = 1 := by unfold fr; rw [if_pos c]
        rw [if_pos c, if_pos hf]
        cases b with
        | true => rw [if_pos rfl]; exact (hstep k hk hf).1
        | false => rw [if_neg (by decide)]; exact (hstep k hk hf).2
      · have hf : ¬ fr u k = 1 := by unfold fr; rw [if_neg c]; decide
        rw [if_neg c, if_neg hf]
    have hfr : ∀ k, fr u k = 0 ∨ fr u k = 1 := by
      intro k; unfold fr; split
      · exact .inr rfl
      · exact .inl rfl
    constructor
    · rw [goW_succ, if_pos rfl, sumR_to]
      have key : ∀ c, l + c ≤ n → sumTo (fun j => gT n m false u (l + j)) c = sumTo (fun j => frm (m + 1) (m + 1 - (rkT u (l - 1) + j))) (rkT u (l + c) - rkT u (l - 1)) := by
        intro c
        induction c with
        | zero =>
          intro _
          show 0 = sumTo _ (rkT u l - rkT u (l - 1))
          rw [hrl, Nat.sub_self]; rfl
        | succ c ihc =>
          intro hc
          have hmono := rkT_mono u (show l ≤ l + c by omega)
          rw [← Nat.add_assoc, rkT_succ]
          show sumTo (fun j => gT n m false u (l + j)) c + gT n m false u (l + c) = _
          rw [ihc (by omega), hgT false (l + c) (by omega)]
          rcases hfr (l + c) with h0 | h0
          · rw [if_neg (by omega), h0]; rfl
          · rw [if_pos h0, if_neg (by decide), h0, show rkT u (l + c) + 1 - rkT u (l - 1) = (rkT u (l + c) - rkT u (l - 1)) + 1 by omega]
            show _ = sumTo _ _ + frm (m + 1) (m + 1 - (rkT u (l - 1) + (rkT u (l + c) - rkT u (l - 1))))
            rw [show rkT u (l - 1) + (rkT u (l + c) - rkT u (l - 1)) = rkT u (l + c) by omega]
      have := key (n - l) (by omega)
      rw [this, show l + (n - l) = n by omega, h4]
      exact up_id (by omega) (by omega)
    · rw [goW_succ, if_neg (by decide), sumR_to]
      have key : ∀ c, c ≤ l - 1 → sumTo (fun j => gT n m true u (0 + j)) c = sumTo (fun j => frm (m + 1) (j + 1)) (rkT u c) := by
        intro c
        induction c with
        | zero => intro _; rfl
        | succ c ihc =>
          intro hc
          rw [rkT_succ]
          show sumTo (fun j => gT n m true u (0 + j)) c + gT n m true u (0 + c) = _
          rw [ihc (by omega), Nat.zero_add, hgT true c (by omega)]
          rcases hfr c with h0 | h0
          · rw [if_neg (by omega), h0]; rfl
          · rw [if_pos h0, if_pos rfl, h0]; rfl
      rw [key (l - 1) (Nat.le_refl _)]
      have := rkT_mono u (show l - 1 ≤ n by omega)
      exact down_id (by omega) (by omega)
/-- The ways on with the number k + 1, of which rkT u k that are left are less. -/
theorem termW_rank {n : Nat} (hn : n ≤ 10) {m : Nat} (hm : m < 10) {u : Nat} {L : List Int} (hL : refTurnL true L = true) (hu : rkT u n = m + 1) {k : Nat} (hk : k < n) (hf : fr u k = 1) :
    termW n m u L k = if refTurnL true (L ++ [(k : Int) + 1]) = true then (if L.length % 2 = 0 then frm (m + 1) (rkT u k + 1) else frm (m + 1) (m + 1 - rkT u k)) else 0 := by
  have hc : u / 2 ^ (k + 1) % 2 = 0 := by
    unfold fr at hf
    split at hf
    · assumption
    · cases hf
  unfold termW
  by_cases c : refTurnL true (L ++ [(k : Int) + 1]) = true
  case neg => rw [if_neg (fun h => c h.2), if_neg c]
  rw [if_pos ⟨hc, c⟩, if_pos c]
  have e1 := rkT_or u k hf n
  rw [if_pos hk] at e1
  have e2 := rkT_or u k hf k
  rw [if_neg (by omega)] at e2
  have hg := goW_rank n hn m hm (u ||| 2 ^ (k + 1)) (k + 1) (by omega) (by omega) (by rw [Nat.add_sub_cancel, fr_or, if_pos rfl]) (by omega)
  rw [Nat.add_sub_cancel, show rkT (u ||| 2 ^ (k + 1)) k = rkT u k by omega] at hg
  have hw := cntW_goW n m L (k + 1) (u ||| 2 ^ (k + 1)) (by push_cast; exact c) (by omega) (by omega)
  push_cast at hw
  rw [hw]
  by_cases p : L.length % 2 = 0
  · rw [decide_eq_true p, if_pos p]; exact hg.1
  · rw [decide_eq_false p, if_neg p]; exact hg.2
end Go.Proofs.Yteeelcmnlomgmaa
set_option maxRecDepth 100000
set_option maxHeartbeats 8000000
set_option linter.unusedSimpArgs false
set_option linter.unusedVariables false
namespace Go.Proofs.Yteeelcmnlomgmaa
open Go.Ds
/-! ## The reference's rank -/
def lexL : List Int → List Int → Bool
  | a :: A, b :: B => if a = b then lexL A B else decide (a < b)
  | A, B => decide (A.length < B.length)
theorem less_rets {X : Caller} (hX : Xok X) (A B : List Int) (hA : A.length ≤ 1000) (hB : B.length ≤ 1000) (s t : Value) (g : GH) (hs : SlR g s (ints A)) (ht : SlR g t (ints B)) :
    Rets Try.prog X 74 [s, t] g (fun v g' lo => g.next ≤ lo ∧ v = .bool (lexL A B)) := by
  refine Rets.run hX.pres p74 (hX.free 74 (by decide) _ _) rfl fun ho => ?_
  have hl := hs.len
  rw [ints_len] at hl
  have hm := ht.len
  rw [ints_len] at hm
  simp +decide (disch := first | assumption | (apply GH.ok_push; assumption) | exact cellV_int _ _ | exact cellV_bool _ | omega) only [go_sem, ↓reduceIte, Nat.reduceEqDiff, Nat.reduceAdd, Int.reduceToNat]
  refine Wk.loops (fun m e g' lo => g.next ≤ lo ∧ g' = g ∧ ∃ j : Nat, j + m = A.length ∧ j ≤ B.length ∧ (ev e (.s 0) = s ∧ ev e (.s 1) = t ∧ ev e (.s 5) = .int .i64 j) ∧ lexL (A.drop j) (B.drop j) = lexL A B)
    (fun e g' lo => g.next ≤ lo ∧ (ev e (.s 0) = s ∧ ev e (.s 1) = t) ∧ lexL A B = decide (A.length < B.length)) (n := A.length) ?_ ?_ ?_
  · exact ⟨Nat.le_refl _, rfl, 0, by omega, by omega, (by simp +decide (disch := first | assumption | (apply GH.ok_push; assumption) | exact cellV_int _ _ | exact cellV_bool _ | omega) only [go_sem, ↓reduceIte, Nat.reduceEqDiff, Nat.reduceAdd, Int.reduceToNat]; first | done | exact rfl), rfl⟩
  · rintro e g' lo hog - ⟨hlo, he, hr⟩
    by_cases c : A.length < B.length
    · have c' : (A.length : Int) < (B.length : Int) := by omega
      simp +decide (disch := first | assumption | (apply GH.ok_push; assumption) | exact cellV_int _ _ | exact cellV_bool _ | omega) only [go_sem, ↓reduceIte, Nat.reduceEqDiff, Nat.reduceAdd, Int.reduceToNat, he, hl, hm, c']
      intro hx
      exact ⟨hlo, by rw [hr, decide_eq_true c]⟩
    · have c' : ¬ (A.length : Int) < (B.length : Int) := by omega
      simp +decide (disch := first | assumption | (apply GH.ok_push; assumption) | exact cellV_int _ _ | exact cellV_bool _ | omega) only [go_sem, ↓reduceIte, Nat.reduceEqDiff, Nat.reduceAdd, Int.reduceToNat, he, hl, hm, c']
      intro hx
      exact ⟨hlo, by rw [hr, decide_eq_false c]⟩
  · rintro m e g' lo ho' hl' ih out ⟨hlo, rfl, j, hj, hjb, he, hr⟩
    by_cases c : j < A.length
    · by_cases d : j < B.length
      · obtain ⟨b1, o1, hb1, hp1, hp2⟩ := hs.ptr (ints_get (D := A) (i := j) c)
        obtain ⟨b2, o2, hb2, hq1, hq2⟩ := ht.ptr (ints_get (D := B) (i := j) d)
        have hp1 := hp1 (j : Int) rfl
        have hq1 := hq1 (j : Int) rfl
        have hst : lexL (A.drop j) (B.drop j) = if A.getD j 0 = B.getD j 0 then lexL (A.drop (j + 1)) (B.drop (j + 1)) else decide (A.getD j 0 < B.getD j 0) := by
          rw [drop_cons A j c, drop_cons B j d, lexL]
        obtain ⟨x, hx⟩ : ∃ x, A.getD j 0 = x := ⟨_, rfl⟩
        obtain ⟨y, hy⟩ : ∃ y, B.getD j 0 = y := ⟨_, rfl⟩
        rw [hx] at hp2 hst
        rw [hy] at hq2 hst
        by_cases z : x = y
        · rw [if_pos z] at hst
          simp +decide (disch := first | assumption | (apply GH.ok_push; assumption) | exact cellV_int _ _ | exact cellV_bool _ | omega) only [go_sem, ↓reduceIte, Nat.reduceEqDiff, Nat.reduceAdd, Int.reduceToNat, he, hl, hm, hp1, hp2, hq1, hq2, z]
          exact ih (m - 1) _ _ _ (by omega) ⟨hlo, rfl, j + 1, by omega, by omega, (by simp +decide (disch := first | assumption | (apply GH.ok_push; assumption) | exact cellV_int _ _ | exact cellV_bool _ | omega) only [go_sem, ↓reduceIte, Nat.reduceEqDiff, Nat.reduceAdd, Int.reduceToNat, he]; first | done | exact rfl), by rw [← hst, hr]⟩
        · rw [if_neg z] at hst
          by_cases w : x < y
          · simp +decide (disch := first | assumption | (apply GH.ok_push; assumption) | exact cellV_int _ _ | exact cellV_bool _ | omega) only [go_sem, ↓reduceIte, Nat.reduceEqDiff, Nat.reduceAdd, Int.reduceToNat, he, hl, hm, hp1, hp2, hq1, hq2, z, w]
            intro hx0
            exact ⟨hlo, by rw [← hr, hst, decide_eq_true w]⟩
          · simp +decide (disch := first | assumption | (apply GH.ok_push; assumption) | exact cellV_int _ _ | exact cellV_bool _ | omega) only [go_sem, ↓reduceIte, Nat.reduceEqDiff, Nat.reduceAdd, Int.reduceToNat, he, hl, hm, hp1, hp2, hq1, hq2, z, w]
            intro hx0
            exact ⟨hlo, by rw [← hr, hst, decide_eq_false w]⟩
      · have d' : ¬ (j : Int) < (B.length : Int) := by omega
        simp +decide (disch := first | assumption | (apply GH.ok_push; assumption) | exact cellV_int _ _ | exact cellV_bool _ | omega) only [go_sem, ↓reduceIte, Nat.reduceEqDiff, Nat.reduceAdd, Int.reduceToNat, he, hl, hm, d']
        refine out _ _ _ ⟨hlo, (by simp +decide (disch := first | assumption | (apply GH.ok_push; assumption) | exact cellV_int _ _ | exact cellV_bool _ | omega) only [go_sem, ↓reduceIte, Nat.reduceEqDiff, Nat.reduceAdd, Int.reduceToNat, he]; first | done | exact rfl), ?_⟩
        rw [← hr, List.drop_of_length_le (l := B) (by omega), drop_cons A j c]
        show decide (_ < 0) = _
        rw [decide_eq_false (by omega), decide_eq_false (by omega)]
    · simp +decide (disch := first | assumption | (apply GH.ok_push; assumption) | exact cellV_int _ _ | exact cellV_bool _ | omega) only [go_sem, ↓reduceIte, Nat.reduceEqDiff, Nat.reduceAdd, Int.reduceToNat, he, hl, hm]
      refine out _ _ _ ⟨hlo, (by simp +decide (disch := first | assumption | (apply GH.ok_push; assumption) | exact cellV_int _ _ | exact cellV_bool _ | omega) only [go_sem, ↓reduceIte, Nat.reduceEqDiff, Nat.reduceAdd, Int.reduceToNat, he]; first | done | exact rfl), ?_⟩
      rw [← hr, List.drop_of_length_le (l := A) (by omega)]
      have e : lexL [] (B.drop j) = decide (0 < (B.drop j).length) := by cases B.drop j <;> rfl
      rw [e, List.length_drop]
      by_cases y : A.length < B.length
      · rw [decide_eq_true y, decide_eq_true (by omega)]
      · rw [decide_eq_false y, decide_eq_false (by omega)]
def befW (W : List Int) (n : Nat) : Nat → Nat → List Int → Nat
  | 0, _, L => if lexL L W = true then 1 else 0
  | m + 1, u, L => sumTo (fun (k : Nat) => if u / 2 ^ (k + 1) % 2 = 0 ∧ refTurnL true (L ++ [(k : Int) + 1]) = true then befW W n m (u ||| 2 ^ (k + 1)) (L ++ [(k : Int) + 1]) else 0) n
def termB (W : List Int) (n m u : Nat) (L : List Int) (k : Nat) : Nat := if u / 2 ^ (k + 1) % 2 = 0 ∧ refTurnL true (L ++ [(k : Int) + 1]) = true then befW W n m (u ||| 2 ^ (k + 1)) (L ++ [(k : Int) + 1]) else 0
theorem befW_succ (W : List Int) (n m u : Nat) (L : List Int) : befW W n (m + 1) u L = sumTo (termB W n m u L) n := rfl
theorem befW_le (W : List Int) (n : Nat) (hn : n ≤ 10) : ∀ m u L, befW W n m u L ≤ 10 ^ m
  | 0, u, L => by unfold befW; split <;> simp
  | m + 1, u, L => by
    rw [befW_succ]
    have hk : ∀ k, termB W n m u L k ≤ 10 ^ m := by
      intro k
      unfold termB
      split
      · exact befW_le W n hn m _ _
      · exact Nat.zero_le _
    have h1 := sumTo_le hk n
    have h2 : n * 10 ^ m ≤ 10 * 10 ^ m := Nat.mul_le_mul_right _ hn
    rw [Nat.pow_succ]
    omega
theorem before_rets {X : Caller} (hX : Xok X) (W : List Int) (n : Nat) (hn : n ≤ 10) (hW : W.length = n) (w : Value) : ∀ (m : Nat) (L : List Int) (u : Nat) (s : Value) (g : GH), L.length + m = n → u < 2 ^ 40 → NowOk g s L → SlR g w (ints W) →
    Rets Try.prog X 59 [w, s, .int .i64 u] g (fun v g' lo => g.next ≤ lo ∧ v = .int .i64 (befW W n m u L)) := by
  intro m
  induction m with
  | zero =>
    intro L u s g hLm hu hs hw
    refine Rets.run hX.pres p59 (hX.free 59 (by decide) _ _) rfl fun ho => ?_
    have hl := hs.read.len
    rw [ints_len] at hl
    have hlw := hw.len
    rw [ints_len, hW] at hlw
    have e1 : (L.length : Int) = n := by omega
    simp +decide (disch := first | assumption | (apply GH.ok_push; assumption) | exact cellV_int _ _ | exact cellV_bool _ | omega) only [go_sem, ↓reduceIte, Nat.reduceEqDiff, Nat.reduceAdd, Int.reduceToNat, hl, hlw, e1]
    refine CallD.calm (less_rets hX L W (by omega) (by omega) s w g hs.read hw) ?_
    rintro v G hx rfl
    have hn1 := hx.next
    cases hb : lexL L W with
    | true =>
      simp +decide (disch := first | assumption | (apply GH.ok_push; assumption) | exact cellV_int _ _ | exact cellV_bool _ | omega) only [go_sem, ↓reduceIte, Nat.reduceEqDiff, Nat.reduceAdd, Int.reduceToNat]
      intro hx0
      exact ⟨by omega, by unfold befW; rw [hb]; rfl⟩
    | false =>
      simp +decide (disch := first | assumption | (apply GH.ok_push; assumption) | exact cellV_int _ _ | exact cellV_bool _ | omega) only [go_sem, ↓reduceIte, Nat.reduceEqDiff, Nat.reduceAdd, Int.reduceToNat]
      intro hx0
      exact ⟨by omega, by unfold befW; rw [hb]; rfl⟩
  | succ m ihm =>
    intro L u s g hLm hu hs hw
    refine Rets.run hX.pres p59 (hX.free 59 (by decide) _ _) rfl fun ho => ?_
    have hl := hs.read.len
    rw [ints_len] at hl
    have hlw := hw.len
    rw [ints_len, hW] at hlw
    have e1 : ¬ (L.length : Int) = n := by omega
    have hp10 : 10 ^ (m + 1) = 10 * 10 ^ m := by rw [Nat.pow_succ]; omega
    have hpw10 := pow10 (m := m) (by omega)
    rw [befW_succ]
    have htb : ∀ k, termB W n m u L k ≤ 10 ^ m := by
      intro k
      unfold termB
      split
      · exact befW_le W n hn m _ _
      · exact Nat.zero_le _
    simp +decide (disch := first | assumption | (apply GH.ok_push; assumption) | exact cellV_int _ _ | exact cellV_bool _ | omega) only [go_sem, ↓reduceIte, Nat.reduceEqDiff, Nat.reduceAdd, Int.reduceToNat, hl, hlw, e1]
    refine Wk.loops (fun r e g' lo => g.next ≤ lo ∧ Kept g g' ∧ ∃ k : Nat, k + r = n ∧ (ev e (.s 0) = w ∧ ev e (.s 1) = s ∧ ev e (.s 2) = .int .i64 u ∧ ev e (.s 7) = .int .i64 (sumTo (termB W n m u L) k) ∧ ev e (.s 8) = .int .i64 ((k : Int) + 1)))
      (fun e g' lo => g.next ≤ lo ∧ ev e (.s 7) = .int .i64 (sumTo (termB W n m u L) n)) (n := n) ?_ ?_ ?_
    · exact ⟨by omega, Kept.refl _, 0, by omega, (by simp +decide (disch := first | assumption | (apply GH.ok_push; assumption) | exact cellV_int _ _ | exact cellV_bool _ | omega) only [go_sem, ↓reduceIte, Nat.reduceEqDiff, Nat.reduceAdd, Int.reduceToNat]; first | done | exact rfl)⟩
    · rintro e g' lo hog - ⟨hlo, he⟩
      simp +decide (disch := first | assumption | (apply GH.ok_push; assumption) | exact cellV_int _ _ | exact cellV_bool _ | omega) only [go_sem, ↓reduceIte, Nat.reduceEqDiff, Nat.reduceAdd, Int.reduceToNat, he]
      intro hx0
      exact ⟨hlo, rfl⟩
    · rintro r e g' lo ho' hl' ih out ⟨hlo, hk, k, hkr, he⟩
      have hkn := hk.next
      by_cases ck : k < n
      · have hstep : sumTo (termB W n m u L) (k + 1) = sumTo (termB W n m u L) k + termB W n m u L k := rfl
        have hsb : sumTo (termB W n m u L) k + 10 ^ m ≤ 10 * 10 ^ m := by
          have h1 := sumTo_le htb k
          have h2 : (k + 1) * 10 ^ m ≤ 10 * 10 ^ m := Nat.mul_le_mul_right _ (by omega)
          rw [Nat.succ_mul] at h2
          omega
        have htk := htb k
        have ek : ((k + 1 : Nat) : Int) = (k : Int) + 1 := by push_cast; rfl
        have hsr : ((u : Int).fdiv (Int.ofNat (Nat.pow 2 (min ((k + 1 : Nat) : Int).toNat 64)))).tmod 2 = ((u / 2 ^ (k + 1) % 2 : Nat) : Int) := by rw [shr_fact u (k + 1) (by omega)]; rfl
        rw [ek] at hsr
        have hown1 := hs.kept hk
        have hlv := hown1.read.len
        have hcl := NowOk.clip hown1 (by omega)
        rw [ints_len] at hlv
        obtain ⟨S0, hS0⟩ : ∃ S0, sumTo (termB W n m u L) k = S0 := ⟨_, rfl⟩
        rw [hS0] at he hstep hsb
        simp +decide (disch := first | assumption | (apply GH.ok_push; assumption) | exact cellV_int _ _ | exact cellV_bool _ | omega) only [go_sem, ↓reduceIte, Nat.reduceEqDiff, Nat.reduceAdd, Int.reduceToNat, he, hlw, hlv, hcl]
        have hpk := (Kept.refl g').push ho' (cellsOb [Value.int .i64 ((k : Int) + 1)] 3)
        refine NowOk.app (lw := g.next) (hown1.kept hpk) (SlR.one ho' _ _) (by omega) hlo (by show g.next ≤ g'.next + 1; omega) (GH.ok_push ho') (fun s' g2 lo2 sp wr hok2 hkg2 hgo hlo2 => ?_)
        have hk2 : Kept g' g2 := hpk.trans hkg2
        have hk2n := hk2.next
        have hkJ2 := hk.trans hk2
        by_cases c1 : u / 2 ^ (k + 1) % 2 = 0
        · rw [c1] at hsr
          simp +decide (disch := first | assumption | (apply GH.ok_push; assumption) | exact cellV_int _ _ | exact cellV_bool _ | omega) only [go_sem, ↓reduceIte, Nat.reduceEqDiff, Nat.reduceAdd, Int.reduceToNat, he, hsr]
          refine CallD.calm (refWaveG_rets hX (L ++ [(k : Int) + 1]) (by simp; omega) s' _ hgo.read) ?_
          rintro v g3 hx3 rfl
          have hn3 := hx3.next
          cases hb : refTurnL true (L ++ [(k : Int) + 1]) with
          | false =>
            have ht : termB W n m u L k = 0 := by unfold termB; rw [if_neg (fun h => by rw [hb] at h; exact absurd h.2 (by decide))]
            simp +decide (disch := first | assumption | (apply GH.ok_push; assumption) | exact cellV_int _ _ | exact cellV_bool _ | omega) only [go_sem, ↓reduceIte, Nat.reduceEqDiff, Nat.reduceAdd, Int.reduceToNat, he]
            exact ih (r - 1) _ _ _ (by omega) ⟨hlo2, hkJ2.ext hx3, k + 1, by omega, by rw [hstep, ht, Nat.add_zero]; exact (by simp +decide (disch := first | assumption | (apply GH.ok_push; assumption) | exact cellV_int _ _ | exact cellV_bool _ | omega) only [go_sem, ↓reduceIte, Nat.reduceEqDiff, Nat.reduceAdd, Int.reduceToNat, he]; first | done | exact rfl)⟩
          | true =>
            have ht : termB W n m u L k = befW W n m (u ||| 2 ^ (k + 1)) (L ++ [(k : Int) + 1]) := by unfold termB; rw [if_pos ⟨c1, hb⟩]
            have hsl := shl_fact (k + 1) (by omega)
            rw [ek] at hsl
            have hpw : 2 ^ (k + 1) ≤ 2 ^ 11 := Nat.pow_le_pow_right (by omega) (by omega)
            have hor : u ||| 2 ^ (k + 1) < 2 ^ 40 := Nat.or_lt_two_pow hu (by omega)
            have horr := or_fact hu (show 2 ^ (k + 1) < 2 ^ 40 by omega)
            have hcall := ihm (L ++ [(k : Int) + 1]) (u ||| 2 ^ (k + 1)) s' g3 (by simp; omega) hor (hgo.kept hx3.kept) ((hw.kept hkJ2).ext hx3)
            obtain ⟨wp, hwp⟩ : ∃ w, 2 ^ (k + 1) = w := ⟨_, rfl⟩
            rw [hwp] at hsl hpw hcall horr ht
            rw [ht] at hstep htk
            obtain ⟨T0, hT0⟩ : ∃ T0, befW W n m (u ||| wp) (L ++ [(k : Int) + 1]) = T0 := ⟨_, rfl⟩
            rw [hT0] at hcall hstep htk
            rw [← horr] at hcall
            simp +decide (disch := first | assumption | (apply GH.ok_push; assumption) | exact cellV_int _ _ | exact cellV_bool _ | omega) only [go_sem, ↓reduceIte, Nat.reduceEqDiff, Nat.reduceAdd, Int.reduceToNat, he, hsl]
            refine CallD.calm hcall ?_
            rintro v g4 hx4 rfl
            have hn4 := hx4.next
            have hsum : ((S0 + T0 : Nat) : Int) = (S0 : Int) + (T0 : Int) := by push_cast; rfl
            simp +decide (disch := first | assumption | (apply GH.ok_push; assumption) | exact cellV_int _ _ | exact cellV_bool _ | omega) only [go_sem, ↓reduceIte, Nat.reduceEqDiff, Nat.reduceAdd, Int.reduceToNat, he]
            exact ih (r - 1) _ _ _ (by omega) ⟨by omega, (hkJ2.ext hx3).ext hx4, k + 1, by omega, by rw [hstep, hsum]; exact (by simp +decide (disch := first | assumption | (apply GH.ok_push; assumption) | exact cellV_int _ _ | exact cellV_bool _ | omega) only [go_sem, ↓reduceIte, Nat.reduceEqDiff, Nat.reduceAdd, Int.reduceToNat, he]; first | done | exact rfl)⟩
        · have c1' : u / 2 ^ (k + 1) % 2 = 1 := by omega
          have ht : termB W n m u L k = 0 := by unfold termB; rw [if_neg (fun h => c1 h.1)]
          rw [c1'] at hsr
          simp +decide (disch := first | assumption | (apply GH.ok_push; assumption) | exact cellV_int _ _ | exact cellV_bool _ | omega) only [go_sem, ↓reduceIte, Nat.reduceEqDiff, Nat.reduceAdd, Int.reduceToNat, he, hsr]
          exact ih (r - 1) _ _ _ (by omega) ⟨hlo2, hkJ2, k + 1, by omega, by rw [hstep, ht, Nat.add_zero]; exact (by simp +decide (disch := first | assumption | (apply GH.ok_push; assumption) | exact cellV_int _ _ | exact cellV_bool _ | omega) only [go_sem, ↓reduceIte, Nat.reduceEqDiff, Nat.reduceAdd, Int.reduceToNat, he]; first | done | exact rfl)⟩
      · have : k = n := by omega
        subst this
        simp +decide (disch := first | assumption | (apply GH.ok_push; assumption) | exact cellV_int _ _ | exact cellV_bool _ | omega) only [go_sem, ↓reduceIte, Nat.reduceEqDiff, Nat.reduceAdd, Int.reduceToNat, he, hlw]
        exact out _ _ _ ⟨hlo, (by simp +decide (disch := first | assumption | (apply GH.ok_push; assumption) | exact cellV_int _ _ | exact cellV_bool _ | omega) only [go_sem, ↓reduceIte, Nat.reduceEqDiff, Nat.reduceAdd, Int.reduceToNat, he]; first | done | exact rfl)⟩
end Go.Proofs.Yteeelcmnlomgmaa
set_option maxRecDepth 100000
set_option maxHeartbeats 8000000
set_option linter.unusedSimpArgs false
set_option linter.unusedVariables false
namespace Go.Proofs.Yteeelcmnlomgmaa
open Go.Ds
/-! ## The reference's search for a rank -/
theorem sumTo_mono (f : Nat → Nat) {a b : Nat} (h : a ≤ b) : sumTo f a ≤ sumTo f b := by
  obtain ⟨d, rfl⟩ : ∃ d, b = a + d := ⟨b - a, by omega⟩
  clear h
  induction d with
  | zero => exact Nat.le_refl _
  | succ d ih =>
    have : sumTo f (a + d + 1) = sumTo f (a + d) + f (a + d) := rfl
    rw [← Nat.add_assoc]; omega
def nthW (n : Nat) : Nat → Nat → List Int → Nat → List Int
  | 0, _, L, _ => L
  | m + 1, u, L, r => match (List.range n).find? (fun k => decide (r < sumTo (termW n m u L) (k + 1))) with
    | some k => nthW n m (u ||| 2 ^ (k + 1)) (L ++ [(k : Int) + 1]) (r - sumTo (termW n m u L) k)
    | none => []
theorem find_at {n k : Nat} {p : Nat → Bool} (hk : k < n) (h : p k = true) (h0 : ∀ j, j < k → p j = false) : (List.range n).find? p = some k := by
  rw [List.find?_range_eq_some]
  exact ⟨h, List.mem_range.2 hk, fun j hj => by rw [h0 j hj]; rfl⟩
theorem nthW_at {n m u : Nat} {L : List Int} {r k : Nat} (hk : k < n) (h1 : sumTo (termW n m u L) k ≤ r) (h2 : r < sumTo (termW n m u L) (k + 1)) : nthW n (m + 1) u L r = nthW n m (u ||| 2 ^ (k + 1)) (L ++ [(k : Int) + 1]) (r - sumTo (termW n m u L) k) := by
  rw [nthW, find_at (p := fun k => decide (r < sumTo (termW n m u L) (k + 1))) hk (decide_eq_true h2) fun j hj => decide_eq_false (by have := sumTo_mono (termW n m u L) (show j + 1 ≤ k by omega); omega)]
/-- The object of a search for a rank. -/
def fndOb (n M : Nat) (r : Int) (F : Value) : Ob := cellsOb [.int .i64 n, .int .i64 M, .int .i64 r, F] 52
theorem NowOk.keptF {g g' : GH} {s : Value} {L : List Int} {J n M : Nat} {r : Int} {F : Value} (h : NowOk g s L) (k : KeptJ g g' J) (hJ : g.get J = fndOb n M r F) : NowOk g' s L := by
  rcases h with ⟨b, h⟩ | ⟨h0, j, h1, h2, h3⟩
  · exact .inl ⟨b, Own.keptJ h k hJ⟩
  · have hn := k.next
    refine .inr ⟨h0, j, h1, by omega, (k.gets j h2 fun e => ?_).trans h3⟩
    rw [e, hJ] at h3
    have h4 : (52 : Nat) = 3 := congrArg Ob.elem h3
    omega
/-- What was found, of the completions from number M on, S in number. -/
def Fnd (g : GH) (F F' : Value) (M S : Nat) (r : Int) (R : List Int) : Prop := if (M : Int) ≤ r ∧ r < (M : Int) + S then NowOk g F' R else F' = F
theorem on2_rets {X : Caller} (hX : Xok X) (n : Nat) (hn : n ≤ 10) (J : Nat) (rr : Int) : ∀ (m : Nat) (L : List Int) (u M : Nat) (s F : Value) (g : GH), L.length + m = n → u < 2 ^ 40 → NowOk g s L → J < g.next → g.get J = fndOb n M rr F → ((M : Int) ≤ rr → F = .slice none 0 0) → M + 10 ^ m ≤ 1000000000000 →
    Rets Try.prog X 49 [.pointer (some ⟨J, 0, none⟩), s, .int .i64 u] g (fun v g' lo => J ≤ lo ∧ KeptJ g g' J ∧ ∃ F', g'.get J = fndOb n (M + cntW n m u L) rr F' ∧ Fnd g' F F' M (cntW n m u L) rr (nthW n m u L (rr - M).toNat)) := by
  have hnil : nilcF (.pointer (some ⟨J, 0, none⟩)) = some (.pointer (some ⟨J, 0, none⟩)) := rfl
  have hf0 : faddrF 0 (.pointer (some ⟨J, 0, none⟩)) = some (.pointer (some ⟨J, 0, none⟩)) := rfl
  have hf1 : faddrF 1 (.pointer (some ⟨J, 0, none⟩)) = some (.pointer (some ⟨J, 1, none⟩)) := by
    show some (Value.pointer (some ((⟨J, 0, none⟩ : Addr).add 1))) = _
    unfold Addr.add; rfl
  have hf2 : faddrF 2 (.pointer (some ⟨J, 0, none⟩)) = some (.pointer (some ⟨J, 2, none⟩)) := by
    show some (Value.pointer (some ((⟨J, 0, none⟩ : Addr).add 2))) = _
    unfold Addr.add; rfl
  have hf3 : faddrF 3 (.pointer (some ⟨J, 0, none⟩)) = some (.pointer (some ⟨J, 3, none⟩)) := by
    show some (Value.pointer (some ((⟨J, 0, none⟩ : Addr).add 3))) = _
    unfold Addr.add; rfl
  intro m
  induction m with
  | zero =>
    intro L u M s F g hLm hu hs hJ hget hF hM
    refine Rets.run hX.pres p49 (hX.free 49 (by decide) _ _) rfl fun ho => ?_
    have hl := hs.read.len
    rw [ints_len] at hl
    have e1 : (L.length : Int) = n := by omega
    have hc0 : cntW n 0 u L = 1 := rfl
    have hn0 : ∀ r, nthW n 0 u L r = L := fun r => rfl
    rw [hc0, hn0]
    unfold fndOb at hget ⊢
    by_cases cm : (M : Int) = rr
    · subst cm
      have hF0 := hF (Int.le_refl _)
      subst hF0
      simp +decide (disch := first | assumption | (apply GH.ok_push; assumption) | exact cellV_int _ _ | exact cellV_bool _ | omega) only [go_sem, ↓reduceIte, Nat.reduceEqDiff, Nat.reduceAdd, Int.reduceToNat, hl, hnil, hf0, hf1, hf2, hf3, hget, e1]
      have fin : ∀ (s' : Value) (g2 : GH), g2.ok → Kept g g2 → NowOk g2 s' L → ∀ G, G = (g2.set J (cellsOb [.int .i64 (n : Int), .int .i64 (M : Int), .int .i64 (M : Int), s'] 52)).set J (cellsOb [.int .i64 (n : Int), .int .i64 ((M : Int) + 1), .int .i64 (M : Int), s'] 52) →
          KeptJ g G J ∧ ∃ F', G.get J = cellsOb [.int .i64 (n : Int), .int .i64 ((M : Int) + 1), .int .i64 (M : Int), F'] 52 ∧ Fnd G (.slice none 0 0) F' M 1 (M : Int) L := by
        rintro s' g2 hok2 hk2 hno G rfl
        have hn2 := hk2.next
        have hg2 := (hk2.gets J hJ).trans hget
        have hw1 := Wrote.set (o := cellsOb [.int .i64 (n : Int), .int .i64 (M : Int), .int .i64 (M : Int), s'] 52) hg2 Nat.one_ne_zero hok2
        have hw2 := Wrote.set (o := cellsOb [.int .i64 (n : Int), .int .i64 ((M : Int) + 1), .int .i64 (M : Int), s'] 52) hw1.get Nat.one_ne_zero hw1.ok
        have hkj : ∀ {a b : GH} {o : Ob}, Wrote a b J o → KeptJ a b J := fun hw => ⟨by rw [hw.next]; exact Nat.le_refl _, fun j hj hne => hw.others j hne, fun f hf => hw.fams f⟩
        refine ⟨((KeptJ.of hk2).trans (hkj hw1)).trans (hkj hw2), s', hw2.get, ?_⟩
        unfold Fnd
        rw [if_pos (by omega)]
        exact NowOk.keptF (NowOk.keptF (n := n) (M := M) (r := (M : Int)) (F := .slice none 0 0) hno (hkj hw1) hg2) (hkj hw2) (n := n) (M := M) (r := (M : Int)) (F := s') hw1.get
      by_cases cL : L = []
      · subst cL
        refine AppD.none hs.read (by omega) ?_
        have hset : ∀ o, (g.set J o).get J = o := fun o => GH.get_set_same hget Nat.one_ne_zero o
        simp +decide (disch := first | assumption | (apply GH.ok_push; assumption) | exact cellV_int _ _ | exact cellV_bool _ | omega) only [go_sem, ↓reduceIte, Nat.reduceEqDiff, Nat.reduceAdd, Int.reduceToNat, hnil, hf1, hf3, hget, hset]
        intro hx0
        have := fin (.slice none 0 0) g ho (Kept.refl g) (.inl ⟨0, Own.nil⟩) _ rfl
        exact ⟨by omega, this.1, this.2⟩
      · refine AppD.own2 (lw := J) (base := g.next) Own.nil hs.read (by simpa [ints] using cL) (ints_cell L) (by simp [ints_len]; omega) (Nat.le_refl _) (by omega) (by omega) ho (fun s' g2 lo2 sp wr hgr hlo2 => ?_)
        have hk2 := (Kept.refl g).grew2 hgr (Nat.le_refl _)
        have hn2 := hk2.next
        have hget2 := (hk2.gets J hJ).trans hget
        have hset : ∀ o, (g2.set J o).get J = o := fun o => GH.get_set_same hget2 Nat.one_ne_zero o
        have hown := hgr.own
        obtain ⟨j2, c2, rfl⟩ : ∃ j2 c2, s' = .slice (some ⟨j2, 0, none⟩) ([] ++ ints L).length c2 := by
          rcases hgr.own with ⟨_, h⟩ | ⟨j, fam, h, _⟩
          · exact absurd h (by simpa [ints] using cL)
          · exact ⟨j, _, h⟩
        simp +decide (disch := first | assumption | (apply GH.ok_push; assumption) | exact cellV_int _ _ | exact cellV_bool _ | omega) only [go_sem, ↓reduceIte, Nat.reduceEqDiff, Nat.reduceAdd, Int.reduceToNat, hnil, hf1, hf3, hget2, hset]
        intro hx0
        have := fin _ g2 hgr.ok hk2 (.inl ⟨g.next, hown⟩) _ rfl
        exact ⟨by omega, this.1, this.2⟩
    · have cm' : ¬ (M : Int) = (rr : Int) := cm
      simp +decide (disch := first | assumption | (apply GH.ok_push; assumption) | exact cellV_int _ _ | exact cellV_bool _ | omega) only [go_sem, ↓reduceIte, Nat.reduceEqDiff, Nat.reduceAdd, Int.reduceToNat, hl, hnil, hf0, hf1, hf2, hget, e1, cm']
      have hw := Wrote.set (o := cellsOb [.int .i64 (n : Int), .int .i64 ((M : Int) + 1), .int .i64 (rr : Int), F] 52) hget Nat.one_ne_zero ho
      intro hx0
      refine ⟨by omega, ⟨by rw [hw.next]; exact Nat.le_refl _, fun j hj hne => hw.others j hne, fun f hf => hw.fams f⟩, F, hw.get, ?_⟩
      unfold Fnd
      rw [if_neg (by omega)]
  | succ m ihm =>
    intro L u M s F g hLm hu hs hJ hget hF hM
    refine Rets.run hX.pres p49 (hX.free 49 (by decide) _ _) rfl fun ho => ?_
    have hl := hs.read.len
    rw [ints_len] at hl
    have e1 : ¬ (L.length : Int) = n := by omega
    have hget0 := hget
    unfold fndOb at hget
    have hp10 : 10 ^ (m + 1) = 10 * 10 ^ m := by rw [Nat.pow_succ]; omega
    rw [cntW_succ]
    have htb : ∀ k, termW n m u L k ≤ 10 ^ m := by
      intro k
      unfold termW
      split
      · exact cntW_le n hn m _ _
      · exact Nat.zero_le _
    obtain ⟨R, hR⟩ : ∃ R, nthW n (m + 1) u L (rr - M).toNat = R := ⟨_, rfl⟩
    rw [hR]
    simp +decide (disch := first | assumption | (apply GH.ok_push; assumption) | exact cellV_int _ _ | exact cellV_bool _ | omega) only [go_sem, ↓reduceIte, Nat.reduceEqDiff, Nat.reduceAdd, Int.reduceToNat, hl, hnil, hf0, hget, e1]
    refine Wk.loops (fun r e g' lo => J ≤ lo ∧ KeptJ g g' J ∧ ∃ k : Nat, k + r = n ∧ (ev e (.s 0) = .pointer (some ⟨J, 0, none⟩) ∧ ev e (.s 1) = s ∧ ev e (.s 2) = .int .i64 u ∧ ev e (.s 6) = .int .i64 ((k : Int) + 1)) ∧ ∃ F', g'.get J = fndOb n (M + sumTo (termW n m u L) k) rr F' ∧ Fnd g' F F' M (sumTo (termW n m u L) k) rr R)
      (fun e g' lo => J ≤ lo ∧ KeptJ g g' J ∧ ∃ F', g'.get J = fndOb n (M + sumTo (termW n m u L) n) rr F' ∧ Fnd g' F F' M (sumTo (termW n m u L) n) rr R) (n := n) ?_ ?_ ?_
    · refine ⟨by omega, KeptJ.of (Kept.refl _), 0, by omega, (by simp +decide (disch := first | assumption | (apply GH.ok_push; assumption) | exact cellV_int _ _ | exact cellV_bool _ | omega) only [go_sem, ↓reduceIte, Nat.reduceEqDiff, Nat.reduceAdd, Int.reduceToNat]; first | done | exact rfl), F, hget0, ?_⟩
      unfold Fnd
      rw [if_neg (by simp only [sumTo]; omega)]
    · rintro e g' lo hog - ⟨hlo, hk, F', hg, hf⟩
      simp +decide (disch := first | assumption | (apply GH.ok_push; assumption) | exact cellV_int _ _ | exact cellV_bool _ | omega) only [go_sem, ↓reduceIte, Nat.reduceEqDiff, Nat.reduceAdd, Int.reduceToNat]
      intro hx0
      exact ⟨hlo, hk, F', hg, hf⟩
    · rintro r e g' lo ho' hl' ih out ⟨hlo, hk, k, hkr, he, F', hg, hfnd⟩
      have hkn := hk.next
      have hg' := hg
      unfold fndOb at hg'
      by_cases ck : k < n
      · have hstep : sumTo (termW n m u L) (k + 1) = sumTo (termW n m u L) k + termW n m u L k := rfl
        have hsb : sumTo (termW n m u L) k + 10 ^ m ≤ 10 * 10 ^ m := by
          have h1 := sumTo_le htb k
          have h2 : (k + 1) * 10 ^ m ≤ 10 * 10 ^ m := Nat.mul_le_mul_right _ (by omega)
          rw [Nat.succ_mul] at h2
          omega
        have ek : ((k + 1 : Nat) : Int) = (k : Int) + 1 := by push_cast; rfl
        have hsr : ((u : Int).fdiv (Int.ofNat (Nat.pow 2 (min ((k + 1 : Nat) : Int).toNat 64)))).tmod 2 = ((u / 2 ^ (k + 1) % 2 : Nat) : Int) := by rw [shr_fact u (k + 1) (by omega)]; rfl
        rw [ek] at hsr
        have hown1 := NowOk.keptF hs hk hget0
        have hlv := hown1.read.len
        have hcl := NowOk.clip hown1 (by omega)
        rw [ints_len] at hlv
        -- what was found is kept by what leaves it alone
        have hfk : ∀ {g2 : GH}, KeptJ g' g2 J → Fnd g2 F F' M (sumTo (termW n m u L) k) rr R := by
          intro g2 hkk
          unfold Fnd at hfnd ⊢
          split
          · rename_i c
            rw [if_pos c] at hfnd
            exact NowOk.keptF hfnd hkk hg
          · rename_i c
            rw [if_neg c] at hfnd
            exact hfnd
        simp +decide (disch := first | assumption | (apply GH.ok_push; assumption) | exact cellV_int _ _ | exact cellV_bool _ | omega) only [go_sem, ↓reduceIte, Nat.reduceEqDiff, Nat.reduceAdd, Int.reduceToNat, he, hnil, hf0, hg', hlv, hcl]
        have hpk := (Kept.refl g').push ho' (cellsOb [Value.int .i64 ((k : Int) + 1)] 3)
        refine NowOk.app (lw := J) (hown1.kept hpk) (SlR.one ho' _ _) (by omega) hlo (by show J ≤ g'.next + 1; omega) (GH.ok_push ho') (fun s' g2 lo2 sp wr hok2 hkg2 hgo hlo2 => ?_)
        have hk2 : Kept g' g2 := hpk.trans hkg2
        have hk2n := hk2.next
        have hg2 : g2.get J = fndOb n (M + sumTo (termW n m u L) k) rr F' := by rw [hk2.gets J (by omega)]; exact hg
        have hkJ2 := hk.trans (KeptJ.of (J := J) hk2)
        by_cases c1 : u / 2 ^ (k + 1) % 2 = 0
        · rw [c1] at hsr
          simp +decide (disch := first | assumption | (apply GH.ok_push; assumption) | exact cellV_int _ _ | exact cellV_bool _ | omega) only [go_sem, ↓reduceIte, Nat.reduceEqDiff, Nat.reduceAdd, Int.reduceToNat, he, hsr]
          refine CallD.calm (refWaveG_rets hX (L ++ [(k : Int) + 1]) (by simp; omega) s' _ hgo.read) ?_
          rintro v g3 hx3 rfl
          have hn3 := hx3.next
          have hkJ3 := hkJ2.trans (KeptJ.of (J := J) hx3.kept)
          have hk3 : KeptJ g' g3 J := (KeptJ.of hk2).trans (KeptJ.of hx3.kept)
          have hg3 : g3.get J = fndOb n (M + sumTo (termW n m u L) k) rr F' := by rw [hx3.kept.gets J (by omega)]; exact hg2
          cases hb : refTurnL true (L ++ [(k : Int) + 1]) with
          | false =>
            have ht : termW n m u L k = 0 := by unfold termW; rw [if_neg (fun h => by rw [hb] at h; exact absurd h.2 (by decide))]
            simp +decide (disch := first | assumption | (apply GH.ok_push; assumption) | exact cellV_int _ _ | exact cellV_bool _ | omega) only [go_sem, ↓reduceIte, Nat.reduceEqDiff, Nat.reduceAdd, Int.reduceToNat, he]
            exact ih (r - 1) _ _ _ (by omega) ⟨hlo2, hkJ3, k + 1, by omega, (by simp +decide (disch := first | assumption | (apply GH.ok_push; assumption) | exact cellV_int _ _ | exact cellV_bool _ | omega) only [go_sem, ↓reduceIte, Nat.reduceEqDiff, Nat.reduceAdd, Int.reduceToNat, he]; first | done | exact rfl), F', by rw [hstep, ht, Nat.add_zero]; exact hg3, by rw [hstep, ht, Nat.add_zero]; exact hfk hk3⟩
          | true =>
            have ht : termW n m u L k = cntW n m (u ||| 2 ^ (k + 1)) (L ++ [(k : Int) + 1]) := by unfold termW; rw [if_pos ⟨c1, hb⟩]
            have hsl := shl_fact (k + 1) (by omega)
            rw [ek] at hsl
            have hpw : 2 ^ (k + 1) ≤ 2 ^ 11 := Nat.pow_le_pow_right (by omega) (by omega)
            have hor : u ||| 2 ^ (k + 1) < 2 ^ 40 := Nat.or_lt_two_pow hu (by omega)
            have horr := or_fact hu (show 2 ^ (k + 1) < 2 ^ 40 by omega)
            have hF2 : ((M + sumTo (termW n m u L) k : Nat) : Int) ≤ rr → F' = .slice none 0 0 := by
              intro h
              unfold Fnd at hfnd
              rw [if_neg (by omega)] at hfnd
              rw [hfnd]
              exact hF (by omega)
            have hcall := ihm (L ++ [(k : Int) + 1]) (u ||| 2 ^ (k + 1)) (M + sumTo (termW n m u L) k) s' F' g3 (by simp; omega) hor (hgo.kept hx3.kept) (by omega) hg3 hF2 (by omega)
            have hnth : ((M + sumTo (termW n m u L) k : Nat) : Int) ≤ rr → rr < ((M + sumTo (termW n m u L) k : Nat) : Int) + (termW n m u L k : Nat) → nthW n m (u ||| 2 ^ (k + 1)) (L ++ [(k : Int) + 1]) (rr - ((M + sumTo (termW n m u L) k : Nat) : Int)).toNat = R := by
              intro h1 h2
              rw [← hR, nthW_at ck (by omega) (by rw [hstep]; omega), show (rr - (M : Int)).toNat - sumTo (termW n m u L) k = (rr - ((M + sumTo (termW n m u L) k : Nat) : Int)).toNat by omega]
            obtain ⟨w, hw⟩ : ∃ w, 2 ^ (k + 1) = w := ⟨_, rfl⟩
            rw [hw] at hsl hpw hcall horr ht hnth
            rw [← ht] at hcall
            rw [← horr] at hcall
            simp +decide (disch := first | assumption | (apply GH.ok_push; assumption) | exact cellV_int _ _ | exact cellV_bool _ | omega) only [go_sem, ↓reduceIte, Nat.reduceEqDiff, Nat.reduceAdd, Int.reduceToNat, he, hsl]
            refine CallD.call hcall ?_
            rintro v g4 lo4 hx4 ⟨hlo4, hk4, F2, hg4, hf4⟩
            have hn4 := hk4.next
            simp +decide (disch := first | assumption | (apply GH.ok_push; assumption) | exact cellV_int _ _ | exact cellV_bool _ | omega) only [go_sem, ↓reduceIte, Nat.reduceEqDiff, Nat.reduceAdd, Int.reduceToNat, he]
            refine ih (r - 1) _ _ _ (by omega) ⟨by omega, hkJ3.trans hk4, k + 1, by omega, (by simp +decide (disch := first | assumption | (apply GH.ok_push; assumption) | exact cellV_int _ _ | exact cellV_bool _ | omega) only [go_sem, ↓reduceIte, Nat.reduceEqDiff, Nat.reduceAdd, Int.reduceToNat, he]; first | done | exact rfl), F2, by rw [hstep, ← Nat.add_assoc]; exact hg4, ?_⟩
            rw [hstep]
            unfold Fnd at hf4
            by_cases q : ((M + sumTo (termW n m u L) k : Nat) : Int) ≤ rr ∧ rr < ((M + sumTo (termW n m u L) k : Nat) : Int) + (termW n m u L k : Nat)
            · rw [if_pos q, hnth q.1 q.2] at hf4
              unfold Fnd
              rw [if_pos (by omega)]
              exact hf4
            · rw [if_neg q] at hf4
              subst hf4
              have h5 := hfk (hk3.trans hk4)
              unfold Fnd at h5 ⊢
              by_cases q2 : (M : Int) ≤ rr ∧ rr < (M : Int) + (sumTo (termW n m u L) k : Nat)
              · rw [if_pos q2] at h5
                rw [if_pos (by omega)]
                exact h5
              · rw [if_neg q2] at h5
                rw [if_neg (by omega)]
                exact h5
        · have c1' : u / 2 ^ (k + 1) % 2 = 1 := by omega
          have ht : termW n m u L k = 0 := by unfold termW; rw [if_neg (fun h => c1 h.1)]
          rw [c1'] at hsr
          simp +decide (disch := first | assumption | (apply GH.ok_push; assumption) | exact cellV_int _ _ | exact cellV_bool _ | omega) only [go_sem, ↓reduceIte, Nat.reduceEqDiff, Nat.reduceAdd, Int.reduceToNat, he, hsr]
          exact ih (r - 1) _ _ _ (by omega) ⟨hlo2, hkJ2, k + 1, by omega, (by simp +decide (disch := first | assumption | (apply GH.ok_push; assumption) | exact cellV_int _ _ | exact cellV_bool _ | omega) only [go_sem, ↓reduceIte, Nat.reduceEqDiff, Nat.reduceAdd, Int.reduceToNat, he]; first | done | exact rfl), F', by rw [hstep, ht, Nat.add_zero]; exact hg2, by rw [hstep, ht, Nat.add_zero]; exact hfk (KeptJ.of hk2)⟩
      · have : k = n := by omega
        subst this
        simp +decide (disch := first | assumption | (apply GH.ok_push; assumption) | exact cellV_int _ _ | exact cellV_bool _ | omega) only [go_sem, ↓reduceIte, Nat.reduceEqDiff, Nat.reduceAdd, Int.reduceToNat, he, hnil, hf0, hg']
        exact out _ _ _ ⟨hlo, hk, F', hg, hfnd⟩
end Go.Proofs.Yteeelcmnlomgmaa
set_option maxRecDepth 100000
set_option maxHeartbeats 8000000
set_option linter.unusedSimpArgs false
set_option linter.unusedVariables false
namespace Go.Proofs.Yteeelcmnlomgmaa
open Go.Ds
theorem fnd_build (n r : Int) : buildF [(0, 1), (1, 1), (2, 1), (3, 1)] none #[.int .i64 0, .int .i64 0, .int .i64 0, .slice none 0 0] [(0, .int .i64 n), (2, .int .i64 r)] = some (.agg #[.int .i64 n, .int .i64 0, .int .i64 r, .slice none 0 0]) := by
  rfl
def atT (n r : Int) : List Int × Int := if n < 0 ∨ 10 < n then ([], 2) else if r < 0 ∨ (cntW n.toNat n.toNat 0 [] : Int) ≤ r then ([], 4) else (nthW n.toNat n.toNat 0 [] r.toNat, 0)
def RetL (g : GH) (v : Value) (r : List Int × Int) : Prop := ∃ u, v = .tuple #[u, .int .i64 r.2] ∧ SlR g u (ints r.1)
theorem refAt_rets {X : Caller} (hX : Xok X) (n r : Int) (g : GH) : Rets Try.prog X 35 [.int .i64 n, .int .i64 r] g (fun v g' lo => g.next ≤ lo ∧ RetL g' v (atT n r)) := by
  refine Rets.run hX.pres p35 (hX.free 35 (by decide) _ _) rfl fun ho => ?_
  by_cases c : n < 0
  · have hT : atT n r = ([], 2) := by rw [atT, if_pos (.inl c)]
    simp +decide (disch := first | assumption | (apply GH.ok_push; assumption) | exact cellV_int _ _ | exact cellV_bool _ | omega) only [go_sem, ↓reduceIte, Nat.reduceEqDiff, Nat.reduceAdd, Int.reduceToNat]
    intro hx0
    exact ⟨Nat.le_refl _, _, by rw [hT], by rw [hT]; exact SlR.nil⟩
  · by_cases c2 : 10 < n
    · have hT : atT n r = ([], 2) := by rw [atT, if_pos (.inr c2)]
      simp +decide (disch := first | assumption | (apply GH.ok_push; assumption) | exact cellV_int _ _ | exact cellV_bool _ | omega) only [go_sem, ↓reduceIte, Nat.reduceEqDiff, Nat.reduceAdd, Int.reduceToNat]
      intro hx0
      exact ⟨Nat.le_refl _, _, by rw [hT], by rw [hT]; exact SlR.nil⟩
    · obtain ⟨k, rfl⟩ : ∃ k : Nat, n = k := ⟨n.toNat, by omega⟩
      have hTT : atT k r = if r < 0 ∨ (cntW k k 0 [] : Int) ≤ r then ([], 4) else (nthW k k 0 [] r.toNat, 0) := by
        rw [atT, if_neg (by omega), Int.toNat_natCast]
      have hb := fnd_build k r
      have hpl := pow10 (m := k) (by omega)
      have hcl := cntW_le k (by omega) k 0 []
      simp +decide (disch := first | assumption | (apply GH.ok_push; assumption) | exact cellV_int _ _ | exact cellV_bool _ | omega) only [go_sem, ↓reduceIte, Nat.reduceEqDiff, Nat.reduceAdd, Int.reduceToNat, hb]
      obtain ⟨G, hG⟩ : ∃ G, ((g.push (cellsOb [.int .i64 0, .int .i64 0, .int .i64 0, .slice none 0 0] 52)).set g.next (cellsOb (splice 0 [.int .i64 0, .int .i64 0, .int .i64 0, .slice none 0 0] [.int .i64 (k : Int), .int .i64 0, .int .i64 r, .slice none 0 0]) 52)) = G := ⟨_, rfl⟩
      have hw := Wrote.set (g := g.push (cellsOb [.int .i64 0, .int .i64 0, .int .i64 0, .slice none 0 0] 52)) (j := g.next) (o := cellsOb (splice 0 [.int .i64 0, .int .i64 0, .int .i64 0, .slice none 0 0] [.int .i64 (k : Int), .int .i64 0, .int .i64 r, .slice none 0 0]) 52) (by rw [GH.get_push ho, if_pos rfl]) Nat.one_ne_zero (GH.ok_push ho)
      rw [hG] at hw ⊢
      have hnG : G.next = g.next + 1 := hw.next
      have hget : G.get g.next = fndOb k 0 r (.slice none 0 0) := hw.get
      refine CallD.call (on2_rets hX k (by omega) g.next r k [] 0 0 _ (.slice none 0 0) G (by simp) (by omega) (.inl ⟨0, Own.nil⟩) (by omega) hget (fun _ => rfl) (by omega)) ?_
      rintro v g4 lo4 hx4 ⟨hlo4, hk4, F2, hg4, hf4⟩
      have hn4 := hk4.next
      rw [Nat.zero_add] at hg4
      unfold fndOb at hg4
      unfold Fnd at hf4
      have hf1 : faddrF 1 (ptrTo g.next) = some (.pointer (some ⟨g.next, 1, none⟩)) := by
        show some (Value.pointer (some ((⟨g.next, 0, none⟩ : Addr).add 1))) = _
        unfold Addr.add; rfl
      have hf3 : faddrF 3 (ptrTo g.next) = some (.pointer (some ⟨g.next, 3, none⟩)) := by
        show some (Value.pointer (some ((⟨g.next, 0, none⟩ : Addr).add 3))) = _
        unfold Addr.add; rfl
      obtain ⟨K, hK⟩ : ∃ K, cntW k k 0 [] = K := ⟨_, rfl⟩
      rw [hK] at hg4 hf4 hTT hcl
      by_cases r0 : r < 0
      · have hT : atT k r = ([], 4) := by rw [hTT, if_pos (.inl r0)]
        simp +decide (disch := first | assumption | (apply GH.ok_push; assumption) | exact cellV_int _ _ | exact cellV_bool _ | omega) only [go_sem, ↓reduceIte, Nat.reduceEqDiff, Nat.reduceAdd, Int.reduceToNat, hf1, hf3, hg4, r0]
        intro hx0
        exact ⟨by omega, _, by rw [hT], by rw [hT]; exact SlR.nil⟩
      · by_cases r1 : (K : Int) ≤ r
        · have hT : atT k r = ([], 4) := by rw [hTT, if_pos (.inr r1)]
          simp +decide (disch := first | assumption | (apply GH.ok_push; assumption) | exact cellV_int _ _ | exact cellV_bool _ | omega) only [go_sem, ↓reduceIte, Nat.reduceEqDiff, Nat.reduceAdd, Int.reduceToNat, hf1, hf3, hg4, r0, r1]
          intro hx0
          exact ⟨by omega, _, by rw [hT], by rw [hT]; exact SlR.nil⟩
        · have hT : atT k r = (nthW k k 0 [] r.toNat, 0) := by rw [hTT, if_neg (by omega)]
          rw [if_pos (by omega), show (r - ((0 : Nat) : Int)).toNat = r.toNat by omega] at hf4
          simp +decide (disch := first | assumption | (apply GH.ok_push; assumption) | exact cellV_int _ _ | exact cellV_bool _ | omega) only [go_sem, ↓reduceIte, Nat.reduceEqDiff, Nat.reduceAdd, Int.reduceToNat, hf1, hf3, hg4, r0, r1]
          intro hx0
          exact ⟨by omega, F2, by rw [hT], by rw [hT]; exact hf4.read⟩
def rankT (W : List Int) : Int × Int := if rowE W = 0 then (if inTurnL true W = true then ((befW W W.length W.length 0 [] : Nat), 0) else (0, 9)) else (0, rowE W)
theorem refRank_rets {X : Caller} (hX : Xok X) (W : List Int) (hW : W.length ≤ 1000) (s : Value) (g : GH) (hs : SlR g s (ints W)) :
    Rets Try.prog X 33 [s] g (fun v g' lo => g.next ≤ lo ∧ v = .tuple #[.int .i64 (rankT W).1, .int .i64 (rankT W).2]) := by
  have e0 : ∀ a b : Value, extF (.tuple #[a, b]) 0 = some a := fun _ _ => rfl
  have e1 : ∀ a b : Value, extF (.tuple #[a, b]) 1 = some b := fun _ _ => rfl
  refine Rets.run hX.pres p33 (hX.free 33 (by decide) _ _) rfl fun ho => ?_
  simp +decide (disch := first | assumption | (apply GH.ok_push; assumption) | exact cellV_int _ _ | exact cellV_bool _ | omega) only [go_sem, ↓reduceIte, Nat.reduceEqDiff, Nat.reduceAdd, Int.reduceToNat]
  refine CallD.calm (refIsWave_rets hX W hW s g hs) ?_
  rintro v G hx rfl
  have hn := hx.next
  have hs1 := hs.ext hx
  by_cases c : rowE W = 0
  case neg =>
    have hT : rankT W = (0, rowE W) := by rw [rankT, if_neg c]
    rw [hT]
    simp +decide (disch := first | assumption | (apply GH.ok_push; assumption) | exact cellV_int _ _ | exact cellV_bool _ | omega) only [go_sem, ↓reduceIte, Nat.reduceEqDiff, Nat.reduceAdd, Int.reduceToNat, e0, e1, c]
    intro hx0
    exact ⟨by omega, rfl⟩
  have hl10 := (row_facts c).1
  have hwB : waveB W = inTurnL true W := by unfold waveB; rw [decide_eq_true c, Bool.true_and]
  rw [hwB, c]
  cases hb : inTurnL true W with
  | false =>
    have hT : rankT W = (0, 9) := by rw [rankT, if_pos c, if_neg (by rw [hb]; decide)]
    rw [hT]
    simp +decide (disch := first | assumption | (apply GH.ok_push; assumption) | exact cellV_int _ _ | exact cellV_bool _ | omega) only [go_sem, ↓reduceIte, Nat.reduceEqDiff, Nat.reduceAdd, Int.reduceToNat, e0, e1]
    intro hx0
    exact ⟨by omega, rfl⟩
  | true =>
    have hT : rankT W = (((befW W W.length W.length 0 [] : Nat) : Int), 0) := by rw [rankT, if_pos c, if_pos hb]
    rw [hT]
    simp +decide (disch := first | assumption | (apply GH.ok_push; assumption) | exact cellV_int _ _ | exact cellV_bool _ | omega) only [go_sem, ↓reduceIte, Nat.reduceEqDiff, Nat.reduceAdd, Int.reduceToNat, e0, e1]
    refine CallD.calm (before_rets hX W W.length (by omega) rfl s W.length [] 0 _ G (by simp) (by omega) (.inl ⟨0, Own.nil⟩) hs1) ?_
    rintro v G2 hx2 rfl
    have hn2 := hx2.next
    simp +decide (disch := first | assumption | (apply GH.ok_push; assumption) | exact cellV_int _ _ | exact cellV_bool _ | omega) only [go_sem, ↓reduceIte, Nat.reduceEqDiff, Nat.reduceAdd, Int.reduceToNat]
    intro hx0
    exact ⟨by omega, rfl⟩
end Go.Proofs.Yteeelcmnlomgmaa
set_option maxRecDepth 100000
set_option maxHeartbeats 4000000
set_option linter.unusedSimpArgs false
set_option linter.unusedVariables false
namespace Go.Proofs.Yteeelcmnlomgmaa
open Go.Ds
/-! ## The numbers that are left, and what they say -/
def leftOf (u : Nat) : Nat → List Int
  | 0 => []
  | n + 1 => leftOf u n ++ (if fr u n = 1 then [(n : Int) + 1] else [])
theorem fr_cases (u k : Nat) : fr u k = 0 ∨ fr u k = 1 := by
  unfold fr; split
  · exact .inr rfl
  · exact .inl rfl
theorem leftOf_len (u : Nat) : ∀ n, (leftOf u n).length = rkT u n
  | 0 => rfl
  | n + 1 => by
    rw [leftOf, List.length_append, leftOf_len u n, rkT_succ]
    rcases fr_cases u n with h | h
    · rw [h, if_neg (by decide)]; rfl
    · rw [h, if_pos rfl]; rfl
theorem rkT_lt {u k n : Nat} (hk : k < n) (hf : fr u k = 1) : rkT u k < rkT u n := by
  have h1 := rkT_mono u (show k + 1 ≤ n by omega)
  rw [rkT_succ, hf] at h1
  omega
theorem leftOf_at {u k : Nat} (hf : fr u k = 1) : ∀ {n : Nat}, k < n → (leftOf u n).getD (rkT u k) 0 = (k : Int) + 1
  | 0, h => by omega
  | n + 1, h => by
    have hl := leftOf_len u n
    rw [leftOf, List.getD_eq_getElem?_getD]
    by_cases c : k < n
    · have := rkT_lt c hf
      rw [List.getElem?_append_left (by omega), ← List.getD_eq_getElem?_getD]
      exact leftOf_at hf c
    · have : k = n := by omega
      subst this
      rw [List.getElem?_append_right (by omega), hl, Nat.sub_self, if_pos hf]
      rfl
theorem leftOf_same {u v : Nat} : ∀ {n : Nat}, (∀ k, k < n → fr u k = fr v k) → leftOf u n = leftOf v n
  | 0, _ => rfl
  | n + 1, h => by
    rw [leftOf, leftOf, leftOf_same (fun k hk => h k (by omega)), h n (by omega)]
theorem leftOf_erase {u k : Nat} (hf : fr u k = 1) : ∀ {n : Nat}, k < n → leftOf (u ||| 2 ^ (k + 1)) n = (leftOf u n).eraseIdx (rkT u k)
  | 0, h => by omega
  | n + 1, h => by
    have hl := leftOf_len u n
    rw [leftOf, leftOf, fr_or]
    by_cases c : k < n
    · have := rkT_lt c hf
      rw [show (if n = k then 0 else fr u n) = fr u n from if_neg (by omega), leftOf_erase hf c, List.eraseIdx_append_of_lt_length (by omega)]
    · have : k = n := by omega
      subst this
      rw [if_pos rfl, if_neg (by decide), List.append_nil, if_pos hf, List.eraseIdx_append_of_length_le (by omega), hl, Nat.sub_self]
      rw [leftOf_same (v := u) fun j hj => by rw [fr_or, if_neg (by omega)]]
      simp
/-- How many waves go on with the i-th number that is left. -/
def wayV (L A : List Int) (i : Nat) : Nat := if refTurnL true (L ++ [A.getD i 0]) = true then (if L.length % 2 = 0 then frm A.length (i + 1) else frm A.length (A.length - i)) else 0
theorem terms_ways {n : Nat} (hn : n ≤ 10) {m : Nat} (hm : m < 10) {u : Nat} {L : List Int} (hL : refTurnL true L = true) (hu : rkT u n = m + 1) : ∀ c, c ≤ n → sumTo (termW n m u L) c = sumTo (wayV L (leftOf u n)) (rkT u c)
  | 0, _ => rfl
  | c + 1, hc => by
    have ih := terms_ways hn hm hL hu c (by omega)
    show sumTo (termW n m u L) c + termW n m u L c = _
    rw [ih, rkT_succ]
    rcases fr_cases u c with h | h
    · have : termW n m u L c = 0 := by
        unfold termW
        rw [if_neg]
        rintro ⟨h2, _⟩
        unfold fr at h
        rw [if_pos h2] at h
        cases h
      rw [this, h]; rfl
    · rw [termW_rank hn hm hL hu (by omega) h, h]
      show _ = sumTo (wayV L (leftOf u n)) (rkT u c) + wayV L (leftOf u n) (rkT u c)
      unfold wayV
      rw [leftOf_at h (by omega), leftOf_len, hu]
/-! ## The rank of a wave -/
theorem lexL_self : ∀ W : List Int, lexL W W = false
  | [] => rfl
  | a :: W => by rw [lexL, if_pos rfl, lexL_self W]
theorem lexL_split (x y : Int) (hxy : y ≠ x) (S T : List Int) : ∀ P : List Int, lexL (P ++ y :: S) (P ++ x :: T) = decide (y < x)
  | [] => by show lexL (y :: S) (x :: T) = _; rw [lexL, if_neg hxy]
  | p :: P => by show lexL (p :: (P ++ y :: S)) (p :: (P ++ x :: T)) = _; rw [lexL, if_pos rfl, lexL_split x y hxy S T P]
theorem sumTo_congr {f h : Nat → Nat} : ∀ c, (∀ k, k < c → f k = h k) → sumTo f c = sumTo h c
  | 0, _ => rfl
  | c + 1, k => by
    show sumTo f c + f c = sumTo h c + h c
    rw [sumTo_congr c fun i hi => k i (by omega), k c (by omega)]
theorem sumTo_zero {f : Nat → Nat} : ∀ c, (∀ k, k < c → f k = 0) → sumTo f c = 0
  | 0, _ => rfl
  | c + 1, k => by
    show sumTo f c + f c = 0
    rw [sumTo_zero c fun i hi => k i (by omega), k c (by omega)]
theorem befW_split (n : Nat) (x y : Int) (hxy : y ≠ x) (P T : List Int) : ∀ (m u : Nat) (S : List Int), befW (P ++ x :: T) n m u (P ++ y :: S) = if y < x then cntW n m u (P ++ y :: S) else 0
  | 0, u, S => by
    unfold befW
    rw [lexL_split x y hxy S T P]
    by_cases c : y < x
    · rw [if_pos c, decide_eq_true c]; rfl
    · rw [if_neg c, decide_eq_false c]; rfl
  | m + 1, u, S => by
    have e : ∀ k : Nat, termB (P ++ x :: T) n m u (P ++ y :: S) k = if y < x then termW n m u (P ++ y :: S) k else 0 := by
      intro k
      unfold termB termW
      have := befW_split n x y hxy P T m (u ||| 2 ^ (k + 1)) (S ++ [(k : Int) + 1])
      rw [List.append_assoc, List.cons_append, this]
      by_cases c : y < x
      · simp only [if_pos c]
      · simp only [if_neg c, ite_self]
    rw [befW_succ, cntW_succ]
    by_cases c : y < x
    · rw [if_pos c]
      exact sumTo_congr n fun k _ => by rw [e, if_pos c]
    · rw [if_neg c]
      exact sumTo_zero n fun k _ => by rw [e, if_neg c]
/-- One step of the rank. -/
theorem befW_step {n : Nat} (m u : Nat) (L T : List Int) {k : Nat} (hk : k < n) (hf : fr u k = 1) (hw : refTurnL true (L ++ [(k : Int) + 1]) = true) :
    befW (L ++ ((k : Int) + 1) :: T) n (m + 1) u L = sumTo (termW n m u L) k + befW (L ++ ((k : Int) + 1) :: T) n m (u ||| 2 ^ (k + 1)) (L ++ [(k : Int) + 1]) := by
  have hu : u / 2 ^ (k + 1) % 2 = 0 := by
    unfold fr at hf
    split at hf
    · assumption
    · cases hf
  have e : ∀ j : Nat, j ≠ k → termB (L ++ ((k : Int) + 1) :: T) n m u L j = if j < k then termW n m u L j else 0 := by
    intro j hj
    unfold termB termW
    have := befW_split n ((k : Int) + 1) ((j : Int) + 1) (by omega) L T m (u ||| 2 ^ (j + 1)) []
    rw [this]
    by_cases c : j < k
    · rw [if_pos (show (j : Int) + 1 < (k : Int) + 1 by omega), if_pos c]
    · rw [if_neg (show ¬ (j : Int) + 1 < (k : Int) + 1 by omega), if_neg c, ite_self]
  rw [befW_succ]
  have key : ∀ d, k + 1 + d ≤ n → sumTo (termB (L ++ ((k : Int) + 1) :: T) n m u L) (k + 1 + d) = sumTo (termW n m u L) k + befW (L ++ ((k : Int) + 1) :: T) n m (u ||| 2 ^ (k + 1)) (L ++ [(k : Int) + 1]) := by
    intro d
    induction d with
    | zero =>
      intro _
      show sumTo _ k + termB _ n m u L k = _
      rw [sumTo_congr k fun j hj => by rw [e j (by omega), if_pos hj]]
      congr 1
      unfold termB
      rw [if_pos ⟨hu, hw⟩]
    | succ d ih =>
      intro hd
      show sumTo _ (k + 1 + d) + termB _ n m u L (k + 1 + d) = _
      rw [ih (by omega), e _ (by omega), if_neg (by omega)]
      rfl
  have := key (n - (k + 1)) (by omega)
  rw [show k + 1 + (n - (k + 1)) = n by omega] at this
  exact this
end Go.Proofs.Yteeelcmnlomgmaa
set_option maxRecDepth 100000
set_option maxHeartbeats 4000000
set_option linter.unusedSimpArgs false
set_option linter.unusedVariables false
namespace Go.Proofs.Yteeelcmnlomgmaa
open Go.Ds
/-! ## The rank and the row of a rank, step by step -/
theorem leftOf_pre (u : Nat) {k : Nat} : ∀ {n : Nat}, k ≤ n → ∃ S, leftOf u n = leftOf u k ++ S
  | 0, h => ⟨[], by rw [show k = 0 by omega]; rfl⟩
  | n + 1, h => by
    by_cases c : k = n + 1
    · exact ⟨[], by rw [c, List.append_nil]⟩
    · obtain ⟨S, hS⟩ := leftOf_pre u (show k ≤ n by omega)
      exact ⟨S ++ (if fr u n = 1 then [(n : Int) + 1] else []), by rw [leftOf, hS, List.append_assoc]⟩
theorem leftOf_mem {u : Nat} {x : Int} : ∀ {n : Nat}, x ∈ leftOf u n ↔ ∃ k : Nat, k < n ∧ x = (k : Int) + 1 ∧ fr u k = 1
  | 0 => by simp [leftOf]
  | n + 1 => by
    rw [leftOf, List.mem_append, leftOf_mem]
    constructor
    · rintro (⟨k, h1, h2, h3⟩ | h)
      · exact ⟨k, by omega, h2, h3⟩
      · split at h
        · rename_i hf
          simp only [List.mem_singleton] at h
          exact ⟨n, by omega, h, hf⟩
        · cases h
    · rintro ⟨k, h1, h2, h3⟩
      by_cases c : k = n
      · right
        subst c
        rw [if_pos h3, h2]; simp
      · exact .inl ⟨k, by omega, h2, h3⟩
theorem leftOf_before {u k n : Nat} (hk : k ≤ n) {j : Nat} (hj : j < rkT u k) : (leftOf u n).getD j 0 ≠ (k : Int) + 1 := by
  obtain ⟨S, hS⟩ := leftOf_pre u hk
  have hl := leftOf_len u k
  rw [hS, List.getD_eq_getElem?_getD, List.getElem?_append_left (by omega), List.getElem?_eq_getElem (by omega), Option.getD_some]
  intro e
  have := leftOf_mem.1 (List.getElem_mem (show j < (leftOf u k).length by omega))
  obtain ⟨i, h1, h2, _⟩ := this
  omega
theorem rkT_onto {u : Nat} : ∀ {n i : Nat}, i < rkT u n → ∃ k, k < n ∧ fr u k = 1 ∧ rkT u k = i
  | 0, i, h => by simp [rkT, sumTo] at h
  | n + 1, i, h => by
    rw [rkT_succ] at h
    by_cases c : i < rkT u n
    · obtain ⟨k, h1, h2, h3⟩ := rkT_onto c
      exact ⟨k, by omega, h2, h3⟩
    · rcases fr_cases u n with h0 | h0
      · omega
      · exact ⟨n, by omega, h0, by omega⟩
def rankU (n : Nat) : Nat → List Int → List Int → Nat
  | _, _, [] => 0
  | u, L, x :: R => sumTo (wayV L (leftOf u n)) (rkT u (x.toNat - 1)) + rankU n (u ||| 2 ^ (x.toNat - 1 + 1)) (L ++ [x]) R
theorem refTurnL_pre : ∀ (L : List Int) (up : Bool) (S : List Int), refTurnL up (L ++ S) = true → refTurnL up L = true
  | [], up, S, _ => by cases up <;> rfl
  | [a], up, S, _ => by cases up <;> rfl
  | a :: b :: L, up, S, h => by
    have h' : ((if up = true then decide (a < b) else decide (b < a)) && refTurnL (!up) ((b :: L) ++ S)) = true := h
    rw [Bool.and_eq_true] at h'
    show ((if up = true then decide (a < b) else decide (b < a)) && refTurnL (!up) (b :: L)) = true
    rw [h'.1, refTurnL_pre (b :: L) (!up) S h'.2]; rfl
theorem befW_rankU {n : Nat} (hn : n ≤ 10) : ∀ (R : List Int) (u : Nat) (L : List Int), R.length = rkT u n → (∀ x ∈ R, x ∈ leftOf u n) → R.Nodup → refTurnL true (L ++ R) = true →
    befW (L ++ R) n R.length u L = rankU n u L R
  | [], u, L, h1, _, _, _ => by
    show befW (L ++ []) n 0 u L = 0
    rw [List.append_nil]
    unfold befW
    rw [lexL_self]; rfl
  | x :: R, u, L, h1, h2, h3, h4 => by
    obtain ⟨k, hk, rfl, hf⟩ := leftOf_mem.1 (h2 x List.mem_cons_self)
    have hk1 : ((k : Int) + 1).toNat - 1 = k := by omega
    have hcon : refTurnL true (L ++ [(k : Int) + 1] ++ R) = true := by rw [List.append_assoc]; exact h4
    have hw := refTurnL_pre _ _ _ hcon
    have hwL := refTurnL_pre L true _ h4
    have hlen : R.length + 1 = rkT u n := h1
    have e1 := rkT_or u k hf n
    rw [if_pos hk] at e1
    have hle : rkT u n ≤ n := by
      have : ∀ c, rkT u c ≤ c := by
        intro c
        induction c with
        | zero => exact Nat.le_refl _
        | succ c ih => rw [rkT_succ]; rcases fr_cases u c with h | h <;> omega
      exact this n
    have h3' := List.nodup_cons.1 h3
    have ih := befW_rankU hn R (u ||| 2 ^ (k + 1)) (L ++ [(k : Int) + 1]) (by omega) (fun y hy => by
      obtain ⟨j, hj, rfl, hfj⟩ := leftOf_mem.1 (h2 y (List.mem_cons_of_mem _ hy))
      refine leftOf_mem.2 ⟨j, hj, rfl, ?_⟩
      rw [fr_or, if_neg]
      · exact hfj
      · intro e
        subst e
        exact h3'.1 hy) h3'.2 hcon
    rw [List.append_assoc] at ih
    show befW (L ++ ((k : Int) + 1) :: R) n (R.length + 1) u L = sumTo (wayV L (leftOf u n)) (rkT u (((k : Int) + 1).toNat - 1)) + rankU n (u ||| 2 ^ (((k : Int) + 1).toNat - 1 + 1)) (L ++ [(k : Int) + 1]) R
    rw [hk1, befW_step R.length u L R hk hf hw, terms_ways hn (by omega) hwL (by omega) k (by omega), ← ih]
    rfl
/-- One step of the search. -/
theorem nthW_step {n : Nat} (hn : n ≤ 10) {m u : Nat} {L : List Int} (hL : refTurnL true L = true) (hu : rkT u n = m + 1) {r i : Nat} (hi : i < m + 1) (h1 : sumTo (wayV L (leftOf u n)) i ≤ r) (h2 : r < sumTo (wayV L (leftOf u n)) (i + 1)) :
    ∃ k, k < n ∧ fr u k = 1 ∧ rkT u k = i ∧ (leftOf u n).getD i 0 = (k : Int) + 1 ∧ refTurnL true (L ++ [(k : Int) + 1]) = true ∧ nthW n (m + 1) u L r = nthW n m (u ||| 2 ^ (k + 1)) (L ++ [(k : Int) + 1]) (r - sumTo (wayV L (leftOf u n)) i) ∧
      r - sumTo (wayV L (leftOf u n)) i < cntW n m (u ||| 2 ^ (k + 1)) (L ++ [(k : Int) + 1]) := by
  have hle : rkT u n ≤ n := by
    have : ∀ c, rkT u c ≤ c := by
      intro c
      induction c with
      | zero => exact Nat.le_refl _
      | succ c ih => rw [rkT_succ]; rcases fr_cases u c with h | h <;> omega
    exact this n
  obtain ⟨k, hk, hf, rfl⟩ := rkT_onto (show i < rkT u n by omega)
  have a1 := terms_ways hn (m := m) (by omega) hL hu k (by omega)
  have a2 := terms_ways hn (m := m) (by omega) hL hu (k + 1) (by omega)
  rw [rkT_succ, hf] at a2
  have a3 : sumTo (termW n m u L) (k + 1) = sumTo (termW n m u L) k + termW n m u L k := rfl
  have ht : termW n m u L k ≠ 0 := by omega
  have hc : u / 2 ^ (k + 1) % 2 = 0 ∧ refTurnL true (L ++ [(k : Int) + 1]) = true := by
    unfold termW at ht
    split at ht
    · assumption
    · exact absurd rfl ht
  have htv : termW n m u L k = cntW n m (u ||| 2 ^ (k + 1)) (L ++ [(k : Int) + 1]) := by unfold termW; rw [if_pos hc]
  refine ⟨k, hk, hf, rfl, leftOf_at hf hk, hc.2, ?_, by omega⟩
  rw [nthW_at hk (by omega) (by omega), a1]
/-- All that go on. -/
theorem cntW_ways {n : Nat} (hn : n ≤ 10) {m u : Nat} {L : List Int} (hL : refTurnL true L = true) (hm : m < 10) (hu : rkT u n = m + 1) : cntW n (m + 1) u L = sumTo (wayV L (leftOf u n)) (m + 1) := by
  rw [cntW_succ, terms_ways hn hm hL hu n (Nat.le_refl _), hu]
end Go.Proofs.Yteeelcmnlomgmaa
set_option maxRecDepth 100000
set_option maxHeartbeats 8000000
set_option linter.unusedSimpArgs false
set_option linter.unusedVariables false
namespace Go.Proofs.Yteeelcmnlomgmaa
open Go.Ds
/-! ## Sums, and the rows of the triangle -/
def sumI : List Int → Int
  | [] => 0
  | x :: l => x + sumI l
theorem sumI_app (A B : List Int) : sumI (A ++ B) = sumI A + sumI B := by
  induction A with
  | nil => simp [sumI]
  | cons a A ih => simp only [List.cons_append, sumI, ih]; omega
theorem sumI_snoc (L : List Int) (i : Nat) (h : i < L.length) : sumI (L.take (i + 1)) = sumI (L.take i) + L.getD i 0 := by
  have : L.take (i + 1) = L.take i ++ [L.getD i 0] := by
    rw [List.take_succ, List.getElem?_eq_getElem h, List.getD_eq_getElem?_getD, List.getElem?_eq_getElem h]; rfl
  rw [this, sumI_app]; simp [sumI]
theorem sum57_rets {X : Caller} (hX : Xok X) (L : List Int) (hL : L.length ≤ 1000) (hb : ∀ i, i ≤ L.length → 0 ≤ sumI (L.take i) ∧ sumI (L.take i) ≤ 1000000000000) (s : Value) (g : GH) (hs : SlR g s (ints L)) :
    Rets Try.prog X 57 [s] g (fun v g' lo => g.next ≤ lo ∧ v = .int .i64 (sumI L)) := by
  refine Rets.run hX.pres p57 (hX.free 57 (by decide) _ _) rfl fun ho => ?_
  have hl := hs.len
  rw [ints_len] at hl
  simp +decide (disch := first | assumption | (apply GH.ok_push; assumption) | exact cellV_int _ _ | exact cellV_bool _ | omega) only [go_sem, ↓reduceIte, Nat.reduceEqDiff, Nat.reduceAdd, Int.reduceToNat, hl]
  refine Wk.loops (fun m e g' lo => g.next ≤ lo ∧ g' = g ∧ ∃ i : Nat, i + m = L.length ∧ (ev e (.s 3) = .int .i64 (sumI (L.take i)) ∧ ev e (.s 6) = s ∧ ev e (.s 7) = .int .i64 L.length ∧ ev e (.s 8) = .int .i64 i))
    (fun e g' lo => g.next ≤ lo ∧ ev e (.s 3) = .int .i64 (sumI L)) (n := L.length) ?_ ?_ ?_
  · have z0 : sumI (L.take 0) = 0 := rfl
    exact ⟨Nat.le_refl _, rfl, 0, by omega, by rw [z0]; exact (by simp +decide (disch := first | assumption | (apply GH.ok_push; assumption) | exact cellV_int _ _ | exact cellV_bool _ | omega) only [go_sem, ↓reduceIte, Nat.reduceEqDiff, Nat.reduceAdd, Int.reduceToNat, hl]; first | done | exact rfl)⟩
  · rintro e g' lo hog - ⟨hlo, he⟩
    simp +decide (disch := first | assumption | (apply GH.ok_push; assumption) | exact cellV_int _ _ | exact cellV_bool _ | omega) only [go_sem, ↓reduceIte, Nat.reduceEqDiff, Nat.reduceAdd, Int.reduceToNat, he]
    intro hx
    exact ⟨hlo, rfl⟩
  · rintro m e g' lo ho' hl' ih out ⟨hlo, rfl, i, hi, he⟩
    by_cases c : i < L.length
    · obtain ⟨b1, o1, hb1, hp1, hp2⟩ := hs.ptr (ints_get (D := L) (i := i) c)
      have hp1 := hp1 (i : Int) rfl
      have h1 := hb i (by omega)
      have h2 := hb (i + 1) (by omega)
      have hsn := sumI_snoc L i c
      rw [hsn] at h2
      obtain ⟨x, hx⟩ : ∃ x, L.getD i 0 = x := ⟨_, rfl⟩
      obtain ⟨S, hS⟩ : ∃ S, sumI (L.take i) = S := ⟨_, rfl⟩
      rw [hx] at hp2 hsn h2
      rw [hS] at he h1 h2 hsn
      simp +decide (disch := first | assumption | (apply GH.ok_push; assumption) | exact cellV_int _ _ | exact cellV_bool _ | omega) only [go_sem, ↓reduceIte, Nat.reduceEqDiff, Nat.reduceAdd, Int.reduceToNat, he, hp1, hp2]
      exact ih (m - 1) _ _ _ (by omega) ⟨hlo, rfl, i + 1, by omega, by rw [hsn]; exact (by simp +decide (disch := first | assumption | (apply GH.ok_push; assumption) | exact cellV_int _ _ | exact cellV_bool _ | omega) only [go_sem, ↓reduceIte, Nat.reduceEqDiff, Nat.reduceAdd, Int.reduceToNat, he]; first | done | exact rfl)⟩
    · rw [List.take_of_length_le (by omega)] at he
      simp +decide (disch := first | assumption | (apply GH.ok_push; assumption) | exact cellV_int _ _ | exact cellV_bool _ | omega) only [go_sem, ↓reduceIte, Nat.reduceEqDiff, Nat.reduceAdd, Int.reduceToNat, he]
      exact out _ _ _ ⟨hlo, (by simp +decide (disch := first | assumption | (apply GH.ok_push; assumption) | exact cellV_int _ _ | exact cellV_bool _ | omega) only [go_sem, ↓reduceIte, Nat.reduceEqDiff, Nat.reduceAdd, Int.reduceToNat, he]; first | done | exact rfl)⟩
def nxt (L : List Int) : Nat → Int
  | 0 => if L.length = 0 then 1 else 0
  | k + 1 => nxt L k + L.getD (L.length - 1 - k) 0
def nextL (L : List Int) : List Int := rng (L.length + 1) (nxt L)
def rowI : Nat → List Int
  | 0 => nextL []
  | t + 1 => nextL (rowI t)
theorem rowI_len : ∀ t, (rowI t).length = t + 1
  | 0 => by simp [rowI, nextL, rng_len]
  | t + 1 => by rw [rowI, nextL, rng_len, rowI_len t]
/-- All the numbers of a row, and of what comes of it, are small. -/
def SmallL (L : List Int) : Prop := L.length ≤ 100 ∧ (∀ i, i < L.length → 0 ≤ L.getD i 0 ∧ L.getD i 0 ≤ 100000000) ∧ ∀ k, k ≤ L.length → 0 ≤ nxt L k ∧ nxt L k ≤ 100000000
theorem next_rets {X : Caller} (hX : Xok X) (L : List Int) (hS : SmallL L) (J : Nat) (lv : Value) (g : GH) (hJ : J < g.next) (hget : g.get J = cellsOb [lv] 22) (hs : SlR g lv (ints L)) :
    Rets Try.prog X 71 [.pointer (some ⟨J, 0, none⟩)] g (fun v g' lo => J ≤ lo ∧ KeptJ g g' J ∧ g'.ok ∧ v = .slice (some ⟨g.next, 0, none⟩) (L.length + 1) (L.length + 1) ∧ g.next < g'.next ∧ g'.get J = cellsOb [v] 22 ∧ g'.get g.next = cellsOb (ints (nextL L)) 3) := by
  obtain ⟨hS1, hS2, hS3⟩ := hS
  refine Rets.run hX.pres p71 (hX.free 71 (by decide) _ _) rfl fun ho => ?_
  have hl := hs.len
  rw [ints_len] at hl
  have en : ((L.length + 1 : Nat) : Int) = (L.length : Int) + 1 := by push_cast; rfl
  simp +decide (disch := first | assumption | (apply GH.ok_push; assumption) | exact cellV_int _ _ | exact cellV_bool _ | omega) only [go_sem, ↓reduceIte, Nat.reduceEqDiff, Nat.reduceAdd, Int.reduceToNat, hget, hl]
  refine Wk.mkslice (n := L.length + 1) (c := L.length + 1) (by simp +decide (disch := first | assumption | (apply GH.ok_push; assumption) | exact cellV_int _ _ | exact cellV_bool _ | omega) only [go_sem, ↓reduceIte, Nat.reduceEqDiff, Nat.reduceAdd, Int.reduceToNat, hl, en]; first | done | exact rfl) (by simp +decide (disch := first | assumption | (apply GH.ok_push; assumption) | exact cellV_int _ _ | exact cellV_bool _ | omega) only [go_sem, ↓reduceIte, Nat.reduceEqDiff, Nat.reduceAdd, Int.reduceToNat, hl, en]; first | done | exact rfl) (Nat.le_refl _) (by omega) ?_
  have hp : (g.push (cellsOb (repeatN [.int .i64 0] (L.length + 1)) 3)).get J = cellsOb [lv] 22 := by rw [GH.get_push ho, if_neg (by omega)]; exact hget
  have hk1 := (Kept.refl g).push ho (cellsOb (repeatN [.int .i64 0] (L.length + 1)) 3)
  by_cases c0 : L.length = 0
  · have c0' : (L.length : Int) = 0 := by omega
    have hpg : (g.push (cellsOb (repeatN [.int .i64 0] (L.length + 1)) 3)).get g.next = cellsOb (ints (rng (L.length + 1) fun _ => 0)) 3 := by rw [GH.get_push ho, if_pos rfl, repeat_rng]
    have hia0 := iaddrS_at (j := g.next) (n := L.length + 1) (c := L.length + 1) (m := 0) (x := (0 : Int)) (by rfl) (by omega)
    have hlr0 : (ints (rng (L.length + 1) (fun _ => 0))).length = L.length + 1 := by rw [ints_len, rng_len]
    have hk0 : 0 + 1 ≤ L.length + 1 := by omega
    have hlt0 : g.next < (g.push (cellsOb (repeatN [.int .i64 0] (L.length + 1)) 3)).next := Nat.lt_succ_self _
    have hsetJ : ∀ o, ((g.push (cellsOb (repeatN [.int .i64 0] (L.length + 1)) 3)).set g.next o).get J = cellsOb [lv] 22 := fun o => by rw [GH.get_set_ne hpg Nat.one_ne_zero o (by omega)]; exact hp
    have hw0 := Wrote.set (o := cellsOb (splice 0 (ints (rng (L.length + 1) (fun _ => 0))) [.int .i64 1]) 3) hpg Nat.one_ne_zero (GH.ok_push ho)
    simp +decide (disch := first | assumption | (apply GH.ok_push; assumption) | exact cellV_int _ _ | exact cellV_bool _ | omega) only [go_sem, ↓reduceIte, Nat.reduceEqDiff, Nat.reduceAdd, Int.reduceToNat, hp, hl, c0', hia0, hpg, hlr0, hk0, hlt0, hsetJ]
    rw [splice_set _ _ _ (by rw [hlr0]; omega), ints_set, rng_set] at hw0 ⊢
    refine Wk.loops (fun m e g' lo => J ≤ lo ∧ Kept g g' ∧ g.next < g'.next ∧ ∃ k : Nat, k + m = L.length ∧ (ev e (.s 0) = .pointer (some ⟨J, 0, none⟩) ∧ ev e (.s 2) = .slice (some ⟨g.next, 0, none⟩) (L.length + 1) (L.length + 1) ∧ ev e (.s 14) = .int .i64 L.length ∧ ev e (.s 15) = .int .i64 k) ∧ g'.get g.next = cellsOb (ints (rng (L.length + 1) (fun i => if i ≤ k then nxt L i else 0))) 3)
      (fun e g' lo => J ≤ lo ∧ Kept g g' ∧ g.next < g'.next ∧ (ev e (.s 0) = .pointer (some ⟨J, 0, none⟩) ∧ ev e (.s 2) = .slice (some ⟨g.next, 0, none⟩) (L.length + 1) (L.length + 1)) ∧ g'.get g.next = cellsOb (ints (nextL L)) 3) (n := L.length) ?_ ?_ ?_
    · refine ⟨by omega, hw0.kept hk1 (Nat.le_refl _), by rw [hw0.next]; exact Nat.lt_succ_self _, 0, by omega, (by simp +decide (disch := first | assumption | (apply GH.ok_push; assumption) | exact cellV_int _ _ | exact cellV_bool _ | omega) only [go_sem, ↓reduceIte, Nat.reduceEqDiff, Nat.reduceAdd, Int.reduceToNat, hsetJ, hl, c0']; first | done | exact rfl), ?_⟩
      rw [hw0.get]
      congr 2
      refine rng_congr fun i hi => ?_
      have hi0 : i = 0 := by omega
      subst hi0
      rw [if_pos rfl, if_pos (Nat.le_refl _), nxt, if_pos c0]
    · rintro e g' lo hog - ⟨hlo, hk, hnx, he, hgn⟩
      have hgJ : g'.get J = cellsOb [lv] 22 := (hk.gets J hJ).trans hget
      simp +decide (disch := first | assumption | (apply GH.ok_push; assumption) | exact cellV_int _ _ | exact cellV_bool _ | omega) only [go_sem, ↓reduceIte, Nat.reduceEqDiff, Nat.reduceAdd, Int.reduceToNat, he, hgJ]
      have hw := Wrote.set (o := cellsOb [.slice (some ⟨g.next, 0, none⟩) (L.length + 1) (L.length + 1)] 22) hgJ Nat.one_ne_zero hog
      intro hx0
      refine ⟨by omega, (KeptJ.of hk).trans ⟨by rw [hw.next]; exact Nat.le_refl _, fun j hj hne => hw.others j hne, fun f hf => hw.fams f⟩, hw.ok, rfl, by rw [hw.next]; exact hnx, hw.get, ?_⟩
      rw [hw.others _ (by omega)]
      exact hgn
    · rintro m e g' lo ho' hl' ih out ⟨hlo, hk, hnx, k, hkm, he, hgn⟩
      by_cases ck : k < L.length
      · have hgJ : g'.get J = cellsOb [lv] 22 := (hk.gets J hJ).trans hget
        have hs' := hs.kept hk
        obtain ⟨b1, o1, hb1, hp1, hp2⟩ := hs'.ptr (ints_get (D := L) (i := L.length - 1 - k) (by omega))
        have hp1 := hp1 ((L.length : Int) - 1 - k) (by omega)
        have h2 := hS2 (L.length - 1 - k) (by omega)
        have h3 := hS3 k (by omega)
        have h4 := hS3 (k + 1) (by omega)
        have hnk : nxt L (k + 1) = nxt L k + L.getD (L.length - 1 - k) 0 := rfl
        rw [hnk] at h4
        obtain ⟨x, hx⟩ : ∃ x, L.getD (L.length - 1 - k) 0 = x := ⟨_, rfl⟩
        obtain ⟨y, hy⟩ : ∃ y, nxt L k = y := ⟨_, rfl⟩
        rw [hx] at hp2 h2 h4 hnk
        rw [hy] at h3 h4 hnk
        have hia := iaddrS_at (j := g.next) (n := L.length + 1) (c := L.length + 1) (m := k) (x := (k : Int)) rfl (by omega)
        have hia1 := iaddrS_at (j := g.next) (n := L.length + 1) (c := L.length + 1) (m := k + 1) (x := (k : Int) + 1) (by push_cast; rfl) (by omega)
        have hck : (ints (rng (L.length + 1) (fun i => if i ≤ k then nxt L i else 0)))[k]? = some (.int .i64 y) := by
          rw [ints_get (by rw [rng_len]; omega), rng_get _ (by omega), if_pos (Nat.le_refl _), hy]
        simp +decide (disch := first | assumption | (apply GH.ok_push; assumption) | exact cellV_int _ _ | exact cellV_bool _ | omega) only [go_sem, ↓reduceIte, Nat.reduceEqDiff, Nat.reduceAdd, Int.reduceToNat, he, hgJ, hgn, hl, hia, hck, hp1, hp2]
        refine CallD.calm (sum57_rets hX [y, x] (by simp) (fun i hi => by
          have : i = 0 ∨ i = 1 ∨ i = 2 := by simp at hi; omega
          rcases this with rfl | rfl | rfl <;> simp [sumI] <;> omega) _ _ (SlR.whole (t := 3) (by rw [GH.get_push ho', if_pos rfl]; rfl) (Nat.lt_succ_self _) rfl)) ?_
        rintro v G hx1 rfl
        have hn1 := hx1.next
        have hsy : sumI [y, x] = y + x := by simp [sumI]
        rw [hsy]
        have hkG := (hk.push ho' _).ext hx1
        have hgG : G.get g.next = cellsOb (ints (rng (L.length + 1) (fun i => if i ≤ k then nxt L i else 0))) 3 := by
          rw [hx1.gets _ (by show g.next < g'.next + 1; omega), GH.get_push ho', if_neg (by omega)]
          exact hgn
        have hlr : (ints (rng (L.length + 1) (fun i => if i ≤ k then nxt L i else 0))).length = L.length + 1 := by rw [ints_len, rng_len]
        have hlt : g.next < G.next := by have : g'.next + 1 ≤ G.next := hn1; omega
        have hkk : k + 1 + 1 ≤ L.length + 1 := by omega
        simp +decide (disch := first | assumption | (apply GH.ok_push; assumption) | exact cellV_int _ _ | exact cellV_bool _ | omega) only [go_sem, ↓reduceIte, Nat.reduceEqDiff, Nat.reduceAdd, Int.reduceToNat, he, hia1, hgG, hlr, hlt, hkk]
        have hw := Wrote.set (o := cellsOb (splice (k + 1) (ints (rng (L.length + 1) (fun i => if i ≤ k then nxt L i else 0))) [.int .i64 (y + x)]) 3) hgG Nat.one_ne_zero (hx1.ok (GH.ok_push ho'))
        rw [splice_set _ _ _ (by rw [hlr]; omega), ints_set, rng_set] at hw ⊢
        have hnx2 := hw.next
        refine ih (m - 1) _ _ _ (by omega) ⟨by omega, hw.kept hkG (Nat.le_refl _), by omega, k + 1, by omega, (by simp +decide (disch := first | assumption | (apply GH.ok_push; assumption) | exact cellV_int _ _ | exact cellV_bool _ | omega) only [go_sem, ↓reduceIte, Nat.reduceEqDiff, Nat.reduceAdd, Int.reduceToNat, he]; first | done | exact rfl), ?_⟩
        rw [hw.get]
        congr 2
        refine rng_congr fun i hi => ?_
        by_cases c1 : i = k + 1
        · subst c1
          rw [if_pos rfl, if_pos (Nat.le_refl _), hnk]
        · rw [if_neg c1]
          by_cases c2 : i ≤ k
          · rw [if_pos c2, if_pos (by omega)]
          · rw [if_neg c2, if_neg (by omega)]
      · have : k = L.length := by omega
        subst this
        simp +decide (disch := first | assumption | (apply GH.ok_push; assumption) | exact cellV_int _ _ | exact cellV_bool _ | omega) only [go_sem, ↓reduceIte, Nat.reduceEqDiff, Nat.reduceAdd, Int.reduceToNat, he]
        refine out _ _ _ ⟨hlo, hk, hnx, (by simp +decide (disch := first | assumption | (apply GH.ok_push; assumption) | exact cellV_int _ _ | exact cellV_bool _ | omega) only [go_sem, ↓reduceIte, Nat.reduceEqDiff, Nat.reduceAdd, Int.reduceToNat, he]; first | done | exact rfl), ?_⟩
        rw [hgn]
        congr 2
        exact rng_congr fun i hi => if_pos (by omega)
  · have c0' : ¬ (L.length : Int) = 0 := by omega
    simp +decide (disch := first | assumption | (apply GH.ok_push; assumption) | exact cellV_int _ _ | exact cellV_bool _ | omega) only [go_sem, ↓reduceIte, Nat.reduceEqDiff, Nat.reduceAdd, Int.reduceToNat, hp, hl, c0']
    refine Wk.loops (fun m e g' lo => J ≤ lo ∧ Kept g g' ∧ g.next < g'.next ∧ ∃ k : Nat, k + m = L.length ∧ (ev e (.s 0) = .pointer (some ⟨J, 0, none⟩) ∧ ev e (.s 2) = .slice (some ⟨g.next, 0, none⟩) (L.length + 1) (L.length + 1) ∧ ev e (.s 14) = .int .i64 L.length ∧ ev e (.s 15) = .int .i64 k) ∧ g'.get g.next = cellsOb (ints (rng (L.length + 1) (fun i => if i ≤ k then nxt L i else 0))) 3)
      (fun e g' lo => J ≤ lo ∧ Kept g g' ∧ g.next < g'.next ∧ (ev e (.s 0) = .pointer (some ⟨J, 0, none⟩) ∧ ev e (.s 2) = .slice (some ⟨g.next, 0, none⟩) (L.length + 1) (L.length + 1)) ∧ g'.get g.next = cellsOb (ints (nextL L)) 3) (n := L.length) ?_ ?_ ?_
    · refine ⟨by omega, hk1, Nat.lt_succ_self _, 0, by omega, (by simp +decide (disch := first | assumption | (apply GH.ok_push; assumption) | exact cellV_int _ _ | exact cellV_bool _ | omega) only [go_sem, ↓reduceIte, Nat.reduceEqDiff, Nat.reduceAdd, Int.reduceToNat, hp, hl]; first | done | exact rfl), ?_⟩
      rw [GH.get_push ho, if_pos rfl, repeat_rng]
      congr 2
      refine rng_congr fun i hi => ?_
      by_cases ci : i ≤ 0
      · rw [if_pos ci, show i = 0 by omega, nxt, if_neg c0]
      · rw [if_neg ci]
    · rintro e g' lo hog - ⟨hlo, hk, hnx, he, hgn⟩
      have hgJ : g'.get J = cellsOb [lv] 22 := (hk.gets J hJ).trans hget
      simp +decide (disch := first | assumption | (apply GH.ok_push; assumption) | exact cellV_int _ _ | exact cellV_bool _ | omega) only [go_sem, ↓reduceIte, Nat.reduceEqDiff, Nat.reduceAdd, Int.reduceToNat, he, hgJ]
      have hw := Wrote.set (o := cellsOb [.slice (some ⟨g.next, 0, none⟩) (L.length + 1) (L.length + 1)] 22) hgJ Nat.one_ne_zero hog
      intro hx0
      refine ⟨by omega, (KeptJ.of hk).trans ⟨by rw [hw.next]; exact Nat.le_refl _, fun j hj hne => hw.others j hne, fun f hf => hw.fams f⟩, hw.ok, rfl, by rw [hw.next]; exact hnx, hw.get, ?_⟩
      rw [hw.others _ (by omega)]
      exact hgn
    · rintro m e g' lo ho' hl' ih out ⟨hlo, hk, hnx, k, hkm, he, hgn⟩
      by_cases ck : k < L.length
      · have hgJ : g'.get J = cellsOb [lv] 22 := (hk.gets J hJ).trans hget
        have hs' := hs.kept hk
        obtain ⟨b1, o1, hb1, hp1, hp2⟩ := hs'.ptr (ints_get (D := L) (i := L.length - 1 - k) (by omega))
        have hp1 := hp1 ((L.length : Int) - 1 - k) (by omega)
        have h2 := hS2 (L.length - 1 - k) (by omega)
        have h3 := hS3 k (by omega)
        have h4 := hS3 (k + 1) (by omega)
        have hnk : nxt L (k + 1) = nxt L k + L.getD (L.length - 1 - k) 0 := rfl
        rw [hnk] at h4
        obtain ⟨x, hx⟩ : ∃ x, L.getD (L.length - 1 - k) 0 = x := ⟨_, rfl⟩
        obtain ⟨y, hy⟩ : ∃ y, nxt L k = y := ⟨_, rfl⟩
        rw [hx] at hp2 h2 h4 hnk
        rw [hy] at h3 h4 hnk
        have hia := iaddrS_at (j := g.next) (n := L.length + 1) (c := L.length + 1) (m := k) (x := (k : Int)) rfl (by omega)
        have hia1 := iaddrS_at (j := g.next) (n := L.length + 1) (c := L.length + 1) (m := k + 1) (x := (k : Int) + 1) (by push_cast; rfl) (by omega)
        have hck : (ints (rng (L.length + 1) (fun i => if i ≤ k then nxt L i else 0)))[k]? = some (.int .i64 y) := by
          rw [ints_get (by rw [rng_len]; omega), rng_get _ (by omega), if_pos (Nat.le_refl _), hy]
        simp +decide (disch := first | assumption | (apply GH.ok_push; assumption) | exact cellV_int _ _ | exact cellV_bool _ | omega) only [go_sem, ↓reduceIte, Nat.reduceEqDiff, Nat.reduceAdd, Int.reduceToNat, he, hgJ, hgn, hl, hia, hck, hp1, hp2]
        refine CallD.calm (sum57_rets hX [y, x] (by simp) (fun i hi => by
          have : i = 0 ∨ i = 1 ∨ i = 2 := by simp at hi; omega
          rcases this with rfl | rfl | rfl <;> simp [sumI] <;> omega) _ _ (SlR.whole (t := 3) (by rw [GH.get_push ho', if_pos rfl]; rfl) (Nat.lt_succ_self _) rfl)) ?_
        rintro v G hx1 rfl
        have hn1 := hx1.next
        have hsy : sumI [y, x] = y + x := by simp [sumI]
        rw [hsy]
        have hkG := (hk.push ho' _).ext hx1
        have hgG : G.get g.next = cellsOb (ints (rng (L.length + 1) (fun i => if i ≤ k then nxt L i else 0))) 3 := by
          rw [hx1.gets _ (by show g.next < g'.next + 1; omega), GH.get_push ho', if_neg (by omega)]
          exact hgn
        have hlr : (ints (rng (L.length + 1) (fun i => if i ≤ k then nxt L i else 0))).length = L.length + 1 := by rw [ints_len, rng_len]
        have hlt : g.next < G.next := by have : g'.next + 1 ≤ G.next := hn1; omega
        have hkk : k + 1 + 1 ≤ L.length + 1 := by omega
        simp +decide (disch := first | assumption | (apply GH.ok_push; assumption) | exact cellV_int _ _ | exact cellV_bool _ | omega) only [go_sem, ↓reduceIte, Nat.reduceEqDiff, Nat.reduceAdd, Int.reduceToNat, he, hia1, hgG, hlr, hlt, hkk]
        have hw := Wrote.set (o := cellsOb (splice (k + 1) (ints (rng (L.length + 1) (fun i => if i ≤ k then nxt L i else 0))) [.int .i64 (y + x)]) 3) hgG Nat.one_ne_zero (hx1.ok (GH.ok_push ho'))
        rw [splice_set _ _ _ (by rw [hlr]; omega), ints_set, rng_set] at hw ⊢
        have hnx2 := hw.next
        refine ih (m - 1) _ _ _ (by omega) ⟨by omega, hw.kept hkG (Nat.le_refl _), by omega, k + 1, by omega, (by simp +decide (disch := first | assumption | (apply GH.ok_push; assumption) | exact cellV_int _ _ | exact cellV_bool _ | omega) only [go_sem, ↓reduceIte, Nat.reduceEqDiff, Nat.reduceAdd, Int.reduceToNat, he]; first | done | exact rfl), ?_⟩
        rw [hw.get]
        congr 2
        refine rng_congr fun i hi => ?_
        by_cases c1 : i = k + 1
        · subst c1
          rw [if_pos rfl, if_pos (Nat.le_refl _), hnk]
        · rw [if_neg c1]
          by_cases c2 : i ≤ k
          · rw [if_pos c2, if_pos (by omega)]
          · rw [if_neg c2, if_neg (by omega)]
      · have : k = L.length := by omega
        subst this
        simp +decide (disch := first | assumption | (apply GH.ok_push; assumption) | exact cellV_int _ _ | exact cellV_bool _ | omega) only [go_sem, ↓reduceIte, Nat.reduceEqDiff, Nat.reduceAdd, Int.reduceToNat, he]
        refine out _ _ _ ⟨hlo, hk, hnx, (by simp +decide (disch := first | assumption | (apply GH.ok_push; assumption) | exact cellV_int _ _ | exact cellV_bool _ | omega) only [go_sem, ↓reduceIte, Nat.reduceEqDiff, Nat.reduceAdd, Int.reduceToNat, he]; first | done | exact rfl), ?_⟩
        rw [hgn]
        congr 2
        exact rng_congr fun i hi => if_pos (by omega)
end Go.Proofs.Yteeelcmnlomgmaa
set_option maxRecDepth 100000
set_option maxHeartbeats 8000000
set_option linter.unusedSimpArgs false
set_option linter.unusedVariables false
namespace Go.Proofs.Yteeelcmnlomgmaa
open Go.Ds
/-! ## The rows of the triangle, and what begins with each number -/
def smallB (L : List Int) : Bool := decide (L.length ≤ 100) && ((List.range L.length).all fun i => decide (0 ≤ L.getD i 0 ∧ L.getD i 0 ≤ 100000000)) && ((List.range (L.length + 1)).all fun k => decide (0 ≤ nxt L k ∧ nxt L k ≤ 100000000))
theorem smallB_of {L : List Int} (h : smallB L = true) : SmallL L := by
  unfold smallB at h
  simp only [Bool.and_eq_true, decide_eq_true_eq] at h
  refine ⟨h.1.1, fun i hi => of_decide_eq_true (List.all_eq_true.1 h.1.2 i (List.mem_range.2 hi)), fun k hk => of_decide_eq_true (List.all_eq_true.1 h.2 k (List.mem_range.2 (by omega)))⟩
def curL (i : Nat) : List Int := if i = 0 then [] else rowI (i - 1)
theorem cur_small : (List.range 12).all (fun i => smallB (curL i)) = true := by decide +kernel
theorem cur_next (i : Nat) : nextL (curL i) = rowI i := by
  cases i with
  | zero => rfl
  | succ i => rfl
theorem curL_len (i : Nat) : (curL i).length = i := by
  cases i with
  | zero => rfl
  | succ i => exact rowI_len i
theorem curL_small {i : Nat} (h : i < 12) : SmallL (curL i) := smallB_of (List.all_eq_true.1 cur_small i (List.mem_range.2 h))
theorem row_frm : (List.range 11).all (fun n => (List.range n).all fun k => decide ((rowI n).getD (k + 1) 0 - (rowI n).getD k 0 = (frm n (k + 1) : Int) ∧ frm n (k + 1) ≤ 100000)) = true := by decide +kernel
theorem row_zig : (List.range 11).all (fun n => decide ((rowI n).getD n 0 = (zig n : Int))) = true := by decide +kernel
theorem row_at {n k : Nat} (hn : n < 11) (hk : k < n) : (rowI n).getD (k + 1) 0 - (rowI n).getD k 0 = (frm n (k + 1) : Int) ∧ frm n (k + 1) ≤ 100000 :=
  of_decide_eq_true (List.all_eq_true.1 (List.all_eq_true.1 row_frm n (List.mem_range.2 hn)) k (List.mem_range.2 hk))
theorem Kept.keptJ {a b c : GH} {J : Nat} (h : Kept a b) (k : KeptJ b c J) (hJ : a.next ≤ J) : Kept a c :=
  ⟨Nat.le_trans h.next k.next, fun j hj => (k.gets j (Nat.lt_of_lt_of_le hj h.next) (by omega)).trans (h.gets j hj), fun f hf => (k.fams f (Nat.lt_of_lt_of_le hf h.next)).trans (h.fams f hf)⟩
theorem rows53_rets {X : Caller} (hX : Xok X) (g : GH) : Rets Try.prog X 53 [] g (fun v g' lo => g.next ≤ lo ∧ v = .func (.func 71) #[] #[.pointer (some ⟨g.next, 0, none⟩)] ∧ g'.ok ∧ g'.next = g.next + 1 ∧ g'.get g.next = cellsOb [.slice none 0 0] 22 ∧ Kept g g') := by
  refine Rets.run hX.pres p53 (hX.free 53 (by decide) _ _) rfl fun ho => ?_
  simp +decide (disch := first | assumption | (apply GH.ok_push; assumption) | exact cellV_int _ _ | exact cellV_bool _ | omega) only [go_sem, ↓reduceIte, Nat.reduceEqDiff, Nat.reduceAdd, Int.reduceToNat]
  intro hx0
  exact ⟨Nat.le_refl _, rfl, GH.ok_push ho, rfl, by rw [GH.get_push ho, if_pos rfl], (Kept.refl g).push ho _⟩
theorem triRow_rets {X : Caller} (hX : Xok X) (n : Nat) (hn : n ≤ 10) (g : GH) : Rets Try.prog X 69 [.int .i64 n] g (fun v g' lo => g.next ≤ lo ∧ g'.ok ∧ ∃ j, v = .slice (some ⟨j, 0, none⟩) (n + 1) (n + 1) ∧ g.next ≤ j ∧ j < g'.next ∧ g'.get j = cellsOb (ints (rowI n)) 3) := by
  refine Rets.run hX.pres p69 (hX.free 69 (by decide) _ _) rfl fun ho => ?_
  simp +decide (disch := first | assumption | (apply GH.ok_push; assumption) | exact cellV_int _ _ | exact cellV_bool _ | omega) only [go_sem, ↓reduceIte, Nat.reduceEqDiff, Nat.reduceAdd, Int.reduceToNat]
  refine CallD.calm (rows53_rets hX g) ?_
  rintro v G hx ⟨rfl, hokG, hnG, hgG, hkG⟩
  simp +decide (disch := first | assumption | (apply GH.ok_push; assumption) | exact cellV_int _ _ | exact cellV_bool _ | omega) only [go_sem, ↓reduceIte, Nat.reduceEqDiff, Nat.reduceAdd, Int.reduceToNat]
  refine Wk.loops (fun m e g' lo => g.next ≤ lo ∧ Kept g g' ∧ g'.ok ∧ g.next < g'.next ∧ ∃ i : Nat, i + m = n ∧ (ev e (.s 3) = .func (.func 71) #[] #[.pointer (some ⟨g.next, 0, none⟩)] ∧ ev e (.s 5) = .int .i64 n ∧ ev e (.s 6) = .int .i64 i) ∧ ∃ lv, g'.get g.next = cellsOb [lv] 22 ∧ SlR g' lv (ints (curL i)))
    (fun e g' lo => g.next ≤ lo ∧ Kept g g' ∧ g'.ok ∧ g.next < g'.next ∧ ev e (.s 3) = .func (.func 71) #[] #[.pointer (some ⟨g.next, 0, none⟩)] ∧ ∃ lv, g'.get g.next = cellsOb [lv] 22 ∧ SlR g' lv (ints (curL n))) (n := n) ?_ ?_ ?_
  · exact ⟨by omega, hkG, hokG, by omega, 0, by omega, (by simp +decide (disch := first | assumption | (apply GH.ok_push; assumption) | exact cellV_int _ _ | exact cellV_bool _ | omega) only [go_sem, ↓reduceIte, Nat.reduceEqDiff, Nat.reduceAdd, Int.reduceToNat]; first | done | exact rfl), _, hgG, SlR.nil⟩
  · rintro e g' lo hog - ⟨hlo, hk, hok, hnx, he, lv, hg, hs⟩
    simp +decide (disch := first | assumption | (apply GH.ok_push; assumption) | exact cellV_int _ _ | exact cellV_bool _ | omega) only [go_sem, ↓reduceIte, Nat.reduceEqDiff, Nat.reduceAdd, Int.reduceToNat, he]
    refine CallV.go rfl (next_rets hX (curL n) (curL_small (by omega)) g.next lv g' hnx hg hs) ?_
    rintro v G2 lo2 wr hx2 ⟨h1, hk2, hok2, rfl, h3, h4, h5⟩
    have hgn := hk.next
    rw [cur_next] at h5
    rw [curL_len]
    simp +decide (disch := first | assumption | (apply GH.ok_push; assumption) | exact cellV_int _ _ | exact cellV_bool _ | omega) only [go_sem, ↓reduceIte, Nat.reduceEqDiff, Nat.reduceAdd, Int.reduceToNat, he]
    intro hx0
    exact ⟨by omega, hok2, _, rfl, hgn, h3, h5⟩
  · rintro m e g' lo ho' hl' ih out ⟨hlo, hk, hok, hnx, i, him, he, lv, hg, hs⟩
    have hgn := hk.next
    by_cases ci : i < n
    · simp +decide (disch := first | assumption | (apply GH.ok_push; assumption) | exact cellV_int _ _ | exact cellV_bool _ | omega) only [go_sem, ↓reduceIte, Nat.reduceEqDiff, Nat.reduceAdd, Int.reduceToNat, he]
      refine CallV.go rfl (next_rets hX (curL i) (curL_small (by omega)) g.next lv g' hnx hg hs) ?_
      rintro v G2 lo2 wr hx2 ⟨h1, hk2, hok2, rfl, h3, h4, h5⟩
      rw [cur_next] at h5
      have hn2 := hk2.next
      simp +decide (disch := first | assumption | (apply GH.ok_push; assumption) | exact cellV_int _ _ | exact cellV_bool _ | omega) only [go_sem, ↓reduceIte, Nat.reduceEqDiff, Nat.reduceAdd, Int.reduceToNat, he]
      refine ih (m - 1) _ _ _ (by omega) ⟨by omega, Kept.keptJ hk hk2 (Nat.le_refl _), hok2, by omega, i + 1, by omega, (by simp +decide (disch := first | assumption | (apply GH.ok_push; assumption) | exact cellV_int _ _ | exact cellV_bool _ | omega) only [go_sem, ↓reduceIte, Nat.reduceEqDiff, Nat.reduceAdd, Int.reduceToNat, he]; first | done | exact rfl), _, h4, ?_⟩
      have e : curL (i + 1) = rowI i := rfl
      rw [e]
      exact SlR.whole h5 h3 (by rw [ints_len, rowI_len, curL_len])
    · have : i = n := by omega
      subst this
      simp +decide (disch := first | assumption | (apply GH.ok_push; assumption) | exact cellV_int _ _ | exact cellV_bool _ | omega) only [go_sem, ↓reduceIte, Nat.reduceEqDiff, Nat.reduceAdd, Int.reduceToNat, he]
      exact out _ _ _ ⟨hlo, hk, hok, hnx, (by simp +decide (disch := first | assumption | (apply GH.ok_push; assumption) | exact cellV_int _ _ | exact cellV_bool _ | omega) only [go_sem, ↓reduceIte, Nat.reduceEqDiff, Nat.reduceAdd, Int.reduceToNat, he]; first | done | exact rfl), lv, hg, hs⟩
theorem firsts_rets {X : Caller} (hX : Xok X) (n : Nat) (hn : n ≤ 10) (g : GH) : Rets Try.prog X 50 [.int .i64 n] g (fun v g' lo => g.next ≤ lo ∧ g'.ok ∧ ∃ j, v = .slice (some ⟨j, 0, none⟩) n n ∧ g.next ≤ j ∧ j < g'.next ∧ g'.get j = cellsOb (ints (rng n fun k => (frm n (k + 1) : Int))) 3) := by
  refine Rets.run hX.pres p50 (hX.free 50 (by decide) _ _) rfl fun ho => ?_
  simp +decide (disch := first | assumption | (apply GH.ok_push; assumption) | exact cellV_int _ _ | exact cellV_bool _ | omega) only [go_sem, ↓reduceIte, Nat.reduceEqDiff, Nat.reduceAdd, Int.reduceToNat]
  refine CallD.calm (triRow_rets hX n hn g) ?_
  rintro v G hx ⟨hokG, j, rfl, hj1, hj2, hgj⟩
  have hnG := hx.next
  simp +decide (disch := first | assumption | (apply GH.ok_push; assumption) | exact cellV_int _ _ | exact cellV_bool _ | omega) only [go_sem, ↓reduceIte, Nat.reduceEqDiff, Nat.reduceAdd, Int.reduceToNat]
  refine Wk.mkslice (n := n) (c := n) (by simp +decide (disch := first | assumption | (apply GH.ok_push; assumption) | exact cellV_int _ _ | exact cellV_bool _ | omega) only [go_sem, ↓reduceIte, Nat.reduceEqDiff, Nat.reduceAdd, Int.reduceToNat]; first | done | exact rfl) (by simp +decide (disch := first | assumption | (apply GH.ok_push; assumption) | exact cellV_int _ _ | exact cellV_bool _ | omega) only [go_sem, ↓reduceIte, Nat.reduceEqDiff, Nat.reduceAdd, Int.reduceToNat]; first | done | exact rfl) (Nat.le_refl _) (by omega) ?_
  simp +decide (disch := first | assumption | (apply GH.ok_push; assumption) | exact cellV_int _ _ | exact cellV_bool _ | omega) only [go_sem, ↓reduceIte, Nat.reduceEqDiff, Nat.reduceAdd, Int.reduceToNat]
  refine Wk.loops (fun m e g' lo => g.next ≤ lo ∧ Kept g g' ∧ g'.ok ∧ G.next < g'.next ∧ g'.get j = cellsOb (ints (rowI n)) 3 ∧ ∃ k : Nat, k + m = n ∧ (ev e (.s 3) = .slice (some ⟨j, 0, none⟩) (n + 1) (n + 1) ∧ ev e (.s 4) = .slice (some ⟨G.next, 0, none⟩) n n ∧ ev e (.s 11) = .int .i64 n ∧ ev e (.s 12) = .int .i64 k) ∧ g'.get G.next = cellsOb (ints (rng n (fun i => if i < k then (frm n (i + 1) : Int) else 0))) 3)
    (fun e g' lo => g.next ≤ lo ∧ g'.ok ∧ G.next < g'.next ∧ ev e (.s 4) = .slice (some ⟨G.next, 0, none⟩) n n ∧ g'.get G.next = cellsOb (ints (rng n (fun i => (frm n (i + 1) : Int)))) 3) (n := n) ?_ ?_ ?_
  · refine ⟨by omega, hx.kept.push hokG _, GH.ok_push hokG, Nat.lt_succ_self _, by rw [GH.get_push hokG, if_neg (by omega)]; exact hgj, 0, by omega, (by simp +decide (disch := first | assumption | (apply GH.ok_push; assumption) | exact cellV_int _ _ | exact cellV_bool _ | omega) only [go_sem, ↓reduceIte, Nat.reduceEqDiff, Nat.reduceAdd, Int.reduceToNat]; first | done | exact rfl), ?_⟩
    rw [GH.get_push hokG, if_pos rfl, repeat_rng]
    congr 2
  · rintro e g' lo hog - ⟨hlo, hok, hnx, he, hg⟩
    simp +decide (disch := first | assumption | (apply GH.ok_push; assumption) | exact cellV_int _ _ | exact cellV_bool _ | omega) only [go_sem, ↓reduceIte, Nat.reduceEqDiff, Nat.reduceAdd, Int.reduceToNat, he]
    intro hx0
    exact ⟨hlo, hok, _, rfl, hnG, hnx, hg⟩
  · rintro m e g' lo ho' hl' ih out ⟨hlo, hk, hok, hnx, hgr, k, hkm, he, hg⟩
    by_cases ck : k < n
    · have hra := row_at (n := n) (k := k) (by omega) ck
      have hia := iaddrS_at (j := j) (n := n + 1) (c := n + 1) (m := k) (x := (k : Int)) rfl (by omega)
      have hia1 := iaddrS_at (j := j) (n := n + 1) (c := n + 1) (m := k + 1) (x := (k : Int) + 1) (by push_cast; rfl) (by omega)
      have hib := iaddrS_at (j := G.next) (n := n) (c := n) (m := k) (x := (k : Int)) rfl (by omega)
      have hc0 : (ints (rowI n))[k]? = some (.int .i64 ((rowI n).getD k 0)) := ints_get (by rw [rowI_len]; omega)
      have hc1 : (ints (rowI n))[k + 1]? = some (.int .i64 ((rowI n).getD (k + 1) 0)) := ints_get (by rw [rowI_len]; omega)
      obtain ⟨x, hx1⟩ : ∃ x, (rowI n).getD k 0 = x := ⟨_, rfl⟩
      obtain ⟨y, hy1⟩ : ∃ y, (rowI n).getD (k + 1) 0 = y := ⟨_, rfl⟩
      rw [hx1] at hc0 hra
      rw [hy1] at hc1 hra
      have hyx : y - x = (frm n (k + 1) : Int) := hra.1
      have hlr : (ints (rng n (fun i => if i < k then (frm n (i + 1) : Int) else 0))).length = n := by rw [ints_len, rng_len]
      have hkk : k + 1 ≤ n := by omega
      simp +decide (disch := first | assumption | (apply GH.ok_push; assumption) | exact cellV_int _ _ | exact cellV_bool _ | omega) only [go_sem, ↓reduceIte, Nat.reduceEqDiff, Nat.reduceAdd, Int.reduceToNat, he, hgr, hg, hia, hia1, hib, hc0, hc1, hlr, hkk, hnx, hyx]
      have hw := Wrote.set (o := cellsOb (splice k (ints (rng n (fun i => if i < k then (frm n (i + 1) : Int) else 0))) [.int .i64 (frm n (k + 1) : Int)]) 3) hg Nat.one_ne_zero ho'
      rw [splice_set _ _ _ (by rw [hlr]; omega), ints_set, rng_set] at hw ⊢
      have hnx2 := hw.next
      refine ih (m - 1) _ _ _ (by omega) ⟨by omega, hw.kept hk (by omega), hw.ok, by omega, by rw [hw.others j (by omega)]; exact hgr, k + 1, by omega, (by simp +decide (disch := first | assumption | (apply GH.ok_push; assumption) | exact cellV_int _ _ | exact cellV_bool _ | omega) only [go_sem, ↓reduceIte, Nat.reduceEqDiff, Nat.reduceAdd, Int.reduceToNat, he]; first | done | exact rfl), ?_⟩
      rw [hw.get]
      congr 2
      refine rng_congr fun i hi => ?_
      by_cases c1 : i = k
      · subst c1
        rw [if_pos rfl, if_pos (by omega)]
      · rw [if_neg c1]
        by_cases c2 : i < k
        · rw [if_pos c2, if_pos (by omega)]
        · rw [if_neg c2, if_neg (by omega)]
    · simp +decide (disch := first | assumption | (apply GH.ok_push; assumption) | exact cellV_int _ _ | exact cellV_bool _ | omega) only [go_sem, ↓reduceIte, Nat.reduceEqDiff, Nat.reduceAdd, Int.reduceToNat, he]
      refine out _ _ _ ⟨hlo, hok, hnx, (by simp +decide (disch := first | assumption | (apply GH.ok_push; assumption) | exact cellV_int _ _ | exact cellV_bool _ | omega) only [go_sem, ↓reduceIte, Nat.reduceEqDiff, Nat.reduceAdd, Int.reduceToNat, he]; first | done | exact rfl), ?_⟩
      rw [hg]
      congr 2
      exact rng_congr fun i hi => if_pos (by omega)
theorem count_rets {X : Caller} (hX : Xok X) (n : Nat) (hn : n ≤ 10) (g : GH) : Rets Try.prog X 48 [.int .i64 n] g (fun v g' lo => g.next ≤ lo ∧ v = .int .i64 (zig n)) := by
  refine Rets.run hX.pres p48 (hX.free 48 (by decide) _ _) rfl fun ho => ?_
  simp +decide (disch := first | assumption | (apply GH.ok_push; assumption) | exact cellV_int _ _ | exact cellV_bool _ | omega) only [go_sem, ↓reduceIte, Nat.reduceEqDiff, Nat.reduceAdd, Int.reduceToNat]
  refine CallD.calm (triRow_rets hX n hn g) ?_
  rintro v G hx ⟨hokG, j, rfl, hj1, hj2, hgj⟩
  have hnG := hx.next
  have hia := iaddrS_at (j := j) (n := n + 1) (c := n + 1) (m := n) (x := (n : Int)) rfl (by omega)
  have hc1 : (ints (rowI n))[n]? = some (.int .i64 ((rowI n).getD n 0)) := ints_get (by rw [rowI_len]; omega)
  have hz : (rowI n).getD n 0 = (zig n : Int) := of_decide_eq_true (List.all_eq_true.1 row_zig n (List.mem_range.2 (by omega)))
  rw [hz] at hc1
  simp +decide (disch := first | assumption | (apply GH.ok_push; assumption) | exact cellV_int _ _ | exact cellV_bool _ | omega) only [go_sem, ↓reduceIte, Nat.reduceEqDiff, Nat.reduceAdd, Int.reduceToNat, hgj, hia, hc1]
  intro hx0
  exact ⟨by omega, rfl⟩
end Go.Proofs.Yteeelcmnlomgmaa
