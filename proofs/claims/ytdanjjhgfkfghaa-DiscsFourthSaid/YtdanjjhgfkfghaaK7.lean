import Derived.Test.YtdanjjhgfkfghaaK6
import Derived.Test.YtdanjjhgfkfghaaKd
set_option linter.all false
set_option linter.unusedSimpArgs false
set_option linter.unnecessarySimpa false
set_option linter.unusedVariables false
set_option linter.unusedSectionVars false
set_option maxRecDepth 100000
set_option maxHeartbeats 8000000
set_option linter.unusedSimpArgs false
set_option linter.unusedVariables false
namespace Go.Proofs.Ytdanjjhgfkfghaa
open Go.Ds
/-! ## Whole roots -/
theorem conv_u64 {m : Int} (h0 : 0 ≤ m) (h1 : m < 18446744073709551616) : convF .u64 (.int .i64 m) = some (.int .u64 m) := by
  show some (Value.int .u64 (wrapF .u64 m)) = _
  rw [wr_u64 h0 h1]
theorem conv_i64 {m : Int} (h0 : 0 ≤ m) (h1 : m ≤ 9223372036854775807) : convF .i64 (.int .u64 m) = some (.int .i64 m) := by
  show some (Value.int .i64 (wrapF .i64 m)) = _
  rw [wr64 (by omega) h1]
theorem shr_1 {a : Int} (h0 : 0 ≤ a) : intB .shr .u64 a 1 = some (.int .u64 (a / 2)) := by
  show some (Value.int .u64 (a.fdiv ((Nat.pow 2 (min 1 64) : Nat) : Int))) = _
  rw [Int.fdiv_eq_ediv_of_nonneg _ (by decide)]; rfl
/-- A square is at least a number. -/
theorem atLeast_rets {X : Caller} (hX : Xok X) (n r : Int) (hr0 : 0 ≤ r) (hr1 : r ≤ 2097152) (j0 : Nat) (t : TypeId) (g : GH) (hg : g.get j0 = cellsOb [.int .i64 n] t) :
    Rets Try.prog X 77 [.int .i64 r, .pointer (some ⟨j0, 0, none⟩)] g (fun v g' lo => g.next ≤ lo ∧ v = .bool (decide (n ≤ r * r))) := by
  have hm0 : 0 ≤ r * r := Int.mul_nonneg hr0 hr0
  have hm1 : r * r ≤ 2097152 * 2097152 := Int.mul_le_mul hr1 hr1 hr0 (by decide)
  refine Rets.run hX.pres p77 (hX.free 77 (by decide) (by decide) (by decide) _ _) rfl fun ho => ?_
  by_cases c : n ≤ r * r
  · simp +decide (disch := first | assumption | (apply GH.ok_push; assumption) | exact cellV_int _ _ | exact cellV_bool _ | omega) only [go_sem, ↓reduceIte, Nat.reduceEqDiff, Nat.reduceAdd, Int.reduceToNat, hg]
    intro hx
    exact ⟨Nat.le_refl _, by first | rfl | simp [c]⟩
  · simp +decide (disch := first | assumption | (apply GH.ok_push; assumption) | exact cellV_int _ _ | exact cellV_bool _ | omega) only [go_sem, ↓reduceIte, Nat.reduceEqDiff, Nat.reduceAdd, Int.reduceToNat, hg]
    intro hx
    exact ⟨Nat.le_refl _, by first | rfl | simp [c]⟩
/-- The least number whose square is at least another one. -/
def LeastRt (n r : Int) : Prop := 0 ≤ r ∧ r ≤ 2097152 ∧ (∀ t, 0 ≤ t → t < r → t * t < n) ∧ (n ≤ r * r ∨ r = 2097152)
theorem sq_mono {a b : Int} (h0 : 0 ≤ a) (h : a ≤ b) : a * a ≤ b * b := Int.mul_le_mul h h h0 (by omega)
theorem search_rets {X : Caller} (hX : Xok X) (n : Int) (j0 : Nat) (t : TypeId) (g : GH) (hj : j0 < g.next) (hg : g.get j0 = cellsOb [.int .i64 n] t) :
    Rets Try.prog X 76 [.int .i64 2097152, .func (.func 77) #[] #[.pointer (some ⟨j0, 0, none⟩)]] g (fun v g' lo => g.next ≤ lo ∧ ∃ r, LeastRt n r ∧ v = .int .i64 r) := by
  refine Rets.run hX.pres p76 (hX.free 76 (by decide) (by decide) (by decide) _ _) rfl fun ho => ?_
  simp +decide (disch := first | assumption | (apply GH.ok_push; assumption) | exact cellV_int _ _ | exact cellV_bool _ | omega) only [go_sem, ↓reduceIte, Nat.reduceEqDiff, Nat.reduceAdd, Int.reduceToNat]
  refine Wk.loops (fun m e g' lo => g.next ≤ lo ∧ g.next ≤ g'.next ∧ g'.get j0 = cellsOb [.int .i64 n] t ∧ ∃ i j : Int, m = (j - i).toNat ∧ 0 ≤ i ∧ i ≤ j ∧ j ≤ 2097152 ∧ (∀ t, 0 ≤ t → t < i → t * t < n) ∧ (n ≤ j * j ∨ j = 2097152) ∧ (ev e (.s 1) = .func (.func 77) #[] #[.pointer (some ⟨j0, 0, none⟩)] ∧ ev e (.s 5) = .int .i64 i ∧ ev e (.s 6) = .int .i64 j))
    (fun e g' lo => g.next ≤ lo ∧ ∃ r, LeastRt n r ∧ ev e (.s 5) = .int .i64 r) (n := 2097152) ?_ ?_ ?_
  · exact ⟨Nat.le_refl _, Nat.le_refl _, hg, 0, 2097152, rfl, by omega, by omega, by omega, fun t h1 h2 => by omega, .inr rfl, (by simp +decide (disch := first | assumption | (apply GH.ok_push; assumption) | exact cellV_int _ _ | exact cellV_bool _ | omega) only [go_sem, ↓reduceIte, Nat.reduceEqDiff, Nat.reduceAdd, Int.reduceToNat]; first | done | exact rfl)⟩
  · rintro e g' lo - - ⟨hlo, r, hr, he⟩
    simp +decide (disch := first | assumption | (apply GH.ok_push; assumption) | exact cellV_int _ _ | exact cellV_bool _ | omega) only [go_sem, ↓reduceIte, Nat.reduceEqDiff, Nat.reduceAdd, Int.reduceToNat, he]
    intro hx
    exact ⟨hlo, r, hr, rfl⟩
  · rintro m e g' lo ho' hl' ih out ⟨hlo, hn, hg, i, j, rfl, h0, hij, hj1, hi, hjn, he⟩
    by_cases c : i < j
    · have cu : convF .u64 (.int .i64 (i + j)) = some (.int .u64 (i + j)) := conv_u64 (by omega) (by omega)
      have cs : intB .shr .u64 (i + j) 1 = some (.int .u64 ((i + j) / 2)) := shr_1 (by omega)
      have ci : convF .i64 (.int .u64 ((i + j) / 2)) = some (.int .i64 ((i + j) / 2)) := conv_i64 (by omega) (by omega)
      simp +decide (disch := first | assumption | (apply GH.ok_push; assumption) | exact cellV_int _ _ | exact cellV_bool _ | omega) only [go_sem, ↓reduceIte, Nat.reduceEqDiff, Nat.reduceAdd, Int.reduceToNat, he, cu, cs, ci]
      refine CallV.go rfl (atLeast_rets hX n ((i + j) / 2) (by omega) (by omega) j0 t g' hg) ?_
      rintro v G lo1 wr hx ⟨hlo1, rfl⟩
      have hn1 := hx.next
      have hg1 := (hx.get (by omega) (by omega)).trans hg
      by_cases d : n ≤ (i + j) / 2 * ((i + j) / 2)
      · rw [decide_eq_true d]
        simp +decide (disch := first | assumption | (apply GH.ok_push; assumption) | exact cellV_int _ _ | exact cellV_bool _ | omega) only [go_sem, ↓reduceIte, Nat.reduceEqDiff, Nat.reduceAdd, Int.reduceToNat, he]
        exact ih ((i + j) / 2 - i).toNat _ _ _ (by omega) ⟨by omega, by omega, hg1, i, (i + j) / 2, rfl, h0, by omega, by omega, hi, .inl d, (by simp +decide (disch := first | assumption | (apply GH.ok_push; assumption) | exact cellV_int _ _ | exact cellV_bool _ | omega) only [go_sem, ↓reduceIte, Nat.reduceEqDiff, Nat.reduceAdd, Int.reduceToNat, he]; first | done | exact rfl)⟩
      · rw [decide_eq_false d]
        simp +decide (disch := first | assumption | (apply GH.ok_push; assumption) | exact cellV_int _ _ | exact cellV_bool _ | omega) only [go_sem, ↓reduceIte, Nat.reduceEqDiff, Nat.reduceAdd, Int.reduceToNat, he]
        refine ih (j - ((i + j) / 2 + 1)).toNat _ _ _ (by omega) ⟨by omega, by omega, hg1, (i + j) / 2 + 1, j, rfl, by omega, by omega, hj1, fun t h1 h2 => ?_, hjn, (by simp +decide (disch := first | assumption | (apply GH.ok_push; assumption) | exact cellV_int _ _ | exact cellV_bool _ | omega) only [go_sem, ↓reduceIte, Nat.reduceEqDiff, Nat.reduceAdd, Int.reduceToNat, he]; first | done | exact rfl)⟩
        have := sq_mono h1 (show t ≤ (i + j) / 2 by omega)
        omega
    · simp +decide (disch := first | assumption | (apply GH.ok_push; assumption) | exact cellV_int _ _ | exact cellV_bool _ | omega) only [go_sem, ↓reduceIte, Nat.reduceEqDiff, Nat.reduceAdd, Int.reduceToNat, he]
      refine out _ _ _ ⟨hlo, i, ⟨h0, by omega, hi, ?_⟩, (by simp +decide (disch := first | assumption | (apply GH.ok_push; assumption) | exact cellV_int _ _ | exact cellV_bool _ | omega) only [go_sem, ↓reduceIte, Nat.reduceEqDiff, Nat.reduceAdd, Int.reduceToNat, he]; first | done | exact rfl)⟩
      rw [show i = j by omega]
      exact hjn
theorem wholeRoot_rets {X : Caller} (hX : Xok X) (n : Int) (g : GH) :
    Rets Try.prog X 56 [.int .i64 n] g (fun v g' lo => g.next ≤ lo ∧ ((n < 0 ∧ v = .tuple #[.int .i64 0, .bool false]) ∨ ∃ r, LeastRt n r ∧ v = .tuple #[.int .i64 r, .bool (decide (r * r = n))])) := by
  refine Rets.run hX.pres p56 (hX.free 56 (by decide) (by decide) (by decide) _ _) rfl fun ho => ?_
  simp +decide only [dseq, dreg, dbox, dalloc, nV_eq, cellsOf, tick, ev_put, ev_fill, ev_fill0, ev_none, ↓reduceIte, Nat.reduceEqDiff, Nat.reduceAdd]
  have hok := GH.ok_push (o := cellsOb [Value.int .i64 n] 3) ho
  have hg : (g.push (cellsOb [Value.int .i64 n] 3)).get g.next = cellsOb [Value.int .i64 n] 3 := by rw [GH.get_push ho, if_pos rfl]
  have hn : (g.push (cellsOb [Value.int .i64 n] 3)).next = g.next + 1 := rfl
  generalize g.push (cellsOb [Value.int .i64 n] 3) = G at *
  by_cases c : n < 0
  · simp +decide (disch := first | assumption | (apply GH.ok_push; assumption) | exact cellV_int _ _ | exact cellV_bool _ | omega) only [go_sem, ↓reduceIte, Nat.reduceEqDiff, Nat.reduceAdd, Int.reduceToNat, hg]
    intro hx
    exact ⟨by omega, .inl ⟨c, by first | rfl | trivial⟩⟩
  · simp +decide (disch := first | assumption | (apply GH.ok_push; assumption) | exact cellV_int _ _ | exact cellV_bool _ | omega) only [go_sem, ↓reduceIte, Nat.reduceEqDiff, Nat.reduceAdd, Int.reduceToNat, hg]
    refine CallD.calm (search_rets hX n g.next 3 G (by omega) hg) ?_
    rintro v G1 hx ⟨r, hr, rfl⟩
    have hn1 := hx.next
    have hg1 := (hx.gets _ (by omega)).trans hg
    have hm0 : 0 ≤ r * r := Int.mul_nonneg hr.1 hr.1
    have hm1 : r * r ≤ 2097152 * 2097152 := Int.mul_le_mul hr.2.1 hr.2.1 hr.1 (by decide)
    by_cases d : r * r = n
    · simp +decide (disch := first | assumption | (apply GH.ok_push; assumption) | exact cellV_int _ _ | exact cellV_bool _ | omega) only [go_sem, ↓reduceIte, Nat.reduceEqDiff, Nat.reduceAdd, Int.reduceToNat, hg1, d]
      intro hx
      exact ⟨by omega, .inr ⟨r, hr, by first | rfl | simp [d]⟩⟩
    · simp +decide (disch := first | assumption | (apply GH.ok_push; assumption) | exact cellV_int _ _ | exact cellV_bool _ | omega) only [go_sem, ↓reduceIte, Nat.reduceEqDiff, Nat.reduceAdd, Int.reduceToNat, hg1]
      intro hx
      exact ⟨by omega, .inr ⟨r, hr, by first | rfl | simp [d]⟩⟩
end Go.Proofs.Ytdanjjhgfkfghaa
set_option maxRecDepth 100000
set_option maxHeartbeats 8000000
set_option linter.unusedSimpArgs false
set_option linter.unusedVariables false
namespace Go.Proofs.Ytdanjjhgfkfghaa
open Go.Ds
/-- The greatest number whose square is at most another one. -/
def FloorRt (n r : Int) : Prop := 0 ≤ r ∧ r < 2147483648 ∧ r * r ≤ n ∧ n < (r + 1) * (r + 1)
theorem pow2_pos (k : Nat) : (1 : Int) ≤ 2 ^ k := by
  have : (0 : Int) < 2 ^ k := Int.pow_pos (by decide)
  omega
theorem rroot_rets {X : Caller} (hX : Xok X) (n : Int) (h0 : 0 ≤ n) (h1 : n < 4611686018427387904) (g : GH) :
    Rets Try.prog X 57 [.int .i64 n] g (fun v g' lo => g.next ≤ lo ∧ ∃ r, FloorRt n r ∧ v = .int .i64 r) := by
  refine Rets.run hX.pres p57 (hX.free 57 (by decide) (by decide) (by decide) _ _) rfl fun ho => ?_
  simp +decide (disch := first | assumption | (apply GH.ok_push; assumption) | exact cellV_int _ _ | exact cellV_bool _ | omega) only [go_sem, ↓reduceIte, Nat.reduceEqDiff, Nat.reduceAdd, Int.reduceToNat]
  refine Wk.loops (fun m e g' lo => g.next ≤ lo ∧ ∃ (r s : Int), s = 2 ^ m ∧ 0 ≤ r ∧ r + s ≤ 2147483648 ∧ r * r ≤ n ∧ n < (r + s) * (r + s) ∧ (ev e (.s 0) = .int .i64 n ∧ ev e (.s 3) = .int .i64 r ∧ ev e (.s 4) = .int .i64 (s / 2)))
    (fun e g' lo => g.next ≤ lo ∧ ∃ r, FloorRt n r ∧ ev e (.s 3) = .int .i64 r) (n := 31) ?_ ?_ ?_
  · exact ⟨Nat.le_refl _, 0, 2147483648, by decide, by omega, by omega, by omega, by omega, (by simp +decide (disch := first | assumption | (apply GH.ok_push; assumption) | exact cellV_int _ _ | exact cellV_bool _ | omega) only [go_sem, ↓reduceIte, Nat.reduceEqDiff, Nat.reduceAdd, Int.reduceToNat]; first | done | exact rfl)⟩
  · rintro e g' lo - - ⟨hlo, r, hr, he⟩
    simp +decide (disch := first | assumption | (apply GH.ok_push; assumption) | exact cellV_int _ _ | exact cellV_bool _ | omega) only [go_sem, ↓reduceIte, Nat.reduceEqDiff, Nat.reduceAdd, Int.reduceToNat, he]
    intro hx
    exact ⟨hlo, r, hr, rfl⟩
  · rintro m e g' lo ho' hl' ih out ⟨hlo, r, s, hs, hr0, hrs, hle, hlt, he⟩
    by_cases c : m = 0
    · subst c
      have hs1 : s = 1 := by rw [hs]; rfl
      subst hs1
      simp +decide (disch := first | assumption | (apply GH.ok_push; assumption) | exact cellV_int _ _ | exact cellV_bool _ | omega) only [go_sem, ↓reduceIte, Nat.reduceEqDiff, Nat.reduceAdd, Int.reduceToNat, he]
      exact out _ _ _ ⟨hlo, r, ⟨hr0, by omega, hle, hlt⟩, (by simp +decide (disch := first | assumption | (apply GH.ok_push; assumption) | exact cellV_int _ _ | exact cellV_bool _ | omega) only [go_sem, ↓reduceIte, Nat.reduceEqDiff, Nat.reduceAdd, Int.reduceToNat, he]; first | done | exact rfl)⟩
    · obtain ⟨k, rfl⟩ : ∃ k, m = k + 1 := ⟨m - 1, by omega⟩
      have hp := pow2_pos k
      have hs2 : s = 2 * 2 ^ k := by rw [hs, Int.pow_succ]; omega
      generalize hw : (2 : Int) ^ k = w at *
      subst hs2
      have hhalf : 2 * w / 2 = w := by omega
      rw [hhalf] at he
      have ht : w.tdiv 2 = w / 2 := Int.tdiv_eq_ediv_of_nonneg (by omega)
      have hm0 : 0 ≤ (r + w) * (r + w) := Int.mul_nonneg (by omega) (by omega)
      have hm1 : (r + w) * (r + w) ≤ 2147483648 * 2147483648 := Int.mul_le_mul (by omega) (by omega) (by omega) (by decide)
      by_cases d : (r + w) * (r + w) ≤ n
      · simp +decide (disch := first | assumption | (apply GH.ok_push; assumption) | exact cellV_int _ _ | exact cellV_bool _ | omega) only [go_sem, ↓reduceIte, Nat.reduceEqDiff, Nat.reduceAdd, Int.reduceToNat, he, ht]
        exact ih k _ _ _ (by omega) ⟨hlo, r + w, w, hw.symm, by omega, by omega, d, by rw [show r + w + w = r + 2 * w by omega]; exact hlt, (by simp +decide (disch := first | assumption | (apply GH.ok_push; assumption) | exact cellV_int _ _ | exact cellV_bool _ | omega) only [go_sem, ↓reduceIte, Nat.reduceEqDiff, Nat.reduceAdd, Int.reduceToNat, he]; first | done | exact rfl)⟩
      · simp +decide (disch := first | assumption | (apply GH.ok_push; assumption) | exact cellV_int _ _ | exact cellV_bool _ | omega) only [go_sem, ↓reduceIte, Nat.reduceEqDiff, Nat.reduceAdd, Int.reduceToNat, he, ht]
        exact ih k _ _ _ (by omega) ⟨hlo, r, w, hw.symm, hr0, by omega, hle, by omega, (by simp +decide (disch := first | assumption | (apply GH.ok_push; assumption) | exact cellV_int _ _ | exact cellV_bool _ | omega) only [go_sem, ↓reduceIte, Nat.reduceEqDiff, Nat.reduceAdd, Int.reduceToNat, he]; first | done | exact rfl)⟩
/-- What Fourth returns. -/
def short (a : Int) : Bool := decide (-1048576 ≤ a) && decide (a ≤ 1048576)
/-- The two numbers that Fourth tries, for a whole root. -/
def fourthQ (a b c r : Int) : Bool := isQ [a, b, c, a + b + c - 2 * r] && isQ [a, b, c, a + b + c + 2 * r]
def Fourth (a b c : Int) (v : Value) : Prop :=
  (¬ (short a = true ∧ short b = true ∧ short c = true) ∧ v = .tuple #[.int .i64 0, .int .i64 0, .int .i64 2]) ∨
  (short a = true ∧ short b = true ∧ short c = true ∧ (∀ r, 0 ≤ r → r * r = a * b + b * c + c * a → fourthQ a b c r = false) ∧ v = .tuple #[.int .i64 0, .int .i64 0, .int .i64 10]) ∨
  (short a = true ∧ short b = true ∧ short c = true ∧ ∃ r, 0 ≤ r ∧ r * r = a * b + b * c + c * a ∧ fourthQ a b c r = true ∧ v = .tuple #[.int .i64 (a + b + c - 2 * r), .int .i64 (a + b + c + 2 * r), .int .i64 0])
theorem sq_inj {a b : Int} (ha : 0 ≤ a) (hb : 0 ≤ b) (h : a * a = b * b) : a = b := by
  rcases Int.lt_trichotomy a b with c | c | c
  · have h1 : a * a ≤ a * b := Int.mul_le_mul_of_nonneg_left (Int.le_of_lt c) ha
    have h2 : a * b < b * b := Int.mul_lt_mul_of_pos_right c (by omega)
    omega
  · exact c
  · have h1 : b * b ≤ b * a := Int.mul_le_mul_of_nonneg_left (Int.le_of_lt c) hb
    have h2 : b * a < a * a := Int.mul_lt_mul_of_pos_right c (by omega)
    omega
theorem Fourth.unique {a b c : Int} {u v : Value} (h : Fourth a b c u) (k : Fourth a b c v) : u = v := by
  rcases h with ⟨h1, rfl⟩ | ⟨h1, h2, h3, h4, rfl⟩ | ⟨h1, h2, h3, r, h4, h5, h6, rfl⟩
  · rcases k with ⟨k1, rfl⟩ | ⟨k1, k2, k3, k4, rfl⟩ | ⟨k1, k2, k3, r', k4, k5, k6, rfl⟩
    · rfl
    · exact absurd ⟨k1, k2, k3⟩ h1
    · exact absurd ⟨k1, k2, k3⟩ h1
  · rcases k with ⟨k1, rfl⟩ | ⟨k1, k2, k3, k4, rfl⟩ | ⟨k1, k2, k3, r', k4, k5, k6, rfl⟩
    · exact absurd ⟨h1, h2, h3⟩ k1
    · rfl
    · rw [h4 r' k4 k5] at k6; cases k6
  · rcases k with ⟨k1, rfl⟩ | ⟨k1, k2, k3, k4, rfl⟩ | ⟨k1, k2, k3, r', k4, k5, k6, rfl⟩
    · exact absurd ⟨h1, h2, h3⟩ k1
    · rw [k4 r h4 h5] at h6; cases h6
    · rw [sq_inj h4 k4 (h5.trans k5.symm)]
theorem isShort_rets {X : Caller} (hX : Xok X) (a : Int) (g : GH) : Rets Try.prog X 55 [.int .i64 a] g (fun v g' lo => g.next ≤ lo ∧ v = .bool (short a)) := by
  refine Rets.run hX.pres p55 (hX.free 55 (by decide) (by decide) (by decide) _ _) rfl fun ho => ?_
  by_cases c1 : -1048576 ≤ a
  · by_cases c2 : a ≤ 1048576
    · simp +decide (disch := first | assumption | (apply GH.ok_push; assumption) | exact cellV_int _ _ | exact cellV_bool _ | omega) only [go_sem, ↓reduceIte, Nat.reduceEqDiff, Nat.reduceAdd, Int.reduceToNat]
      intro hx
      exact ⟨Nat.le_refl _, by rw [short, decide_eq_true c1, decide_eq_true c2]; rfl⟩
    · simp +decide (disch := first | assumption | (apply GH.ok_push; assumption) | exact cellV_int _ _ | exact cellV_bool _ | omega) only [go_sem, ↓reduceIte, Nat.reduceEqDiff, Nat.reduceAdd, Int.reduceToNat]
      intro hx
      exact ⟨Nat.le_refl _, by rw [short, decide_eq_true c1, decide_eq_false c2]; rfl⟩
  · simp +decide (disch := first | assumption | (apply GH.ok_push; assumption) | exact cellV_int _ _ | exact cellV_bool _ | omega) only [go_sem, ↓reduceIte, Nat.reduceEqDiff, Nat.reduceAdd, Int.reduceToNat]
    intro hx
    exact ⟨Nat.le_refl _, by rw [short, decide_eq_false c1]; rfl⟩
end Go.Proofs.Ytdanjjhgfkfghaa
set_option maxRecDepth 100000
set_option maxHeartbeats 8000000
set_option linter.unusedSimpArgs false
set_option linter.unusedVariables false
namespace Go.Proofs.Ytdanjjhgfkfghaa
open Go.Ds
theorem short_iff (a : Int) : short a = true ↔ -1048576 ≤ a ∧ a ≤ 1048576 := by simp [short]
theorem prod_bound {a b : Int} (ha : short a = true) (hb : short b = true) : -1099511627776 ≤ a * b ∧ a * b ≤ 1099511627776 := by
  rw [short_iff] at ha hb
  have h := Int.natAbs_mul a b
  have h1 : a.natAbs ≤ 1048576 := by omega
  have h2 : b.natAbs ≤ 1048576 := by omega
  have h3 := Nat.mul_le_mul h1 h2
  omega
theorem build4i (a b c d : Int) : buildF [] (some 1) #[.int .i64 0, .int .i64 0, .int .i64 0, .int .i64 0] [(0, .int .i64 a), (1, .int .i64 b), (2, .int .i64 c), (3, .int .i64 d)] = some (.agg (ints [a, b, c, d]).toArray) := by
  simp [buildF, Instr.fill, placeF, ints, Value.cells]
theorem least_whole {k r : Int} (hr : LeastRt k r) (hk : k ≤ 3298534883328) (hne : ¬ r * r = k) : ∀ t, 0 ≤ t → ¬ t * t = k := by
  intro t ht he
  obtain ⟨h0, h1, h2, h3⟩ := hr
  rcases Int.lt_trichotomy t r with c | c | c
  · have := h2 t ht c; omega
  · subst c; exact hne he
  · rcases h3 with h3 | h3
    · have := sq_mono h0 (Int.le_of_lt c); omega
    · have := sq_mono h0 (Int.le_of_lt c)
      rw [h3] at this; omega
theorem fourth_rets {X : Caller} (hX : Xall X) (a b c : Int) (g : GH) :
    Rets Try.prog X 29 [.int .i64 a, .int .i64 b, .int .i64 c] g (fun v g' lo => g.next ≤ lo ∧ Fourth a b c v) := by
  have hXX := hX
  have hX := hX.toXok
  refine Rets.run hX.pres p29 (hX.free 29 (by decide) (by decide) (by decide) _ _) rfl fun ho => ?_
  simp +decide (disch := first | assumption | (apply GH.ok_push; assumption) | exact cellV_int _ _ | exact cellV_bool _ | omega) only [go_sem, ↓reduceIte, Nat.reduceEqDiff, Nat.reduceAdd, Int.reduceToNat]
  refine CallD.calm (isShort_rets hX a g) ?_
  rintro v G hx rfl
  have hn1 := hx.next
  by_cases ha : short a = true
  rotate_left
  · have ha' : short a = false := by simpa using ha
    simp +decide (disch := first | assumption | (apply GH.ok_push; assumption) | exact cellV_int _ _ | exact cellV_bool _ | omega) only [go_sem, ↓reduceIte, Nat.reduceEqDiff, Nat.reduceAdd, Int.reduceToNat, ha']
    intro hx
    exact ⟨by omega, .inl ⟨fun h => ha h.1, by first | rfl | trivial⟩⟩
  simp +decide (disch := first | assumption | (apply GH.ok_push; assumption) | exact cellV_int _ _ | exact cellV_bool _ | omega) only [go_sem, ↓reduceIte, Nat.reduceEqDiff, Nat.reduceAdd, Int.reduceToNat, ha]
  refine CallD.calm (isShort_rets hX b G) ?_
  rintro v G2 hx2 rfl
  have hn2 := hx2.next
  by_cases hb : short b = true
  rotate_left
  · have hb' : short b = false := by simpa using hb
    simp +decide (disch := first | assumption | (apply GH.ok_push; assumption) | exact cellV_int _ _ | exact cellV_bool _ | omega) only [go_sem, ↓reduceIte, Nat.reduceEqDiff, Nat.reduceAdd, Int.reduceToNat, hb']
    intro hx
    exact ⟨by omega, .inl ⟨fun h => hb h.2.1, by first | rfl | trivial⟩⟩
  simp +decide (disch := first | assumption | (apply GH.ok_push; assumption) | exact cellV_int _ _ | exact cellV_bool _ | omega) only [go_sem, ↓reduceIte, Nat.reduceEqDiff, Nat.reduceAdd, Int.reduceToNat, hb]
  refine CallD.calm (isShort_rets hX c G2) ?_
  rintro v G3 hx3 rfl
  have hn3 := hx3.next
  by_cases hc : short c = true
  rotate_left
  · have hc' : short c = false := by simpa using hc
    simp +decide (disch := first | assumption | (apply GH.ok_push; assumption) | exact cellV_int _ _ | exact cellV_bool _ | omega) only [go_sem, ↓reduceIte, Nat.reduceEqDiff, Nat.reduceAdd, Int.reduceToNat, hc']
    intro hx
    exact ⟨by omega, .inl ⟨fun h => hc h.2.2, by first | rfl | trivial⟩⟩
  have p1 := prod_bound ha hb
  have p2 := prod_bound hb hc
  have p3 := prod_bound hc ha
  have q1 := (short_iff a).1 ha
  have q2 := (short_iff b).1 hb
  have q3 := (short_iff c).1 hc
  simp +decide (disch := first | assumption | (apply GH.ok_push; assumption) | exact cellV_int _ _ | exact cellV_bool _ | omega) only [go_sem, ↓reduceIte, Nat.reduceEqDiff, Nat.reduceAdd, Int.reduceToNat, hc]
  refine CallD.calm (wholeRoot_rets hX (a * b + b * c + c * a) G3) ?_
  rintro v G4 hx4 hv
  have hn4 := hx4.next
  rcases hv with ⟨hneg, rfl⟩ | ⟨r, hr, rfl⟩
  · simp +decide (disch := first | assumption | (apply GH.ok_push; assumption) | exact cellV_int _ _ | exact cellV_bool _ | omega) only [go_sem, ↓reduceIte, Nat.reduceEqDiff, Nat.reduceAdd, Int.reduceToNat, ext0, ext1]
    intro hx
    refine ⟨by omega, .inr (.inl ⟨ha, hb, hc, fun r h0 h1 => ?_, by first | rfl | trivial⟩)⟩
    have := Int.mul_nonneg h0 h0
    omega
  have hr0 := hr.1
  have hr1 := hr.2.1
  by_cases d : r * r = a * b + b * c + c * a
  · simp +decide (disch := first | assumption | (apply GH.ok_push; assumption) | exact cellV_int _ _ | exact cellV_bool _ | omega) only [go_sem, ↓reduceIte, Nat.reduceEqDiff, Nat.reduceAdd, Int.reduceToNat, ext0, ext1, d, build4i]
    refine CallD.calm (discQ hXX [a, b, c, a + b + c - 2 * r] rfl G4) ?_
    rintro v G5 hx5 rfl
    have hn5 := hx5.next
    by_cases e1 : isQ [a, b, c, a + b + c - 2 * r] = true
    · simp +decide (disch := first | assumption | (apply GH.ok_push; assumption) | exact cellV_int _ _ | exact cellV_bool _ | omega) only [go_sem, ↓reduceIte, Nat.reduceEqDiff, Nat.reduceAdd, Int.reduceToNat, e1, build4i]
      refine CallD.calm (discQ hXX [a, b, c, a + b + c + 2 * r] rfl G5) ?_
      rintro v G6 hx6 rfl
      have hn6 := hx6.next
      by_cases e2 : isQ [a, b, c, a + b + c + 2 * r] = true
      · simp +decide (disch := first | assumption | (apply GH.ok_push; assumption) | exact cellV_int _ _ | exact cellV_bool _ | omega) only [go_sem, ↓reduceIte, Nat.reduceEqDiff, Nat.reduceAdd, Int.reduceToNat, e2]
        intro hx
        exact ⟨by omega, .inr (.inr ⟨ha, hb, hc, r, hr0, d, by rw [fourthQ, e1, e2]; rfl, by first | rfl | trivial⟩)⟩
      · have e2' : isQ [a, b, c, a + b + c + 2 * r] = false := by simpa using e2
        simp +decide (disch := first | assumption | (apply GH.ok_push; assumption) | exact cellV_int _ _ | exact cellV_bool _ | omega) only [go_sem, ↓reduceIte, Nat.reduceEqDiff, Nat.reduceAdd, Int.reduceToNat, e2']
        intro hx
        exact ⟨by omega, .inr (.inl ⟨ha, hb, hc, fun t h0 h1 => by rw [sq_inj h0 hr0 (h1.trans d.symm), fourthQ, e2', Bool.and_false], by first | rfl | trivial⟩)⟩
    · have e1' : isQ [a, b, c, a + b + c - 2 * r] = false := by simpa using e1
      simp +decide (disch := first | assumption | (apply GH.ok_push; assumption) | exact cellV_int _ _ | exact cellV_bool _ | omega) only [go_sem, ↓reduceIte, Nat.reduceEqDiff, Nat.reduceAdd, Int.reduceToNat, e1']
      intro hx
      exact ⟨by omega, .inr (.inl ⟨ha, hb, hc, fun t h0 h1 => by rw [sq_inj h0 hr0 (h1.trans d.symm), fourthQ, e1', Bool.false_and], by first | rfl | trivial⟩)⟩
  · simp +decide (disch := first | assumption | (apply GH.ok_push; assumption) | exact cellV_int _ _ | exact cellV_bool _ | omega) only [go_sem, ↓reduceIte, Nat.reduceEqDiff, Nat.reduceAdd, Int.reduceToNat, ext0, ext1, d]
    intro hx
    exact ⟨by omega, .inr (.inl ⟨ha, hb, hc, fun t h0 h1 => absurd h1 (least_whole hr (by omega) d t h0), by first | rfl | trivial⟩)⟩
theorem refFourth_rets {X : Caller} (hX : Xall X) (a b c : Int) (g : GH) :
    Rets Try.prog X 30 [.int .i64 a, .int .i64 b, .int .i64 c] g (fun v g' lo => g.next ≤ lo ∧ Fourth a b c v) := by
  have hXX := hX
  have hX := hX.toXok
  refine Rets.run hX.pres p30 (hX.free 30 (by decide) (by decide) (by decide) _ _) rfl fun ho => ?_
  by_cases ha : short a = true
  rotate_left
  · have hn : ¬ (short a = true ∧ short b = true ∧ short c = true) := fun h => ha h.1
    rw [short_iff] at ha
    by_cases h1 : a < -1048576
    · simp +decide (disch := first | assumption | (apply GH.ok_push; assumption) | exact cellV_int _ _ | exact cellV_bool _ | omega) only [go_sem, ↓reduceIte, Nat.reduceEqDiff, Nat.reduceAdd, Int.reduceToNat]
      intro hx
      exact ⟨Nat.le_refl _, .inl ⟨hn, by first | rfl | trivial⟩⟩
    · simp +decide (disch := first | assumption | (apply GH.ok_push; assumption) | exact cellV_int _ _ | exact cellV_bool _ | omega) only [go_sem, ↓reduceIte, Nat.reduceEqDiff, Nat.reduceAdd, Int.reduceToNat]
      intro hx
      exact ⟨Nat.le_refl _, .inl ⟨hn, by first | rfl | trivial⟩⟩
  have q1 := (short_iff a).1 ha
  by_cases hb : short b = true
  rotate_left
  · have hn : ¬ (short a = true ∧ short b = true ∧ short c = true) := fun h => hb h.2.1
    rw [short_iff] at hb
    by_cases h1 : b < -1048576
    · simp +decide (disch := first | assumption | (apply GH.ok_push; assumption) | exact cellV_int _ _ | exact cellV_bool _ | omega) only [go_sem, ↓reduceIte, Nat.reduceEqDiff, Nat.reduceAdd, Int.reduceToNat]
      intro hx
      exact ⟨Nat.le_refl _, .inl ⟨hn, by first | rfl | trivial⟩⟩
    · simp +decide (disch := first | assumption | (apply GH.ok_push; assumption) | exact cellV_int _ _ | exact cellV_bool _ | omega) only [go_sem, ↓reduceIte, Nat.reduceEqDiff, Nat.reduceAdd, Int.reduceToNat]
      intro hx
      exact ⟨Nat.le_refl _, .inl ⟨hn, by first | rfl | trivial⟩⟩
  have q2 := (short_iff b).1 hb
  by_cases hc : short c = true
  rotate_left
  · have hn : ¬ (short a = true ∧ short b = true ∧ short c = true) := fun h => hc h.2.2
    rw [short_iff] at hc
    by_cases h1 : c < -1048576
    · simp +decide (disch := first | assumption | (apply GH.ok_push; assumption) | exact cellV_int _ _ | exact cellV_bool _ | omega) only [go_sem, ↓reduceIte, Nat.reduceEqDiff, Nat.reduceAdd, Int.reduceToNat]
      intro hx
      exact ⟨Nat.le_refl _, .inl ⟨hn, by first | rfl | trivial⟩⟩
    · simp +decide (disch := first | assumption | (apply GH.ok_push; assumption) | exact cellV_int _ _ | exact cellV_bool _ | omega) only [go_sem, ↓reduceIte, Nat.reduceEqDiff, Nat.reduceAdd, Int.reduceToNat]
      intro hx
      exact ⟨Nat.le_refl _, .inl ⟨hn, by first | rfl | trivial⟩⟩
  have q3 := (short_iff c).1 hc
  have p1 := prod_bound ha hb
  have p2 := prod_bound hb hc
  have p3 := prod_bound hc ha
  by_cases hneg : a * b + b * c + c * a < 0
  · simp +decide (disch := first | assumption | (apply GH.ok_push; assumption) | exact cellV_int _ _ | exact cellV_bool _ | omega) only [go_sem, ↓reduceIte, Nat.reduceEqDiff, Nat.reduceAdd, Int.reduceToNat]
    intro hx
    refine ⟨Nat.le_refl _, .inr (.inl ⟨ha, hb, hc, fun r h0 h1 => ?_, by first | rfl | trivial⟩)⟩
    have := Int.mul_nonneg h0 h0
    omega
  simp +decide (disch := first | assumption | (apply GH.ok_push; assumption) | exact cellV_int _ _ | exact cellV_bool _ | omega) only [go_sem, ↓reduceIte, Nat.reduceEqDiff, Nat.reduceAdd, Int.reduceToNat]
  refine CallD.calm (rroot_rets hX (a * b + b * c + c * a) (by omega) (by omega) g) ?_
  rintro v G1 hx1 ⟨r, hr, rfl⟩
  have hn1 := hx1.next
  obtain ⟨r0, r1, r2, r3⟩ := hr
  have uniq : ∀ t, FloorRt (a * b + b * c + c * a) t → t = r := fun t ⟨t0, t1, t2, t3⟩ => by
    rcases Int.lt_trichotomy t r with w | w | w
    · have := sq_mono (show 0 ≤ t + 1 by omega) (show t + 1 ≤ r by omega); omega
    · exact w
    · have := sq_mono (show 0 ≤ r + 1 by omega) (show r + 1 ≤ t by omega); omega
  simp +decide (disch := first | assumption | (apply GH.ok_push; assumption) | exact cellV_int _ _ | exact cellV_bool _ | omega) only [go_sem, ↓reduceIte, Nat.reduceEqDiff, Nat.reduceAdd, Int.reduceToNat]
  refine CallD.calm (rroot_rets hX (a * b + b * c + c * a) (by omega) (by omega) G1) ?_
  rintro v G2 hx2 ⟨t, ht, rfl⟩
  have hn2 := hx2.next
  obtain rfl := uniq t ht
  have hrb : t ≤ 2097152 := by
    rcases Int.lt_or_le 2097152 t with w | w
    · have := sq_mono (show (0 : Int) ≤ 2097152 by decide) (Int.le_of_lt w); omega
    · exact w
  have hsq := Int.mul_nonneg r0 r0
  by_cases d : t * t = a * b + b * c + c * a
  · simp +decide (disch := first | assumption | (apply GH.ok_push; assumption) | exact cellV_int _ _ | exact cellV_bool _ | omega) only [go_sem, ↓reduceIte, Nat.reduceEqDiff, Nat.reduceAdd, Int.reduceToNat, d]
    refine CallD.calm (rroot_rets hX (a * b + b * c + c * a) (by omega) (by omega) G2) ?_
    rintro v G3 hx3 ⟨t3, ht3, rfl⟩
    have hn3 := hx3.next
    obtain rfl := uniq t3 ht3
    simp +decide (disch := first | assumption | (apply GH.ok_push; assumption) | exact cellV_int _ _ | exact cellV_bool _ | omega) only [go_sem, ↓reduceIte, Nat.reduceEqDiff, Nat.reduceAdd, Int.reduceToNat]
    refine CallD.calm (rroot_rets hX (a * b + b * c + c * a) (by omega) (by omega) G3) ?_
    rintro v G4 hx4 ⟨t4, ht4, rfl⟩
    have hn4 := hx4.next
    obtain rfl := uniq t4 ht4
    simp +decide (disch := first | assumption | (apply GH.ok_push; assumption) | exact cellV_int _ _ | exact cellV_bool _ | omega) only [go_sem, ↓reduceIte, Nat.reduceEqDiff, Nat.reduceAdd, Int.reduceToNat, build4i]
    refine CallD.calm (refQ hXX [a, b, c, a + b + c - 2 * t4] rfl G4) ?_
    rintro v G5 hx5 rfl
    have hn5 := hx5.next
    by_cases e1 : isQ [a, b, c, a + b + c - 2 * t4] = true
    · simp +decide (disch := first | assumption | (apply GH.ok_push; assumption) | exact cellV_int _ _ | exact cellV_bool _ | omega) only [go_sem, ↓reduceIte, Nat.reduceEqDiff, Nat.reduceAdd, Int.reduceToNat, e1, build4i]
      refine CallD.calm (refQ hXX [a, b, c, a + b + c + 2 * t4] rfl G5) ?_
      rintro v G6 hx6 rfl
      have hn6 := hx6.next
      by_cases e2 : isQ [a, b, c, a + b + c + 2 * t4] = true
      · simp +decide (disch := first | assumption | (apply GH.ok_push; assumption) | exact cellV_int _ _ | exact cellV_bool _ | omega) only [go_sem, ↓reduceIte, Nat.reduceEqDiff, Nat.reduceAdd, Int.reduceToNat, e2]
        intro hx
        exact ⟨by omega, .inr (.inr ⟨ha, hb, hc, t4, r0, d, by rw [fourthQ, e1, e2]; rfl, by first | rfl | trivial⟩)⟩
      · have e2' : isQ [a, b, c, a + b + c + 2 * t4] = false := by simpa using e2
        simp +decide (disch := first | assumption | (apply GH.ok_push; assumption) | exact cellV_int _ _ | exact cellV_bool _ | omega) only [go_sem, ↓reduceIte, Nat.reduceEqDiff, Nat.reduceAdd, Int.reduceToNat, e2']
        intro hx
        exact ⟨by omega, .inr (.inl ⟨ha, hb, hc, fun t h0 h1 => by rw [sq_inj h0 r0 (h1.trans d.symm), fourthQ, e2', Bool.and_false], by first | rfl | trivial⟩)⟩
    · have e1' : isQ [a, b, c, a + b + c - 2 * t4] = false := by simpa using e1
      simp +decide (disch := first | assumption | (apply GH.ok_push; assumption) | exact cellV_int _ _ | exact cellV_bool _ | omega) only [go_sem, ↓reduceIte, Nat.reduceEqDiff, Nat.reduceAdd, Int.reduceToNat, e1']
      intro hx
      exact ⟨by omega, .inr (.inl ⟨ha, hb, hc, fun t h0 h1 => by rw [sq_inj h0 r0 (h1.trans d.symm), fourthQ, e1', Bool.false_and], by first | rfl | trivial⟩)⟩
  · simp +decide (disch := first | assumption | (apply GH.ok_push; assumption) | exact cellV_int _ _ | exact cellV_bool _ | omega) only [go_sem, ↓reduceIte, Nat.reduceEqDiff, Nat.reduceAdd, Int.reduceToNat, d]
    intro hx
    refine ⟨by omega, .inr (.inl ⟨ha, hb, hc, fun u h0 h1 => ?_, by first | rfl | trivial⟩)⟩
    exfalso
    rcases Int.lt_trichotomy u t with w | w | w
    · have h4 : u * u ≤ t * u := Int.mul_le_mul_of_nonneg_right (Int.le_of_lt w) h0
      have h5 := sq_mono h0 (Int.le_of_lt w)
      omega
    · subst w; exact d h1
    · have := sq_mono (show 0 ≤ t + 1 by omega) (show t + 1 ≤ u by omega); omega
end Go.Proofs.Ytdanjjhgfkfghaa
set_option maxRecDepth 100000
set_option maxHeartbeats 8000000
set_option linter.unusedSimpArgs false
set_option linter.unusedVariables false
namespace Go.Proofs.Ytdanjjhgfkfghaa
open Go.Ds
theorem Fourth.shape {a b c : Int} {v : Value} (h : Fourth a b c v) : ∃ x y e : Int, v = .tuple #[.int .i64 x, .int .i64 y, .int .i64 e] := by
  rcases h with ⟨_, rfl⟩ | ⟨_, _, _, _, rfl⟩ | ⟨_, _, _, r, _, _, _, rfl⟩ <;> exact ⟨_, _, _, rfl⟩
theorem rootsLaw_rets {X : Caller} (hX : Xall X) (Q : List Int) (hQl : Q.length = 4) (a b c : Int) (g : GH) :
    Rets Try.prog X 5 [.agg (ints Q).toArray, .int .i64 a, .int .i64 b, .int .i64 c] g (fun v g' lo => v = .bool true) := by
  have hXX := hX
  have hX := hX.toXok
  have hR := rootR_len hQl
  refine Rets.run hX.pres p5 (hX.free 5 (by decide) (by decide) (by decide) _ _) rfl fun ho => ?_
  have hz4 := z4len
  simp +decide only [dseq, dreg, dbox, dalloc, nV_eq, cellsOf, tick, ev_put, ev_fill, ev_fill0, ev_none, ↓reduceIte, Nat.reduceEqDiff, Nat.reduceAdd]
  obtain ⟨hk0, hok, hnx, g1⟩ := boxQ ho Q 23
  generalize g.push (cellsOb (ints Q) 23) = G at *
  simp +decide (disch := first | assumption | (apply GH.ok_push; assumption) | exact cellV_int _ _ | exact cellV_bool _ | omega) only [go_sem, ↓reduceIte, Nat.reduceEqDiff, Nat.reduceAdd, Int.reduceToNat, g1]
  refine CallD.calm (root_rets hXX Q hQl G) ?_
  rintro v G1 hx1 rfl
  have hn1 := hx1.next
  have hok1 := hx1.ok hok
  have g11 := (hx1.gets _ (by omega)).trans g1
  obtain ⟨G2, e2, hk2, hok2, hn2, ga2⟩ := quadNew hok1 hR
  have g12 := (hk2.gets _ (by omega)).trans g11
  simp +decide (disch := first | assumption | (apply GH.ok_push; assumption) | exact cellV_int _ _ | exact cellV_bool _ | omega) only [go_sem, ↓reduceIte, Nat.reduceEqDiff, Nat.reduceAdd, Int.reduceToNat, ext30, ext31, ext2, hok1]
  rw [e2]
  simp +decide (disch := first | assumption | (apply GH.ok_push; assumption) | exact cellV_int _ _ | exact cellV_bool _ | omega) only [go_sem, ↓reduceIte, Nat.reduceEqDiff, Nat.reduceAdd, Int.reduceToNat, g12]
  refine CallD.calm (refRoot_rets hXX Q hQl G2) ?_
  rintro v G3 hx3 rfl
  have hn3 := hx3.next
  have hok3 := hx3.ok hok2
  have ga3 := (hx3.gets _ (by omega)).trans ga2
  obtain ⟨G4, e4, hk4, hok4, hn4, gb4⟩ := quadNew hok3 hR
  have ga4 := (hk4.gets _ (by omega)).trans ga3
  obtain ⟨q1, q2⟩ := eqSame hR
  simp +decide (disch := first | assumption | (apply GH.ok_push; assumption) | exact cellV_int _ _ | exact cellV_bool _ | omega) only [go_sem, ↓reduceIte, Nat.reduceEqDiff, Nat.reduceAdd, Int.reduceToNat, ext30, ext31, ext2, hok3]
  rw [e4]
  simp +decide (disch := first | assumption | (apply GH.ok_push; assumption) | exact cellV_int _ _ | exact cellV_bool _ | omega) only [go_sem, ↓reduceIte, Nat.reduceEqDiff, Nat.reduceAdd, Int.reduceToNat, ga4, gb4, q1, q2, eq_self]
  refine CallD.calm (fourth_rets hXX a b c G4) ?_
  rintro v G5 hx5 hv
  simp +decide (disch := first | assumption | (apply GH.ok_push; assumption) | exact cellV_int _ _ | exact cellV_bool _ | omega) only [go_sem, ↓reduceIte, Nat.reduceEqDiff, Nat.reduceAdd, Int.reduceToNat]
  obtain ⟨x, y, e, rfl⟩ := hv.shape
  simp +decide (disch := first | assumption | (apply GH.ok_push; assumption) | exact cellV_int _ _ | exact cellV_bool _ | omega) only [go_sem, ↓reduceIte, Nat.reduceEqDiff, Nat.reduceAdd, Int.reduceToNat, ext30, ext31, ext2]
  refine CallD.calm (refFourth_rets hXX a b c G5) ?_
  rintro w G6 hx6 hw
  obtain rfl := hv.unique hw
  simp +decide (disch := first | assumption | (apply GH.ok_push; assumption) | exact cellV_int _ _ | exact cellV_bool _ | omega) only [go_sem, ↓reduceIte, Nat.reduceEqDiff, Nat.reduceAdd, Int.reduceToNat, ext30, ext31, ext2, eq_self]
  refine CallD.calm (hXX.alive G6) ?_
  rintro v G7 hx7 rfl
  simp +decide (disch := first | assumption | (apply GH.ok_push; assumption) | exact cellV_int _ _ | exact cellV_bool _ | omega) only [go_sem, ↓reduceIte, Nat.reduceEqDiff, Nat.reduceAdd, Int.reduceToNat]
  intro hx
  trivial
end Go.Proofs.Ytdanjjhgfkfghaa
