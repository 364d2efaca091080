import Derived.Laws.Entries
import Derived.WalkKit
import Derived.Test.YtnpapnpedcbfnaaDoorDtK
set_option linter.all false
set_option linter.unusedSimpArgs false
set_option linter.unnecessarySimpa false
set_option linter.unusedVariables false
set_option linter.unusedSectionVars false
set_option linter.unusedVariables false
namespace Go.Vs
/-! ## The game -/
def un (n v : Nat) : Nat := (List.range n).countP fun k => !v.testBit k
def win (A : Nat → Nat) (n : Nat) : Nat → Nat → Nat → Bool
  | 0, _, _ => false
  | f + 1, v, l => (List.range n).any fun k => (A l).testBit k && !v.testBit k && !win A n f (v ||| 2 ^ k) k
def won (A : Nat → Nat) (n v l : Nat) : Bool := win A n (un n v) v l
/-- Does a visit win? -/
def good (A : Nat → Nat) (n v l k : Nat) : Bool := (A l).testBit k && !v.testBit k && !won A n (v ||| 2 ^ k) k
theorem countP_one {p q : Nat → Bool} {k : Nat} (hp : p k = true) (hq : q k = false) (h : ∀ j, j ≠ k → p j = q j) : ∀ n, k < n → (List.range n).countP p = (List.range n).countP q + 1 := by
  intro n hk
  induction n with
  | zero => omega
  | succ n ih =>
    rw [List.range_succ, List.countP_append, List.countP_append, List.countP_singleton, List.countP_singleton]
    by_cases c : k = n
    · subst c
      rw [hp, hq]
      have : (List.range k).countP p = (List.range k).countP q := by
        refine List.countP_congr fun x hx => ?_
        rw [h x (by have := List.mem_range.1 hx; omega)]
      rw [this]
      simp
    · rw [ih (by omega), h n (Ne.symm c)]
      omega
theorem un_step {n v k : Nat} (hk : k < n) (hv : v.testBit k = false) : un n v = un n (v ||| 2 ^ k) + 1 := by
  refine countP_one (k := k) (by rw [hv]; rfl) (by rw [Nat.testBit_or, Nat.testBit_two_pow_self]; simp) (fun j hj => ?_) n hk
  rw [Nat.testBit_or, Nat.testBit_two_pow_of_ne (Ne.symm hj), Bool.or_false]
theorem any_congr' {l : List Nat} {p q : Nat → Bool} (h : ∀ k ∈ l, p k = q k) : l.any p = l.any q := by
  rw [Bool.eq_iff_iff, List.any_eq_true, List.any_eq_true]
  exact ⟨fun ⟨x, hx, hp⟩ => ⟨x, hx, by rw [← h x hx]; exact hp⟩, fun ⟨x, hx, hp⟩ => ⟨x, hx, by rw [h x hx]; exact hp⟩⟩
theorem won_eq (A : Nat → Nat) (n v l : Nat) : won A n v l = (List.range n).any (good A n v l) := by
  unfold won
  cases h : un n v with
  | zero =>
    show false = _
    symm
    rw [List.any_eq_false]
    intro k hk
    have hk' := List.mem_range.1 hk
    cases c : v.testBit k with
    | true => simp [good, c]
    | false =>
      have := un_step hk' c
      omega
  | succ f =>
    show (List.range n).any _ = _
    refine any_congr' fun k hk => ?_
    have hk' := List.mem_range.1 hk
    unfold good
    cases c : v.testBit k with
    | true => simp
    | false =>
      have hs := un_step hk' c
      unfold won
      rw [show un n (v ||| 2 ^ k) = f by omega]
/-- The least visit that wins. -/
def move (A : Nat → Nat) (n v l : Nat) : Option Nat := (List.range n).find? (good A n v l)
theorem won_move (A : Nat → Nat) (n v l : Nat) : won A n v l = (move A n v l).isSome := by
  rw [won_eq]
  unfold move
  rw [Bool.eq_iff_iff, List.find?_isSome, List.any_eq_true]
/-- Up to a hat none wins; this one does, or does not. -/
theorem move_found {A : Nat → Nat} {n v l k : Nat} (hk : k < n) (h : ∀ j, j < k → good A n v l j = false) (hg : good A n v l k = true) : move A n v l = some k := by
  unfold move
  rw [List.find?_range_eq_some]
  exact ⟨hg, by simpa using hk, fun j hj => by simp [h j hj]⟩
theorem move_none {A : Nat → Nat} {n v l : Nat} (h : ∀ j, j < n → good A n v l j = false) : move A n v l = none := by
  unfold move
  rw [List.find?_eq_none]
  intro j hj
  rw [h j (List.mem_range.1 hj)]
  simp
theorem or_lt {v k n : Nat} (hv : v < 2 ^ n) (hk : k < n) : v ||| 2 ^ k < 2 ^ n := Nat.or_lt_two_pow hv (Nat.pow_lt_pow_right (by decide) hk)
theorem un_pos {n v k : Nat} (hk : k < n) (hv : v.testBit k = false) : un n (v ||| 2 ^ k) < un n v := by have := un_step hk hv; omega
end Go.Vs
set_option linter.unusedVariables false
namespace Go.Vs
open Go Go.RowKit
/-! ## Numbers as sets -/
theorem bv64 {a : Nat} (ha : a < 9223372036854775808) : (BitVec.ofInt 64 (a : Int)).toNat = a := by
  rw [BitVec.toNat_ofInt]
  omega
theorem wrap_nat {a : Nat} (ha : a < 9223372036854775808) : IntKind.i64.wrap (a : Int) = (a : Int) := by
  simp [IntKind.wrap, IntKind.bits, IntKind.signed]
  omega
theorem and_lt' {a b : Nat} (hb : b < 9223372036854775808) : a &&& b < 9223372036854775808 := Nat.lt_of_le_of_lt Nat.and_le_right hb
theorem or_lt' {a b : Nat} (ha : a < 9223372036854775808) (hb : b < 9223372036854775808) : a ||| b < 9223372036854775808 := Nat.or_lt_two_pow (n := 63) ha hb
/-- Without. -/
def andn (a b : Nat) : Nat := a &&& (18446744073709551615 - b)
theorem andn_le (a b : Nat) : andn a b ≤ a := Nat.and_le_left
theorem and64 {a b : Nat} (ha : a < 9223372036854775808) (hb : b < 9223372036854775808) : IntKind.i64.wrap ((BitVec.ofInt 64 (a : Int)) &&& (BitVec.ofInt 64 (b : Int))).toNat = ((a &&& b : Nat) : Int) := by
  rw [BitVec.toNat_and, bv64 ha, bv64 hb, wrap_nat (and_lt' hb)]
theorem or64 {a b : Nat} (ha : a < 9223372036854775808) (hb : b < 9223372036854775808) : IntKind.i64.wrap ((BitVec.ofInt 64 (a : Int)) ||| (BitVec.ofInt 64 (b : Int))).toNat = ((a ||| b : Nat) : Int) := by
  rw [BitVec.toNat_or, bv64 ha, bv64 hb, wrap_nat (or_lt' ha hb)]
theorem andn64 {a b : Nat} (ha : a < 9223372036854775808) (hb : b < 9223372036854775808) : IntKind.i64.wrap ((BitVec.ofInt 64 (a : Int)) &&& ~~~(BitVec.ofInt 64 (b : Int))).toNat = ((andn a b : Nat) : Int) := by
  rw [BitVec.toNat_and, BitVec.toNat_not, bv64 ha, bv64 hb]
  have e : 2 ^ 64 - 1 - b = 18446744073709551615 - b := by omega
  rw [e]
  have : a &&& (18446744073709551615 - b) < 9223372036854775808 := Nat.lt_of_le_of_lt Nat.and_le_left ha
  rw [wrap_nat this]
  rfl
theorem andn_bit {a b k : Nat} (hb : b < 18446744073709551616) (hk : k < 64) : (andn a b).testBit k = (a.testBit k && !b.testBit k) := by
  unfold andn
  rw [Nat.testBit_and]
  have : 18446744073709551615 - b = 2 ^ 64 - (b + 1) := by omega
  rw [this, Nat.testBit_two_pow_sub_succ (by omega)]
  simp [hk]
/-- In the kit's words. -/
theorem kbits_and {a b : Nat} (ha : a < 9223372036854775808) (hb : b < 9223372036854775808) : bits BinOp.and .i64 (a : Int) (b : Int) = ((a &&& b : Nat) : Int) := by
  simp [bits, IntKind.bits]
  exact and64 ha hb
theorem kbits_or {a b : Nat} (ha : a < 9223372036854775808) (hb : b < 9223372036854775808) : bits BinOp.or .i64 (a : Int) (b : Int) = ((a ||| b : Nat) : Int) := by
  simp [bits, IntKind.bits]
  exact or64 ha hb
theorem kbits_andn {a b : Nat} (ha : a < 9223372036854775808) (hb : b < 9223372036854775808) : bits BinOp.andNot .i64 (a : Int) (b : Int) = ((andn a b : Nat) : Int) := by
  simp [bits, IntKind.bits]
  exact andn64 ha hb
theorem bit_eq (x k : Nat) : (x / 2 ^ k) &&& 1 = if x.testBit k = true then 1 else 0 := by
  rw [Nat.and_one_is_mod, Nat.testBit_eq_decide_div_mod_eq]
  split
  · rename_i h; simpa using h
  · rename_i h
    have : ¬ x / 2 ^ k % 2 = 1 := by simpa using h
    omega
theorem hasb_eq {x k : Nat} (hx : x < 9223372036854775808) : (bits BinOp.and .i64 ((x : Int) / 2 ^ k) 1 == 1) = x.testBit k := by
  have e : ((x : Int) / 2 ^ k) = ((x / 2 ^ k : Nat) : Int) := by simp
  have hl : x / 2 ^ k < 9223372036854775808 := Nat.lt_of_le_of_lt (Nat.div_le_self _ _) hx
  have h1 : bits BinOp.and .i64 ((x / 2 ^ k : Nat) : Int) ((1 : Nat) : Int) = _ := kbits_and hl (by omega)
  rw [e, show (1 : Int) = ((1 : Nat) : Int) from rfl, h1, bit_eq]
  cases x.testBit k <;> rfl
theorem two_lt {k : Nat} (hk : k < 62) : 2 ^ k < 4611686018427387904 := Nat.pow_lt_pow_right (by decide) (show k < 62 from hk)
theorem wrap_two {k : Nat} (hk : k < 62) : wrap64 (2 ^ k) = ((2 ^ k : Nat) : Int) := by
  have := two_lt hk
  have e : (2 : Int) ^ k = ((2 ^ k : Nat) : Int) := by simp
  rw [e]
  generalize 2 ^ k = t at *
  unfold wrap64
  omega
end Go.Vs
set_option linter.unusedVariables false
namespace Go.Vs
/-! ## The least member -/
def low (s : Nat) : Nat := if h : s = 0 then 0 else if s % 2 = 1 then 0 else low (s / 2) + 1
termination_by s
decreasing_by omega
theorem low_spec (s : Nat) (h : s ≠ 0) : s.testBit (low s) = true ∧ ∀ j, j < low s → s.testBit j = false := by
  induction s using Nat.strongRecOn with
  | ind s ih =>
    unfold low
    rw [dif_neg h]
    by_cases c : s % 2 = 1
    · rw [if_pos c]
      exact ⟨by rw [Nat.testBit_zero]; simpa using c, fun j hj => by omega⟩
    · rw [if_neg c]
      have h2 : s / 2 ≠ 0 := by omega
      obtain ⟨h3, h4⟩ := ih (s / 2) (by omega) h2
      refine ⟨by rw [Nat.testBit_succ]; exact h3, fun j hj => ?_⟩
      cases j with
      | zero => rw [Nat.testBit_zero]; simpa using c
      | succ j => rw [Nat.testBit_succ]; exact h4 j (by omega)
theorem low_bit {s : Nat} (h : s ≠ 0) : s.testBit (low s) = true := (low_spec s h).1
theorem low_least {s j : Nat} (h : s ≠ 0) (hj : j < low s) : s.testBit j = false := (low_spec s h).2 j hj
theorem low_le {s j : Nat} (hj : s.testBit j = true) : low s ≤ j := by
  have h : s ≠ 0 := by rintro rfl; simp at hj
  rcases Nat.lt_or_ge j (low s) with c | c
  · rw [low_least h c] at hj; cases hj
  · exact c
theorem bit_lt {s n j : Nat} (hs : s < 2 ^ n) (hj : s.testBit j = true) : j < n := by
  rcases Nat.lt_or_ge j n with c | c
  · exact c
  · have := Nat.testBit_lt_two_pow (Nat.lt_of_lt_of_le hs (Nat.pow_le_pow_right (by decide) c))
    rw [this] at hj; cases hj
theorem low_lt {s n : Nat} (h : s ≠ 0) (hs : s < 2 ^ n) : low s < n := bit_lt hs (low_bit h)
theorem low_is {s i : Nat} (h1 : s.testBit i = true) (h2 : ∀ j, j < i → s.testBit j = false) : low s = i := by
  have h : s ≠ 0 := by rintro rfl; simp at h1
  have a := low_le h1
  rcases Nat.lt_or_ge (low s) i with c | c
  · have := low_bit h; rw [h2 _ c] at this; cases this
  · omega
/-! ## One member less -/
def del (s k : Nat) : Nat := if s.testBit k = true then s ^^^ 2 ^ k else s
theorem del_bit (s k j : Nat) : (del s k).testBit j = (s.testBit j && !decide (j = k)) := by
  unfold del
  split
  · rename_i h
    rw [Nat.testBit_xor]
    by_cases c : j = k
    · subst c; rw [h, Nat.testBit_two_pow_self]; simp
    · rw [Nat.testBit_two_pow_of_ne (Ne.symm c)]; simp [c]
  · rename_i h
    by_cases c : j = k
    · subst c; simp at h; rw [h]; rfl
    · simp [c]
theorem del_lt {s k n : Nat} (hs : s < 2 ^ n) : del s k < 2 ^ n := by
  apply Nat.lt_pow_two_of_testBit
  intro i hi
  rw [del_bit]
  have := Nat.testBit_lt_two_pow (Nat.lt_of_lt_of_le hs (Nat.pow_le_pow_right (by decide) hi))
  rw [this]; rfl
theorem del_div (s k : Nat) : del s (k + 1) / 2 = del (s / 2) k := by
  apply Nat.eq_of_testBit_eq
  intro i
  rw [← Nat.testBit_succ, del_bit, del_bit, ← Nat.testBit_succ]
  congr 2
  exact decide_eq_decide.2 (by omega)
theorem del_mod (s k : Nat) : del s (k + 1) % 2 = s % 2 := by
  have h : (del s (k + 1)).testBit 0 = s.testBit 0 := by rw [del_bit]; simp
  rw [Nat.testBit_zero, Nat.testBit_zero] at h
  have := decide_eq_decide.1 h
  omega
theorem bit_sub : ∀ (k : Nat) {s : Nat}, s.testBit k = true → s = del s k + 2 ^ k
  | 0, s, h => by
    have h1 : del s 0 / 2 = s / 2 := by
      apply Nat.eq_of_testBit_eq
      intro i
      rw [← Nat.testBit_succ, ← Nat.testBit_succ, del_bit]
      simp
    have h2 : (del s 0).testBit 0 = false := by rw [del_bit]; simp
    rw [Nat.testBit_zero] at h h2
    simp at h h2
    simp
    omega
  | k + 1, s, h => by
    have ih := bit_sub k (s := s / 2) (by rw [← Nat.testBit_succ]; exact h)
    have h1 := del_div s k
    have h2 := del_mod s k
    rw [Nat.pow_succ]
    omega
theorem del_less {s k : Nat} (h : s.testBit k = true) : del s k < s := by
  have := bit_sub k h
  have := Nat.two_pow_pos k
  omega
theorem del_le (s k : Nat) : del s k ≤ s := by
  by_cases c : s.testBit k = true
  · exact Nat.le_of_lt (del_less c)
  · unfold del; rw [if_neg c]; exact Nat.le_refl _
theorem andn_del {s k : Nat} (hk : k < 64) (hs : s < 2 ^ 64) : andn s (2 ^ k) = del s k := by
  apply Nat.eq_of_testBit_eq
  intro i
  rw [del_bit]
  rcases Nat.lt_or_ge i 64 with c | c
  · rw [andn_bit (Nat.pow_lt_pow_right (by decide) hk) c]
    by_cases ci : i = k
    · subst ci; rw [Nat.testBit_two_pow_self]; simp
    · rw [Nat.testBit_two_pow_of_ne (Ne.symm ci)]; simp [ci]
  · have h1 := Nat.testBit_lt_two_pow (Nat.lt_of_lt_of_le hs (Nat.pow_le_pow_right (by decide) c))
    have h2 := Nat.testBit_lt_two_pow (Nat.lt_of_lt_of_le (Nat.lt_of_le_of_lt (andn_le s (2 ^ k)) hs) (Nat.pow_le_pow_right (by decide) c))
    rw [h1, h2]; rfl
end Go.Vs
set_option linter.unusedVariables false
namespace Go.Vs
/-! ## Largest matchings -/
def mxs (p : Nat → Bool) (g : Nat → Nat) (m0 : Nat) : Nat → Nat
  | 0 => m0
  | n + 1 => if p n = true then max (mxs p g m0 n) (g n) else mxs p g m0 n
theorem mxs_base (p : Nat → Bool) (g : Nat → Nat) (m0 : Nat) : ∀ n, m0 ≤ mxs p g m0 n
  | 0 => Nat.le_refl _
  | n + 1 => by
    have := mxs_base p g m0 n
    unfold mxs
    split <;> omega
theorem mxs_ge (p : Nat → Bool) (g : Nat → Nat) (m0 : Nat) : ∀ n k, k < n → p k = true → g k ≤ mxs p g m0 n
  | 0, k, h, _ => by omega
  | n + 1, k, h, hp => by
    unfold mxs
    by_cases c : k = n
    · subst c
      rw [if_pos hp]
      omega
    · have := mxs_ge p g m0 n k (by omega) hp
      split <;> omega
theorem mxs_cases (p : Nat → Bool) (g : Nat → Nat) (m0 : Nat) : ∀ n, mxs p g m0 n = m0 ∨ ∃ k, k < n ∧ p k = true ∧ mxs p g m0 n = g k
  | 0 => .inl rfl
  | n + 1 => by
    unfold mxs
    rcases mxs_cases p g m0 n with h | ⟨k, h1, h2, h3⟩
    · split
      · rename_i c
        rcases Nat.le_total (mxs p g m0 n) (g n) with d | d
        · exact .inr ⟨n, by omega, c, by omega⟩
        · exact .inl (by omega)
      · exact .inl h
    · split
      · rename_i c
        rcases Nat.le_total (mxs p g m0 n) (g n) with d | d
        · exact .inr ⟨n, by omega, c, by omega⟩
        · exact .inr ⟨k, by omega, h2, by omega⟩
      · exact .inr ⟨k, by omega, h2, h3⟩
/-- How many pairs the largest matchings of a set have. -/
def best (A : Nat → Nat) (n : Nat) (s : Nat) : Nat :=
  if h : s = 0 then 0
  else mxs (fun k => (del s (low s) &&& A (low s)).testBit k) (fun k => best A n (del (del s (low s)) k) + 1) (best A n (del s (low s))) n
termination_by s
decreasing_by
  · have := del_less (low_bit h); have := del_le (del s (low s)) k; omega
  · exact del_less (low_bit h)
theorem best_zero (A : Nat → Nat) (n : Nat) : best A n 0 = 0 := by rw [best]; rfl
theorem best_eq (A : Nat → Nat) (n : Nat) {s : Nat} (h : s ≠ 0) : best A n s = mxs (fun k => (del s (low s) &&& A (low s)).testBit k) (fun k => best A n (del (del s (low s)) k) + 1) (best A n (del s (low s))) n := by
  rw [best, dif_neg h]
theorem best_rest (A : Nat → Nat) (n : Nat) {s : Nat} (h : s ≠ 0) : best A n (del s (low s)) ≤ best A n s := by rw [best_eq A n h]; exact mxs_base _ _ _ _
theorem best_pair (A : Nat → Nat) (n : Nat) {s k : Nat} (h : s ≠ 0) (hk : k < n) (hp : (del s (low s) &&& A (low s)).testBit k = true) : best A n (del (del s (low s)) k) + 1 ≤ best A n s := by
  rw [best_eq A n h]; exact mxs_ge (fun k => (del s (low s) &&& A (low s)).testBit k) (fun k => best A n (del (del s (low s)) k) + 1) _ n k hk hp
theorem best_case (A : Nat → Nat) (n : Nat) {s : Nat} (h : s ≠ 0) : best A n s = best A n (del s (low s)) ∨ ∃ k, k < n ∧ (del s (low s) &&& A (low s)).testBit k = true ∧ best A n s = best A n (del (del s (low s)) k) + 1 := by
  rw [best_eq A n h]; exact mxs_cases _ _ _ _
theorem best_small (A : Nat → Nat) (n : Nat) : ∀ s, best A n s ≤ s := by
  intro s
  induction s using Nat.strongRecOn with
  | ind s ih =>
    by_cases h : s = 0
    · subst h; rw [best_zero]; exact Nat.le_refl _
    · have h1 := del_less (low_bit h)
      rcases best_case A n h with e | ⟨k, hk, hp, e⟩
      · have := ih _ h1; omega
      · have := del_le (del s (low s)) k
        have := ih (del (del s (low s)) k) (by omega)
        omega
/-- The least of the largest. -/
def pick (A : Nat → Nat) (n s : Nat) : Option Nat := (List.range n).find? fun k => (del s (low s) &&& A (low s)).testBit k && decide (1 + best A n (del (del s (low s)) k) = best A n s)
def lrg (A : Nat → Nat) (n : Nat) (s : Nat) : List (Nat × Nat) :=
  if h : s = 0 then []
  else match pick A n s with
    | some k => (low s, k) :: lrg A n (del (del s (low s)) k)
    | none => lrg A n (del s (low s))
termination_by s
decreasing_by
  · have := del_less (low_bit h); have := del_le (del s (low s)) k; omega
  · exact del_less (low_bit h)
theorem lrg_zero (A : Nat → Nat) (n : Nat) : lrg A n 0 = [] := by rw [lrg]; rfl
theorem lrg_some {A : Nat → Nat} {n s k : Nat} (h : s ≠ 0) (hp : pick A n s = some k) : lrg A n s = (low s, k) :: lrg A n (del (del s (low s)) k) := by
  rw [lrg, dif_neg h, hp]
theorem lrg_none {A : Nat → Nat} {n s : Nat} (h : s ≠ 0) (hp : pick A n s = none) : lrg A n s = lrg A n (del s (low s)) := by
  rw [lrg, dif_neg h, hp]
theorem pick_some {A : Nat → Nat} {n s k : Nat} (hp : pick A n s = some k) : k < n ∧ (del s (low s) &&& A (low s)).testBit k = true ∧ 1 + best A n (del (del s (low s)) k) = best A n s := by
  have h1 := List.find?_some hp
  have h2 := List.mem_of_find?_eq_some hp
  rw [Bool.and_eq_true] at h1
  exact ⟨List.mem_range.1 h2, h1.1, by simpa using h1.2⟩
theorem pick_none {A : Nat → Nat} {n s : Nat} (h : s ≠ 0) (hp : pick A n s = none) : best A n s = best A n (del s (low s)) := by
  rcases best_case A n h with e | ⟨k, hk, hq, e⟩
  · exact e
  · have := List.find?_eq_none.1 hp k (List.mem_range.2 hk)
    rw [hq] at this
    simp at this
    omega
theorem lrg_len (A : Nat → Nat) (n : Nat) : ∀ s, (lrg A n s).length = best A n s := by
  intro s
  induction s using Nat.strongRecOn with
  | ind s ih =>
    by_cases h : s = 0
    · subst h; rw [lrg_zero, best_zero]; rfl
    · have h1 := del_less (low_bit h)
      cases hp : pick A n s with
      | some k =>
        have h2 := del_le (del s (low s)) k
        obtain ⟨_, _, e⟩ := pick_some hp
        rw [lrg_some h hp, List.length_cons, ih _ (by omega)]
        omega
      | none => rw [lrg_none h hp, ih _ h1, pick_none h hp]
/-! ## Matchings -/
def up (s a : Nat) : Nat := (s >>> (a + 1)) <<< (a + 1)
theorem up_bit (s a j : Nat) : (up s a).testBit j = (s.testBit j && decide (a < j)) := by
  unfold up
  rw [Nat.testBit_shiftLeft, Nat.testBit_shiftRight]
  by_cases c : a < j
  · rw [show a + 1 + (j - (a + 1)) = j by omega]; simp [c, show j ≥ a + 1 by omega]
  · simp [c, show ¬ j ≥ a + 1 by omega]
def mat (A : Nat → Nat) : Nat → List (Nat × Nat) → Bool
  | _, [] => true
  | s, (a, b) :: P => decide (a < b) && s.testBit a && s.testBit b && (A a).testBit b && mat A (del (up s a) b) P
theorem mat_mono {A : Nat → Nat} : ∀ (P : List (Nat × Nat)) {s t : Nat}, (∀ j, s.testBit j = true → t.testBit j = true) → mat A s P = true → mat A t P = true
  | [], _, _, _, _ => rfl
  | (a, b) :: P, s, t, h, hm => by
    unfold mat at hm ⊢
    simp only [Bool.and_eq_true, decide_eq_true_eq] at hm ⊢
    obtain ⟨⟨⟨⟨h1, h2⟩, h3⟩, h4⟩, h5⟩ := hm
    refine ⟨⟨⟨⟨h1, h _ h2⟩, h _ h3⟩, h4⟩, mat_mono P (fun j hj => ?_) h5⟩
    rw [del_bit, up_bit, Bool.and_eq_true, Bool.and_eq_true] at hj ⊢
    exact ⟨⟨h j hj.1.1, hj.1.2⟩, hj.2⟩
theorem mat_cons {A : Nat → Nat} {s a b : Nat} {P : List (Nat × Nat)} (h : mat A s ((a, b) :: P) = true) : a < b ∧ s.testBit a = true ∧ s.testBit b = true ∧ (A a).testBit b = true ∧ mat A (del (up s a) b) P = true := by
  unfold mat at h
  simp only [Bool.and_eq_true, decide_eq_true_eq] at h
  exact ⟨h.1.1.1.1, h.1.1.1.2, h.1.1.2, h.1.2, h.2⟩
theorem mat_mk {A : Nat → Nat} {s a b : Nat} {P : List (Nat × Nat)} (h1 : a < b) (h2 : s.testBit a = true) (h3 : s.testBit b = true) (h4 : (A a).testBit b = true) (h5 : mat A (del (up s a) b) P = true) : mat A s ((a, b) :: P) = true := by
  unfold mat
  simp [h1, h2, h3, h4, h5]
/-- The first pair has the least member, or the least member is in no pair. -/
theorem mat_low {A : Nat → Nat} {s a b : Nat} {P : List (Nat × Nat)} (h : mat A s ((a, b) :: P) = true) :
    (a = low s ∧ (del s (low s) &&& A (low s)).testBit b = true ∧ mat A (del (del s (low s)) b) P = true) ∨ (low s < a ∧ mat A (del s (low s)) ((a, b) :: P) = true) := by
  obtain ⟨h1, h2, h3, h4, h5⟩ := mat_cons h
  have hl := low_le h2
  by_cases c : a = low s
  · refine .inl ⟨c, ?_, mat_mono P (fun j hj => ?_) h5⟩
    · rw [Nat.testBit_and, del_bit, ← c, h3, h4]
      simp; omega
    · rw [del_bit, up_bit, Bool.and_eq_true, Bool.and_eq_true] at hj
      rw [del_bit, del_bit, Bool.and_eq_true, Bool.and_eq_true]
      refine ⟨⟨hj.1.1, ?_⟩, hj.2⟩
      have := hj.1.2
      simp only [decide_eq_true_eq] at this
      simp; omega
  · refine .inr ⟨by omega, mat_mk h1 ?_ ?_ h4 (mat_mono P (fun j hj => ?_) h5)⟩
    · rw [del_bit, h2]; simp; exact c
    · rw [del_bit, h3]; simp; omega
    · rw [del_bit, up_bit, Bool.and_eq_true, Bool.and_eq_true] at hj
      rw [del_bit, up_bit, del_bit, Bool.and_eq_true, Bool.and_eq_true, Bool.and_eq_true]
      refine ⟨⟨⟨hj.1.1, ?_⟩, hj.1.2⟩, hj.2⟩
      have := hj.1.2
      simp only [decide_eq_true_eq] at this
      simp; omega
theorem mat_le {A : Nat → Nat} {n : Nat} : ∀ (s : Nat), s < 2 ^ n → ∀ P, mat A s P = true → P.length ≤ best A n s := by
  intro s
  induction s using Nat.strongRecOn with
  | ind s ih =>
    intro hs P hP
    match P with
    | [] => simp
    | (a, b) :: P =>
      obtain ⟨h1, h2, h3, h4, h5⟩ := mat_cons hP
      have h : s ≠ 0 := by rintro rfl; simp at h2
      have hd := del_less (low_bit h)
      rcases mat_low hP with ⟨e, hb, hm⟩ | ⟨_, hm⟩
      · have h6 := del_le (del s (low s)) b
        have := ih (del (del s (low s)) b) (by omega) (by omega) P hm
        have := best_pair A n h (bit_lt hs h3) hb
        rw [List.length_cons]
        omega
      · have := ih (del s (low s)) hd (by omega) _ hm
        have := best_rest A n h
        omega
theorem lrg_mat (A : Nat → Nat) (n : Nat) : ∀ s, mat A s (lrg A n s) = true := by
  intro s
  induction s using Nat.strongRecOn with
  | ind s ih =>
    by_cases h : s = 0
    · subst h; rw [lrg_zero]; rfl
    · have hd := del_less (low_bit h)
      cases hp : pick A n s with
      | some k =>
        obtain ⟨_, hb, _⟩ := pick_some hp
        have h2 := del_le (del s (low s)) k
        rw [Nat.testBit_and, del_bit, Bool.and_eq_true, Bool.and_eq_true] at hb
        have hl := low_le hb.1.1
        have hne : k ≠ low s := by simpa using hb.1.2
        rw [lrg_some h hp]
        refine mat_mk (by omega) (low_bit h) hb.1.1 hb.2 (mat_mono _ (fun j hj => ?_) (ih _ (by omega)))
        rw [del_bit, del_bit, Bool.and_eq_true, Bool.and_eq_true] at hj
        rw [del_bit, up_bit, Bool.and_eq_true, Bool.and_eq_true]
        have := low_le hj.1.1
        have hj2 : j ≠ low s := by simpa using hj.1.2
        exact ⟨⟨hj.1.1, by simp; omega⟩, hj.2⟩
      | none =>
        rw [lrg_none h hp]
        exact mat_mono _ (fun j hj => by rw [del_bit, Bool.and_eq_true] at hj; exact hj.1) (ih _ hd)
/-- No matching with as many pairs is less. -/
theorem lrg_first {A : Nat → Nat} {n : Nat} : ∀ (s : Nat), s < 2 ^ n → ∀ P : List (Nat × Nat), mat A s P = true → P.length = best A n s → ∀ i a b c d : Nat, P[i]? = some (a, b) → (lrg A n s)[i]? = some (c, d) → (∀ j, j < i → P[j]? = (lrg A n s)[j]?) → (c < a ∨ c = a ∧ d ≤ b) := by
  intro s
  induction s using Nat.strongRecOn with
  | ind s ih =>
    intro hs P hP hlen i a b c d hi hc hsame
    by_cases h : s = 0
    · subst h; rw [lrg_zero] at hc; simp at hc
    have hd := del_less (low_bit h)
    match P, hP, hlen, hi, hsame with
    | (a0, b0) :: P, hP, hlen, hi, hsame =>
      rw [List.length_cons] at hlen
      have hb3 := (mat_cons hP).2.2.1
      cases hp : pick A n s with
      | some k =>
        obtain ⟨hk, hb, hbk⟩ := pick_some hp
        have h2 := del_le (del s (low s)) k
        rw [lrg_some h hp] at hc hsame
        rcases mat_low hP with ⟨e, hb0, hm⟩ | ⟨hlt, hm⟩
        · have h6 := del_le (del s (low s)) b0
          have hle := mat_le (n := n) (del (del s (low s)) b0) (by omega) P hm
          have hge := best_pair A n h (bit_lt hs hb3) hb0
          have hq : k ≤ b0 := by
            rcases Nat.lt_or_ge b0 k with q | q
            · have := (List.find?_range_eq_some.1 hp).2.2 b0 q
              rw [hb0] at this
              simp at this
              omega
            · exact q
          cases i with
          | zero =>
            simp at hi hc
            omega
          | succ i =>
            have h0 := hsame 0 (by omega)
            simp at h0
            simp only [List.getElem?_cons_succ] at hi hc
            obtain ⟨e1, e2⟩ := h0
            subst e2
            exact ih (del (del s (low s)) b0) (by omega) (by omega) P hm (by omega) i a b c d hi hc fun j hj => by
              have := hsame (j + 1) (by omega)
              simpa using this
        · cases i with
          | zero =>
            simp at hi hc
            omega
          | succ i =>
            have h0 := hsame 0 (by omega)
            simp at h0
            omega
      | none =>
        have e := pick_none h hp
        rw [lrg_none h hp] at hc hsame
        rcases mat_low hP with ⟨e1, hb0, hm⟩ | ⟨hlt, hm⟩
        · have h6 := del_le (del s (low s)) b0
          have hle := mat_le (n := n) (del (del s (low s)) b0) (by omega) P hm
          have hge := best_pair A n h (bit_lt hs hb3) hb0
          have := List.find?_eq_none.1 hp b0 (List.mem_range.2 (bit_lt hs hb3))
          rw [hb0] at this
          simp at this
          omega
        · exact ih (del s (low s)) hd (by omega) _ hm (by rw [List.length_cons]; omega) i a b c d hi hc hsame
end Go.Vs
