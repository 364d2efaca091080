import Derived.Test.YtdanjjhgfkfghaaDtK
import Derived.Test.YtdanjjhgfkfghaaK1
import Derived.Test.YtdanjjhgfkfghaaDtE
import Derived.KernelRfl
import Derived.Test.YtdanjjhgfkfghaaDtF
set_option linter.all false
set_option linter.unusedSimpArgs false
set_option linter.unnecessarySimpa false
set_option linter.unusedVariables false
set_option linter.unusedSectionVars false
set_option maxRecDepth 100000
set_option maxHeartbeats 8000000
set_option linter.unusedSimpArgs false
set_option linter.unusedVariables false
namespace Go.Proofs.Ytdanjjhgfkfghaa
open Go.Ds

theorem wr_u64 {n : Int} (h0 : 0 ≤ n) (h1 : n < 18446744073709551616) : wrapF .u64 n = n := by
  obtain ⟨m, rfl⟩ := Int.eq_ofNat_of_zero_le h0
  show (bif Nat.blt m 18446744073709551616 then ((m : Nat) : Int) else .ofNat (Nat.mod m 18446744073709551616)) = _
  rw [show Nat.blt m 18446744073709551616 = true by rw [Nat.blt_eq]; omega]; rfl
theorem wr_u64m {n : Int} (h0 : 0 ≤ n) : wrapF .u64 n = n % 18446744073709551616 := by
  obtain ⟨m, rfl⟩ := Int.eq_ofNat_of_zero_le h0
  show (bif Nat.blt m 18446744073709551616 then ((m : Nat) : Int) else .ofNat (Nat.mod m 18446744073709551616)) = _
  by_cases c : m < 18446744073709551616
  · rw [show Nat.blt m 18446744073709551616 = true by rw [Nat.blt_eq]; exact c]; simp only [cond_true]; omega
  · rw [show Nat.blt m 18446744073709551616 = false by rw [blt_d]; simpa using c]; rfl
theorem and_mask {a : Int} (h0 : 0 ≤ a) (h1 : a < 18446744073709551616) : intB .and .u64 a 4294967295 = some (.int .u64 (a % 4294967296)) := by
  obtain ⟨m, rfl⟩ := Int.eq_ofNat_of_zero_le h0
  have e : ((BitVec.ofInt 64 (m : Int)) &&& (BitVec.ofInt 64 4294967295)).toNat = m % 4294967296 := by
    rw [BitVec.toNat_and]
    have e1 : (BitVec.ofInt 64 (m : Int)).toNat = m := by
      rw [BitVec.toNat_ofInt]; omega
    have e2 : (BitVec.ofInt 64 4294967295).toNat = 2 ^ 32 - 1 := by decide
    rw [e1, e2, Nat.and_two_pow_sub_one_eq_mod]
  show some (Value.int .u64 (IntKind.wrap .u64 (((BitVec.ofInt 64 (m : Int)) &&& (BitVec.ofInt 64 4294967295)).toNat : Int))) = _
  rw [e]
  have : IntKind.wrap .u64 ((m % 4294967296 : Nat) : Int) = ((m % 4294967296 : Nat) : Int) := by
    show ((m % 4294967296 : Nat) : Int) % 18446744073709551616 = _
    omega
  rw [this]; rfl
theorem shr_32 {a : Int} (h0 : 0 ≤ a) : intB .shr .u64 a 32 = some (.int .u64 (a / 4294967296)) := by
  show some (Value.int .u64 (a.fdiv ((Nat.pow 2 (min 32 64) : Nat) : Int))) = _
  rw [Int.fdiv_eq_ediv_of_nonneg _ (by decide)]; rfl
abbrev c66 : PC := (.seq (.reg [⟨none, (some 4), (some (.move (.c (.int .u64 0)))), none, []⟩, ⟨none, (some 5), (some (.move (.c (.int .u64 0)))), none, []⟩]) (.seq (.reg [⟨none, (some 14), (some (.move (.s 0))), none, []⟩, ⟨none, (some 15), (some (.bin .and (.s 14) (.c (.int .u64 4294967295)))), none, []⟩, ⟨none, (some 6), (some (.move (.s 15))), none, []⟩]) (.seq (.reg [⟨none, (some 16), (some (.move (.s 0))), none, []⟩, ⟨none, (some 17), (some (.bin .shr (.s 16) (.c (.int .u64 32)))), none, []⟩, ⟨none, (some 7), (some (.move (.s 17))), none, []⟩]) (.seq (.reg [⟨none, (some 18), (some (.move (.s 1))), none, []⟩, ⟨none, (some 19), (some (.bin .and (.s 18) (.c (.int .u64 4294967295)))), none, []⟩, ⟨none, (some 8), (some (.move (.s 19))), none, []⟩]) (.seq (.reg [⟨none, (some 20), (some (.move (.s 1))), none, []⟩, ⟨none, (some 21), (some (.bin .shr (.s 20) (.c (.int .u64 32)))), none, []⟩, ⟨none, (some 9), (some (.move (.s 21))), none, []⟩]) (.seq (.reg [⟨none, (some 22), (some (.move (.s 6))), none, []⟩, ⟨none, (some 23), (some (.move (.s 8))), none, []⟩, ⟨none, (some 24), (some (.bin .mul (.s 22) (.s 23))), none, []⟩, ⟨none, (some 10), (some (.move (.s 24))), none, []⟩]) (.seq (.reg [⟨none, (some 25), (some (.move (.s 7))), none, []⟩, ⟨none, (some 26), (some (.move (.s 8))), none, []⟩, ⟨none, (some 27), (some (.bin .mul (.s 25) (.s 26))), none, []⟩, ⟨none, (some 28), (some (.move (.s 10))), none, []⟩, ⟨none, (some 29), (some (.bin .shr (.s 28) (.c (.int .u64 32)))), none, []⟩, ⟨none, (some 30), (some (.bin .add (.s 27) (.s 29))), none, []⟩, ⟨none, (some 11), (some (.move (.s 30))), none, []⟩]) (.seq (.reg [⟨none, (some 31), (some (.move (.s 11))), none, []⟩, ⟨none, (some 32), (some (.bin .and (.s 31) (.c (.int .u64 4294967295)))), none, []⟩, ⟨none, (some 12), (some (.move (.s 32))), none, []⟩]) (.seq (.reg [⟨none, (some 33), (some (.move (.s 11))), none, []⟩, ⟨none, (some 34), (some (.bin .shr (.s 33) (.c (.int .u64 32)))), none, []⟩, ⟨none, (some 13), (some (.move (.s 34))), none, []⟩]) (.seq (.reg [⟨none, (some 35), (some (.move (.s 12))), none, []⟩, ⟨none, (some 36), (some (.move (.s 6))), none, []⟩, ⟨none, (some 37), (some (.move (.s 9))), none, []⟩, ⟨none, (some 38), (some (.bin .mul (.s 36) (.s 37))), none, []⟩, ⟨none, (some 39), (some (.bin .add (.s 35) (.s 38))), none, []⟩, ⟨none, (some 12), (some (.move (.s 39))), none, []⟩]) (.seq (.reg [⟨none, (some 40), (some (.move (.s 7))), none, []⟩, ⟨none, (some 41), (some (.move (.s 9))), none, []⟩, ⟨none, (some 42), (some (.bin .mul (.s 40) (.s 41))), none, []⟩, ⟨none, (some 43), (some (.move (.s 13))), none, []⟩, ⟨none, (some 44), (some (.bin .add (.s 42) (.s 43))), none, []⟩, ⟨none, (some 45), (some (.move (.s 12))), none, []⟩, ⟨none, (some 46), (some (.bin .shr (.s 45) (.c (.int .u64 32)))), none, []⟩, ⟨none, (some 47), (some (.bin .add (.s 44) (.s 46))), none, []⟩, ⟨none, (some 4), (some (.move (.s 47))), none, []⟩]) (.seq (.reg [⟨none, (some 48), (some (.move (.s 0))), none, []⟩, ⟨none, (some 49), (some (.move (.s 1))), none, []⟩, ⟨none, (some 50), (some (.bin .mul (.s 48) (.s 49))), none, []⟩, ⟨none, (some 5), (some (.move (.s 50))), none, []⟩]) .ret))))))))))))
abbrev r66 : List PR := [(.tmp 4), (.tmp 5)]
theorem p66 : prepF Try.prog 66 = some ⟨c66, r66⟩ := by kernel_rfl
abbrev c50 : PC := (.seq (.reg [⟨none, (some 0), none, (some (.alloc 23 [(.int .i64 0), (.int .i64 0), (.int .i64 0), (.int .i64 0)])), []⟩]) (.seq (.reg [⟨none, (some 1), (some (.build [] (some 1) #[(.int .i64 0), (.int .i64 0), (.int .i64 0), (.int .i64 0)] [(0, (.c (.int .i64 (-1)))), (1, (.c (.int .i64 2))), (2, (.c (.int .i64 2))), (3, (.c (.int .i64 3)))])), none, []⟩, ⟨none, none, none, (some (.store 4 (.s 0) (.s 1))), []⟩]) .ret))
abbrev r50 : List PR := [(.cell 0 (some 4))]
theorem p50 : prepF Try.prog 50 = some ⟨c50, r50⟩ := by kernel_rfl
theorem mul64_rets {X : Caller} (hX : Xok X) (hfree : ∀ l h, X 66 l h = none) (a b : Int) (a0 : 0 ≤ a) (a1 : a < 18446744073709551616) (b0 : 0 ≤ b) (b1 : b < 18446744073709551616) (g : GH) :
    Rets Try.prog X 66 [.int .u64 a, .int .u64 b] g (fun v g' lo => g.next ≤ lo ∧ v = .tuple #[.int .u64 (a * b / 18446744073709551616), .int .u64 (a * b % 18446744073709551616)]) := by
  refine Rets.run hX.pres p66 (hfree _ _) rfl fun ho => ?_
  have q00 : 0 ≤ a % 4294967296 * (b % 4294967296) ∧ a % 4294967296 * (b % 4294967296) ≤ 4294967295 * 4294967295 := ⟨Int.mul_nonneg (by omega) (by omega), Int.mul_le_mul (by omega) (by omega) (by omega) (by decide)⟩
  have q10 : 0 ≤ a / 4294967296 * (b % 4294967296) ∧ a / 4294967296 * (b % 4294967296) ≤ 4294967295 * 4294967295 := ⟨Int.mul_nonneg (by omega) (by omega), Int.mul_le_mul (by omega) (by omega) (by omega) (by decide)⟩
  have q01 : 0 ≤ a % 4294967296 * (b / 4294967296) ∧ a % 4294967296 * (b / 4294967296) ≤ 4294967295 * 4294967295 := ⟨Int.mul_nonneg (by omega) (by omega), Int.mul_le_mul (by omega) (by omega) (by omega) (by decide)⟩
  have q11 : 0 ≤ a / 4294967296 * (b / 4294967296) ∧ a / 4294967296 * (b / 4294967296) ≤ 4294967295 * 4294967295 := ⟨Int.mul_nonneg (by omega) (by omega), Int.mul_le_mul (by omega) (by omega) (by omega) (by decide)⟩
  have hab : a * b = a / 4294967296 * (b / 4294967296) * 18446744073709551616 + (a / 4294967296 * (b % 4294967296) + a % 4294967296 * (b / 4294967296)) * 4294967296 + a % 4294967296 * (b % 4294967296) := by
    have e1 : a = a / 4294967296 * 4294967296 + a % 4294967296 := by omega
    have e2 : b = b / 4294967296 * 4294967296 + b % 4294967296 := by omega
    generalize a / 4294967296 = x1 at *
    generalize a % 4294967296 = x0 at *
    generalize b / 4294967296 = y1 at *
    generalize b % 4294967296 = y0 at *
    rw [e1, e2]; grind
  have hab0 : 0 ≤ a * b := Int.mul_nonneg a0 b0
  have hm : wrapF .u64 (a * b) = a * b % 18446744073709551616 := wr_u64m hab0
  simp +decide (disch := first | assumption | (apply GH.ok_push; assumption) | exact cellV_int _ _ | exact cellV_bool _ | omega) only [go_sem, ↓reduceIte, Nat.reduceEqDiff, Nat.reduceAdd, Int.reduceToNat, and_mask, shr_32, wr_u64, hm]
  intro hx0
  refine ⟨Nat.le_refl _, ?_⟩
  congr 4
  rw [hab]
  generalize a / 4294967296 * (b / 4294967296) = p11 at *
  generalize a / 4294967296 * (b % 4294967296) = p10 at *
  generalize a % 4294967296 * (b / 4294967296) = p01 at *
  generalize a % 4294967296 * (b % 4294967296) = p00 at *
  omega
/-- A wide number in memory or in hand. -/
def W (x : Int) : Value := .agg #[.int .u64 (x / 18446744073709551616), .int .u64 (x % 18446744073709551616)]
theorem square_rets {X : Caller} (hX : Xok X) (hfree : ∀ l h, X 66 l h = none) (n : Int) (h1 : -4611686018427387904 ≤ n) (h2 : n ≤ 4611686018427387904) (g : GH) :
    Rets Try.prog X 44 [.int .i64 n] g (fun v g' lo => g.next ≤ lo ∧ v = W (n * n)) := by
  refine Rets.run hX.pres p44 (hX.free 44 (by decide) (by decide) (by decide) _ _) rfl fun ho => ?_
  have hg : (g.push (cellsOb [.int .u64 0, .int .u64 0] 60)).get g.next = cellsOb [.int .u64 0, .int .u64 0] 60 := by rw [GH.get_push ho, if_pos rfl]
  have ho1 := GH.ok_push (o := cellsOb [.int .u64 0, .int .u64 0] 60) ho
  have hn1 : (g.push (cellsOb [.int .u64 0, .int .u64 0] 60)).next = g.next + 1 := rfl
  simp +decide only [dseq, dreg, dbox, dalloc, nV_eq, cellsOf, tick, ev_put, ev_fill, ev_fill0, ev_none, ↓reduceIte, Nat.reduceEqDiff, Nat.reduceAdd]
  generalize g.push (cellsOb [.int .u64 0, .int .u64 0] 60) = G at *
  obtain ⟨m, hm, hmm, hm0, hm1⟩ : ∃ m : Int, (∀ (u v : Value), (bif decide (n < 0 - n) then 0 - n else n) = m) ∧ m * m = n * n ∧ 0 ≤ m ∧ m ≤ 4611686018427387904 := by
    by_cases c : n < 0 - n
    · exact ⟨0 - n, fun _ _ => by rw [decide_eq_true c]; rfl, by grind, by omega, by omega⟩
    · exact ⟨n, fun _ _ => by rw [decide_eq_false c]; rfl, rfl, by omega, by omega⟩
  have hm := hm undef undef
  have hcu : convF .u64 (.int .i64 m) = some (.int .u64 m) := by
    show some (Value.int .u64 (wrapF .u64 m)) = _
    rw [wr_u64 hm0 (by omega)]
  have hmx : mxF (.int .i64 n) (.int .i64 (0 - n)) = some (.int .i64 m) := by
    show some (Value.int .i64 (bif ilt n (0 - n) then 0 - n else n)) = _
    rw [lt_i, hm]
  simp +decide (disch := first | assumption | (apply GH.ok_push; assumption) | exact cellV_int _ _ | exact cellV_bool _ | omega) only [go_sem, ↓reduceIte, Nat.reduceEqDiff, Nat.reduceAdd, Int.reduceToNat, hmx, hcu]
  refine CallD.calm (mul64_rets hX hfree m m hm0 (by omega) hm0 (by omega) G) ?_
  rintro v G2 hx rfl
  have hn2 := hx.next
  have hg2 : G2.get g.next = cellsOb [.int .u64 0, .int .u64 0] 60 := (hx.gets _ (by omega)).trans hg
  have hx0 : ∀ (u v : Value), extF (.tuple #[u, v]) 0 = some u := fun u v => rfl
  have hx1 : ∀ (u v : Value), extF (.tuple #[u, v]) 1 = some v := fun u v => rfl
  have hset := fun o => GH.get_set_same hg2 Nat.one_ne_zero o
  simp +decide (disch := first | assumption | (apply GH.ok_push; assumption) | exact cellV_int _ _ | exact cellV_bool _ | omega) only [go_sem, ↓reduceIte, Nat.reduceEqDiff, Nat.reduceAdd, Int.reduceToNat, hx0, hx1, hg2, hset]
  intro hx0
  refine ⟨by omega, ?_⟩
  rw [hmm]; rfl
end Go.Proofs.Ytdanjjhgfkfghaa
set_option maxRecDepth 100000
set_option maxHeartbeats 8000000
set_option linter.unusedSimpArgs false
set_option linter.unusedVariables false
namespace Go.Proofs.Ytdanjjhgfkfghaa
open Go.Ds

structure Xall (X : Caller) : Prop extends Xok X where
  mul : ∀ l h, X 66 l h = none
  add : ∀ (x y c : Int) (g : GH), 0 ≤ x → 0 ≤ y → 0 ≤ c → c ≤ 1 → Rets Try.prog X 65 [.int .u64 x, .int .u64 y, .int .u64 c] g (fun v g' lo => g.next ≤ lo ∧ v = .tuple #[.int .u64 ((x + y + c) % 18446744073709551616), .int .u64 ((x + y + c) / 18446744073709551616)])
  alive : ∀ g : GH, Rets Try.prog X 21 [] g (fun v g' lo => g.next ≤ lo ∧ v = .bool true)
theorem w_eq {a b c d : Int} (h1 : a = c) (h2 : b = d) : Value.agg #[.int .u64 a, .int .u64 b] = Value.agg #[.int .u64 c, .int .u64 d] := by subst h1; subst h2; rfl
theorem ext0 (u v : Value) : extF (.tuple #[u, v]) 0 = some u := rfl
theorem ext1 (u v : Value) : extF (.tuple #[u, v]) 1 = some v := rfl
theorem wplus_rets {X : Caller} (hX : Xall X) (x y : Int) (hx0 : 0 ≤ x) (hy0 : 0 ≤ y) (hxy : x + y < 340282366920938463463374607431768211456) (g : GH) :
    Rets Try.prog X 43 [W x, W y] g (fun v g' lo => g.next ≤ lo ∧ v = W (x + y)) := by
  unfold W
  have hXX := hX
  have hX := hX.toXok
  refine Rets.run hX.pres p43 (hX.free 43 (by decide) (by decide) (by decide) _ _) rfl fun ho => ?_
  simp +decide only [dseq, dreg, dbox, dalloc, nV_eq, cellsOf, tick, ev_put, ev_fill, ev_fill0, ev_none, ↓reduceIte, Nat.reduceEqDiff, Nat.reduceAdd]
  obtain ⟨hk, hok, hnx, g1, g2, g3⟩ := three ho (cellsOb [.int .u64 (x / 18446744073709551616), .int .u64 (x % 18446744073709551616)] 60) (cellsOb [.int .u64 (y / 18446744073709551616), .int .u64 (y % 18446744073709551616)] 60) (cellsOb [.int .u64 0, .int .u64 0] 60)
  generalize ((g.push (cellsOb [.int .u64 (x / 18446744073709551616), .int .u64 (x % 18446744073709551616)] 60)).push (cellsOb [.int .u64 (y / 18446744073709551616), .int .u64 (y % 18446744073709551616)] 60)).push (cellsOb [.int .u64 0, .int .u64 0] 60) = G at *
  simp +decide (disch := first | assumption | (apply GH.ok_push; assumption) | exact cellV_int _ _ | exact cellV_bool _ | omega) only [go_sem, ↓reduceIte, Nat.reduceEqDiff, Nat.reduceAdd, Int.reduceToNat, g1, g2]
  refine CallD.calm (hXX.add (x % 18446744073709551616) (y % 18446744073709551616) 0 G (by omega) (by omega) (by decide) (by decide)) ?_
  rintro v G2 hx rfl
  have hn2 := hx.next
  have g12 := (hx.gets _ (by omega)).trans g1
  have g22 := (hx.gets _ (by omega)).trans g2
  have g32 := (hx.gets _ (by omega)).trans g3
  simp +decide (disch := first | assumption | (apply GH.ok_push; assumption) | exact cellV_int _ _ | exact cellV_bool _ | omega) only [go_sem, ↓reduceIte, Nat.reduceEqDiff, Nat.reduceAdd, Int.reduceToNat, ext0, ext1, g12, g22]
  refine CallD.calm (hXX.add (x / 18446744073709551616) (y / 18446744073709551616) _ G2 (by omega) (by omega) (by omega) (by omega)) ?_
  rintro v G3 hx3 rfl
  have hn3 := hx3.next
  have g33 := (hx3.gets _ (by omega)).trans g32
  have hset := fun o => GH.get_set_same g33 Nat.one_ne_zero o
  simp +decide (disch := first | assumption | (apply GH.ok_push; assumption) | exact cellV_int _ _ | exact cellV_bool _ | omega) only [go_sem, ↓reduceIte, Nat.reduceEqDiff, Nat.reduceAdd, Int.reduceToNat, ext0, ext1, g33, hset]
  intro hx0
  refine ⟨by omega, ?_⟩
  exact w_eq (by omega) (by omega)
theorem rangeD_rets {X : Caller} (hX : Xall X) (n : Int) (g : GH) : Rets Try.prog X 42 [.int .i64 n] g (fun v g' lo => g.next ≤ lo ∧ v = .bool (inR n)) := by
  have hX := hX.toXok
  refine Rets.run hX.pres p42 (hX.free 42 (by decide) (by decide) (by decide) _ _) rfl fun ho => ?_
  by_cases c : -1099511627776 ≤ n
  · simp +decide (disch := first | assumption | (apply GH.ok_push; assumption) | exact cellV_int _ _ | exact cellV_bool _ | omega) only [go_sem, ↓reduceIte, Nat.reduceEqDiff, Nat.reduceAdd, Int.reduceToNat]
    intro hx0
    refine ⟨Nat.le_refl _, ?_⟩
    simp [inR, c]
  · simp +decide (disch := first | assumption | (apply GH.ok_push; assumption) | exact cellV_int _ _ | exact cellV_bool _ | omega) only [go_sem, ↓reduceIte, Nat.reduceEqDiff, Nat.reduceAdd, Int.reduceToNat]
    intro hx0
    refine ⟨Nat.le_refl _, ?_⟩
    simp [inR, c]
theorem idxA_at {n m : Nat} {cs : Array Value} {x : Int} {v : Value} (hx : x = m) (hm : m < n) (hv : cs[m]? = some v) : idxAF n 1 false (.agg cs) (.int .i64 x) = some v := by
  subst hx
  simp only [idxAF, asNat_nat]
  rw [show Nat.blt m n = true from Nat.blt_eq ▸ hm]
  simp only [cond_true, cond_false, partF, Nat.mul_one, hv]
theorem eqW (x y : Int) (hx : 0 ≤ x) (hy : 0 ≤ y) : eqAF false 2 (W x) (W y) = some (.bool (decide (x = y))) := by
  unfold W
  simp only [eqAF, intEqs, kindEq, eq_i]
  rw [show (Nat.beq (#[Value.int IntKind.u64 (x / 18446744073709551616), Value.int IntKind.u64 (x % 18446744073709551616)] : Array Value).size 2 && Nat.beq (#[Value.int IntKind.u64 (y / 18446744073709551616), Value.int IntKind.u64 (y % 18446744073709551616)] : Array Value).size 2) = true from rfl]
  simp only [cond_true, cond_false]
  by_cases c1 : x / 18446744073709551616 = y / 18446744073709551616
  · rw [decide_eq_true c1]
    by_cases c2 : x % 18446744073709551616 = y % 18446744073709551616
    · have : x = y := by omega
      rw [decide_eq_true c2, decide_eq_true this]; rfl
    · have : ¬ x = y := by omega
      rw [decide_eq_false c2, decide_eq_false this]; rfl
  · have : ¬ x = y := by omega
    rw [decide_eq_false c1, decide_eq_false this]; rfl
def DQInv (g : GH) (Q : List Int) (p : Nat) (m : Nat) (e : Env) (g' : GH) (lo : Nat) : Prop :=
  g.next ≤ lo ∧ Kept g g' ∧ ev e (.s 4) = ptrTo p ∧ g.next < p ∧ p < g'.next ∧ ev e (.s 8) = .agg (ints Q).toArray ∧
  ∃ i, i + m = 4 ∧ ev e (.s 9) = .int .i64 (i : Int) ∧ (Q.take i).all inR = true ∧ ev e (.s 3) = .int .i64 (sum1 (Q.take i)) ∧
  g'.get p = cellsOb [.int .u64 (sum2 (Q.take i) / 18446744073709551616), .int .u64 (sum2 (Q.take i) % 18446744073709551616)] 60
theorem sums_bound : ∀ (l : List Int), l.all inR = true → -(1099511627776 * (l.length : Int)) ≤ sum1 l ∧ sum1 l ≤ 1099511627776 * (l.length : Int) ∧ 0 ≤ sum2 l ∧ sum2 l ≤ 1208925819614629174706176 * (l.length : Int)
  | [], _ => by simp [sum1, sum2]
  | x :: l, h => by
    simp only [List.all_cons, Bool.and_eq_true] at h
    obtain ⟨h1, h2⟩ := h
    have hx := (inR_iff x).1 h1
    obtain ⟨a, b, c, d⟩ := sums_bound l h2
    have hxx : x * x ≤ 1208925819614629174706176 := by
      rcases Int.le_total 0 x with h | h
      · exact Int.le_trans (Int.mul_le_mul hx.2 hx.2 h (by decide)) (by decide)
      · have : x * x = (-x) * (-x) := by grind
        rw [this]
        exact Int.le_trans (Int.mul_le_mul (by omega : -x ≤ 1099511627776) (by omega : -x ≤ 1099511627776) (by omega) (by decide)) (by decide)
    have hx0 : 0 ≤ x * x := by
      rcases Int.le_total 0 x with h | h
      · exact Int.mul_nonneg h h
      · have : x * x = (-x) * (-x) := by grind
        rw [this]; exact Int.mul_nonneg (by omega) (by omega)
    simp only [sum1, sum2, List.length_cons]
    omega
theorem discQuad_rets {X : Caller} (hX : Xall X) (a b c d : Int) (g : GH) : Rets Try.prog X 15 [.agg #[.int .i64 a, .int .i64 b, .int .i64 c, .int .i64 d]] g (fun v g' lo => g.next ≤ lo ∧ v = .bool (isQ [a, b, c, d])) := by
  have hXX := hX
  have hX := hX.toXok
  refine Rets.run hX.pres p15 (hX.free 15 (by decide) (by decide) (by decide) _ _) rfl fun ho => ?_
  simp +decide only [dseq, dreg, dbox, dalloc, nV_eq, cellsOf, tick, ev_put, ev_fill, ev_fill0, ev_none, ↓reduceIte, Nat.reduceEqDiff, Nat.reduceAdd]
  have hk0 : Kept g (g.push (cellsOb [.int .i64 a, .int .i64 b, .int .i64 c, .int .i64 d] 23)) := (Kept.refl g).push ho _
  have ho0 : (g.push (cellsOb [.int .i64 a, .int .i64 b, .int .i64 c, .int .i64 d] 23)).ok := GH.ok_push ho
  have hn0 : (g.push (cellsOb [.int .i64 a, .int .i64 b, .int .i64 c, .int .i64 d] 23)).next = g.next + 1 := rfl
  have hg0 : (g.push (cellsOb [.int .i64 a, .int .i64 b, .int .i64 c, .int .i64 d] 23)).get g.next = cellsOb (ints [a, b, c, d]) 23 := by rw [GH.get_push ho, if_pos rfl]; rfl
  generalize g.push (cellsOb [.int .i64 a, .int .i64 b, .int .i64 c, .int .i64 d] 23) = G0 at *
  generalize hQ : [a, b, c, d] = Q at *
  have hQl : Q.length = 4 := by rw [← hQ]; rfl
  have hgp : (G0.push (cellsOb [.int .u64 0, .int .u64 0] 60)).get G0.next = cellsOb [.int .u64 0, .int .u64 0] 60 := by rw [GH.get_push ho0, if_pos rfl]
  have hgq : (G0.push (cellsOb [.int .u64 0, .int .u64 0] 60)).get g.next = cellsOb (ints Q) 23 := by rw [GH.get_push ho0, if_neg (by omega), hg0]
  have hk1 := hk0.push ho0 (cellsOb [.int .u64 0, .int .u64 0] 60)
  have hb0 : buildF [(0, 1), (1, 1)] none #[Value.int IntKind.u64 0, Value.int IntKind.u64 0] [] = some (.agg #[Value.int IntKind.u64 0, Value.int IntKind.u64 0]) := by simp [buildF, Instr.fill]
  simp +decide (disch := first | assumption | (apply GH.ok_push; assumption) | exact cellV_int _ _ | exact cellV_bool _ | omega) only [go_sem, ↓reduceIte, Nat.reduceEqDiff, Nat.reduceAdd, Int.reduceToNat, hb0, hgp]
  rw [show splice 0 [Value.int IntKind.u64 0, Value.int IntKind.u64 0] [Value.int IntKind.u64 0, Value.int IntKind.u64 0] = [Value.int IntKind.u64 0, Value.int IntKind.u64 0] from rfl]
  have hk2 := hk1.set hgp Nat.one_ne_zero (by omega) (cellsOb [.int .u64 0, .int .u64 0] 60)
  have g4 := GH.get_set_same hgp Nat.one_ne_zero (cellsOb [.int .u64 0, .int .u64 0] 60)
  have gq := (GH.get_set_ne hgp Nat.one_ne_zero (cellsOb [.int .u64 0, .int .u64 0] 60) (i := g.next) (by omega)).trans hgq
  have hn2 : ((G0.push (cellsOb [.int .u64 0, .int .u64 0] 60)).set G0.next (cellsOb [.int .u64 0, .int .u64 0] 60)).next = g.next + 2 := by rw [GH.set_next, GH.push_next, hn0]
  have hp0 : G0.next = g.next + 1 := hn0
  generalize (G0.push (cellsOb [.int .u64 0, .int .u64 0] 60)).set G0.next (cellsOb [.int .u64 0, .int .u64 0] 60) = G2 at *
  have htk : (ints Q).take 4 = ints Q := List.take_of_length_le (by rw [ints_len]; omega)
  simp +decide (disch := first | assumption | (apply GH.ok_push; assumption) | exact cellV_int _ _ | exact cellV_bool _ | omega) only [go_sem, ↓reduceIte, Nat.reduceEqDiff, Nat.reduceAdd, Int.reduceToNat, gq, ints_len, hQl, htk, Nat.sub_zero, Nat.le_refl]
  refine Wk.loops (DQInv g Q G0.next) (DQInv g Q G0.next 0) (n := 4) ?_ ?_ ?_
  · refine ⟨by omega, hk2, by simp +decide (disch := first | assumption | (apply GH.ok_push; assumption) | exact cellV_int _ _ | exact cellV_bool _ | omega) only [go_sem, ↓reduceIte, Nat.reduceEqDiff, Nat.reduceAdd, Int.reduceToNat], by omega, by omega, by simp +decide (disch := first | assumption | (apply GH.ok_push; assumption) | exact cellV_int _ _ | exact cellV_bool _ | omega) only [go_sem, ↓reduceIte, Nat.reduceEqDiff, Nat.reduceAdd, Int.reduceToNat], 0, by omega, (by simp +decide (disch := first | assumption | (apply GH.ok_push; assumption) | exact cellV_int _ _ | exact cellV_bool _ | omega) only [go_sem, ↓reduceIte, Nat.reduceEqDiff, Nat.reduceAdd, Int.reduceToNat]; first | done | exact rfl), rfl, ?_, ?_⟩
    · simp +decide (disch := first | assumption | (apply GH.ok_push; assumption) | exact cellV_int _ _ | exact cellV_bool _ | omega) only [go_sem, ↓reduceIte, Nat.reduceEqDiff, Nat.reduceAdd, Int.reduceToNat]
      rfl
    · exact g4
  · rintro e G lo ho' hl' ⟨hlo, hk, e4, hp, hpn, e8, i, him, e9, hall, e3, g4⟩
    have hi4 : i = 4 := by omega
    subst hi4
    rw [show Q.take 4 = Q from by rw [List.take_of_length_le (by omega)]] at hall e3 g4
    obtain ⟨b1, b2, b3, b4⟩ := sums_bound Q hall
    rw [hQl] at b1 b2 b4
    by_cases hpos : 0 < sum1 Q
    · simp +decide (disch := first | assumption | (apply GH.ok_push; assumption) | exact cellV_int _ _ | exact cellV_bool _ | omega) only [go_sem, ↓reduceIte, Nat.reduceEqDiff, Nat.reduceAdd, Int.reduceToNat, e3, e4, g4]
      refine CallD.calm (wplus_rets hXX (sum2 Q) (sum2 Q) b3 b3 (by omega) G) ?_
      rintro v G3 hx3 rfl
      have hn3 := hx3.next
      simp +decide (disch := first | assumption | (apply GH.ok_push; assumption) | exact cellV_int _ _ | exact cellV_bool _ | omega) only [go_sem, ↓reduceIte, Nat.reduceEqDiff, Nat.reduceAdd, Int.reduceToNat, e3]
      refine CallD.calm (square_rets hX hXX.mul (sum1 Q) (by omega) (by omega) G3) ?_
      rintro v G4 hx4 rfl
      have hn4 := hx4.next
      have hsq : 0 ≤ sum1 Q * sum1 Q := Int.mul_nonneg (by omega) (by omega)
      have heq := eqW (sum2 Q + sum2 Q) (sum1 Q * sum1 Q) (by omega) hsq
      simp +decide (disch := first | assumption | (apply GH.ok_push; assumption) | exact cellV_int _ _ | exact cellV_bool _ | omega) only [go_sem, ↓reduceIte, Nat.reduceEqDiff, Nat.reduceAdd, Int.reduceToNat, e3, heq]
      intro hx0
      refine ⟨by omega, ?_⟩
      have : (sum2 Q + sum2 Q = sum1 Q * sum1 Q) = (sum1 Q * sum1 Q = 2 * sum2 Q) := by apply propext; constructor <;> intro h <;> omega
      simp [isQ, hall, hpos, this]
    · simp +decide (disch := first | assumption | (apply GH.ok_push; assumption) | exact cellV_int _ _ | exact cellV_bool _ | omega) only [go_sem, ↓reduceIte, Nat.reduceEqDiff, Nat.reduceAdd, Int.reduceToNat, e3]
      intro hx0
      refine ⟨by omega, ?_⟩
      simp [isQ, hpos]
  · rintro m e G lo ho' hl' ih out ⟨hlo, hk, e4, hp, hpn, e8, i, him, e9, hall, e3, g4⟩
    by_cases c : i < 4
    · have hidx := idxA_at (n := 4) (m := i) (x := (i : Int)) (cs := (ints Q).toArray) rfl c (by rw [List.getElem?_toArray]; exact ints_get (by omega))
      obtain ⟨b1, b2, b3, b4⟩ := sums_bound (Q.take i) hall
      rw [show (Q.take i).length = i by simp; omega] at b1 b2 b4
      simp +decide (disch := first | assumption | (apply GH.ok_push; assumption) | exact cellV_int _ _ | exact cellV_bool _ | omega) only [go_sem, ↓reduceIte, Nat.reduceEqDiff, Nat.reduceAdd, Int.reduceToNat, e8, e9, hidx]
      refine CallD.calm (rangeD_rets hXX (Q.getD i 0) G) ?_
      rintro v G1 hx1 rfl
      have hn1 := hx1.next
      have g41 := (hx1.gets _ (by omega)).trans g4
      by_cases hr : inR (Q.getD i 0) = true
      · have hr' := (inR_iff _).1 hr
        simp +decide (disch := first | assumption | (apply GH.ok_push; assumption) | exact cellV_int _ _ | exact cellV_bool _ | omega) only [go_sem, ↓reduceIte, Nat.reduceEqDiff, Nat.reduceAdd, Int.reduceToNat, hr, e3, e4, g41]
        refine CallD.calmH (by simp +decide (disch := first | assumption | (apply GH.ok_push; assumption) | exact cellV_int _ _ | exact cellV_bool _ | omega) only [go_sem, ↓reduceIte, Nat.reduceEqDiff, Nat.reduceAdd, Int.reduceToNat, spansOf, spanAt, Nat.lt_irrefl]; first | done | rfl) rfl (square_rets hX hXX.mul (Q.getD i 0) (by omega) (by omega) G1) ?_
        rintro v G3 hx3 rfl
        have hn3 := hx3.next
        have g43 := (hx3.gets _ (by omega)).trans g41
        obtain ⟨q1, q2, q3, q4⟩ := sums_bound [Q.getD i 0] (by rw [List.all_cons, hr]; rfl)
        simp only [sum2, List.length_cons, List.length_nil] at q3 q4
        simp +decide (disch := first | assumption | (apply GH.ok_push; assumption) | exact cellV_int _ _ | exact cellV_bool _ | omega) only [go_sem, ↓reduceIte, Nat.reduceEqDiff, Nat.reduceAdd, Int.reduceToNat]
        refine CallD.calm (wplus_rets hXX (sum2 (Q.take i)) (Q.getD i 0 * Q.getD i 0) b3 (by omega) (by omega) G3) ?_
        rintro v G5 hx5 rfl
        have hn5 := hx5.next
        have g45 := (hx5.gets _ (by omega)).trans g43
        have hset := fun o => GH.get_set_same g45 Nat.one_ne_zero o
        have hW : W (sum2 (Q.take i) + Q.getD i 0 * Q.getD i 0) = .agg #[.int .u64 ((sum2 (Q.take i) + Q.getD i 0 * Q.getD i 0) / 18446744073709551616), .int .u64 ((sum2 (Q.take i) + Q.getD i 0 * Q.getD i 0) % 18446744073709551616)] := rfl
        simp +decide (disch := first | assumption | (apply GH.ok_push; assumption) | exact cellV_int _ _ | exact cellV_bool _ | omega) only [go_sem, ↓reduceIte, Nat.reduceEqDiff, Nat.reduceAdd, Int.reduceToNat, e4, e9, g45, hW]
        have hall' : (Q.take (i + 1)).all inR = true := by rw [take_snoc Q i (by omega), List.all_append, hall]; simpa using hr
        refine ih (m - 1) _ _ _ (by omega) ⟨by omega, (((hk.ext hx1).ext hx3).ext hx5).set g45 Nat.one_ne_zero (by omega) _, by simp +decide (disch := first | assumption | (apply GH.ok_push; assumption) | exact cellV_int _ _ | exact cellV_bool _ | omega) only [go_sem, ↓reduceIte, Nat.reduceEqDiff, Nat.reduceAdd, Int.reduceToNat, e4], hp, by simp +decide (disch := first | assumption | (apply GH.ok_push; assumption) | exact cellV_int _ _ | exact cellV_bool _ | omega) only [go_sem, ↓reduceIte, Nat.reduceEqDiff, Nat.reduceAdd, Int.reduceToNat]; omega, by simp +decide (disch := first | assumption | (apply GH.ok_push; assumption) | exact cellV_int _ _ | exact cellV_bool _ | omega) only [go_sem, ↓reduceIte, Nat.reduceEqDiff, Nat.reduceAdd, Int.reduceToNat, e8], i + 1, by omega, (by simp +decide (disch := first | assumption | (apply GH.ok_push; assumption) | exact cellV_int _ _ | exact cellV_bool _ | omega) only [go_sem, ↓reduceIte, Nat.reduceEqDiff, Nat.reduceAdd, Int.reduceToNat]; first | done | exact rfl), hall', ?_, ?_⟩
        · rw [take_snoc Q i (by omega), sum1_snoc]
          simp +decide (disch := first | assumption | (apply GH.ok_push; assumption) | exact cellV_int _ _ | exact cellV_bool _ | omega) only [go_sem, ↓reduceIte, Nat.reduceEqDiff, Nat.reduceAdd, Int.reduceToNat]
        · rw [take_snoc Q i (by omega), sum2_snoc]
          exact hset _
      · have hr' : inR (Q.getD i 0) = false := by simpa using hr
        simp +decide (disch := first | assumption | (apply GH.ok_push; assumption) | exact cellV_int _ _ | exact cellV_bool _ | omega) only [go_sem, ↓reduceIte, Nat.reduceEqDiff, Nat.reduceAdd, Int.reduceToNat, hr']
        intro hx0
        refine ⟨by omega, ?_⟩
        have : Q.all inR = false := by
          rw [List.all_eq_false]
          exact ⟨Q[i], List.getElem_mem (by omega), by have : Q.getD i 0 = Q[i] := by simp [show i < Q.length by omega]
                                                       rw [← this, hr']; simp⟩
        simp [isQ, this]
    · simp +decide (disch := first | assumption | (apply GH.ok_push; assumption) | exact cellV_int _ _ | exact cellV_bool _ | omega) only [go_sem, ↓reduceIte, Nat.reduceEqDiff, Nat.reduceAdd, Int.reduceToNat, e9]
      exact out _ _ _ ⟨hlo, hk, by simp +decide (disch := first | assumption | (apply GH.ok_push; assumption) | exact cellV_int _ _ | exact cellV_bool _ | omega) only [go_sem, ↓reduceIte, Nat.reduceEqDiff, Nat.reduceAdd, Int.reduceToNat, e4], hp, hpn, by simp +decide (disch := first | assumption | (apply GH.ok_push; assumption) | exact cellV_int _ _ | exact cellV_bool _ | omega) only [go_sem, ↓reduceIte, Nat.reduceEqDiff, Nat.reduceAdd, Int.reduceToNat, e8], i, by omega, by simp +decide (disch := first | assumption | (apply GH.ok_push; assumption) | exact cellV_int _ _ | exact cellV_bool _ | omega) only [go_sem, ↓reduceIte, Nat.reduceEqDiff, Nat.reduceAdd, Int.reduceToNat, e9], hall, by simp +decide (disch := first | assumption | (apply GH.ok_push; assumption) | exact cellV_int _ _ | exact cellV_bool _ | omega) only [go_sem, ↓reduceIte, Nat.reduceEqDiff, Nat.reduceAdd, Int.reduceToNat, e3], g4⟩
end Go.Proofs.Ytdanjjhgfkfghaa
set_option maxRecDepth 100000
set_option maxHeartbeats 8000000
set_option linter.unusedSimpArgs false
set_option linter.unusedVariables false
namespace Go.Proofs.Ytdanjjhgfkfghaa
open Go.Ds

def turned (Q : List Int) (i : Nat) : Int := 2 * (sum1 Q - Q.getD i 0) - Q.getD i 0
theorem inR_getD {Q : List Int} (h : Q.all inR = true) (i : Nat) : -1099511627776 ≤ Q.getD i 0 ∧ Q.getD i 0 ≤ 1099511627776 := by
  by_cases c : i < Q.length
  · have e : Q.getD i 0 = Q[i] := by simp [c]
    rw [e]
    exact (inR_iff _).1 (List.all_eq_true.1 h _ (List.getElem_mem c))
  · rw [getD_past c]; decide
theorem boxQ {g : GH} (ho : g.ok) (Q : List Int) (t : TypeId) : Kept g (g.push (cellsOb (ints Q) t)) ∧ (g.push (cellsOb (ints Q) t)).ok ∧ (g.push (cellsOb (ints Q) t)).next = g.next + 1 ∧ (g.push (cellsOb (ints Q) t)).get g.next = cellsOb (ints Q) t :=
  ⟨(Kept.refl g).push ho _, GH.ok_push ho, rfl, by rw [GH.get_push ho, if_pos rfl]⟩
theorem cellsQ (Q : List Int) : cellsOf (.agg (ints Q).toArray) = ints Q := rfl
theorem sum4 {Q : List Int} (h : Q.length = 4) : sum1 Q = Q.getD 0 0 + Q.getD 1 0 + Q.getD 2 0 + Q.getD 3 0 := by
  match Q, h with
  | [a, b, c, d], _ => simp [sum1]; omega
theorem opposite_rets {X : Caller} (hX : Xall X) (Q : List Int) (hQl : Q.length = 4) (hall : Q.all inR = true) (i : Nat) (hi : i < 4) (g : GH) :
    Rets Try.prog X 73 [.agg (ints Q).toArray, .int .i64 (i : Int)] g (fun v g' lo => g.next ≤ lo ∧ v = .int .i64 (turned Q i)) := by
  have hX := hX.toXok
  refine Rets.run hX.pres p73 (hX.free 73 (by decide) (by decide) (by decide) _ _) rfl fun ho => ?_
  simp +decide only [dseq, dreg, dbox, dalloc, nV_eq, cellsOf, tick, ev_put, ev_fill, ev_fill0, ev_none, ↓reduceIte, Nat.reduceEqDiff, Nat.reduceAdd]
  obtain ⟨hk, hok, hnx, hg⟩ := boxQ ho Q 23
  generalize g.push (cellsOb (ints Q) 23) = G at *
  have x0 := iaddrA_at (j := g.next) (n := 4) (m := 0) (x := 0) rfl (by decide)
  have x1 := iaddrA_at (j := g.next) (n := 4) (m := 1) (x := 1) rfl (by decide)
  have x2 := iaddrA_at (j := g.next) (n := 4) (m := 2) (x := 2) rfl (by decide)
  have x3 := iaddrA_at (j := g.next) (n := 4) (m := 3) (x := 3) rfl (by decide)
  have xi := iaddrA_at (j := g.next) (n := 4) (m := i) (x := (i : Int)) rfl hi
  have hl : ∀ (m : Nat) (_ : m < 4) lo, loadF none (G.at lo) (.pointer (some ⟨g.next, m, none⟩)) = some (.int .i64 (Q.getD m 0)) := fun m hm lo => load_one hg (ints_get (by omega))
  have l0 := hl 0 (by decide)
  have l1 := hl 1 (by decide)
  have l2 := hl 2 (by decide)
  have l3 := hl 3 (by decide)
  have li := hl i hi
  have b0 := inR_getD hall 0
  have b1 := inR_getD hall 1
  have b2 := inR_getD hall 2
  have b3 := inR_getD hall 3
  have bi := inR_getD hall i
  have hs := sum4 hQl
  simp +decide (disch := first | assumption | (apply GH.ok_push; assumption) | exact cellV_int _ _ | exact cellV_bool _ | omega) only [go_sem, ↓reduceIte, Nat.reduceEqDiff, Nat.reduceAdd, Int.reduceToNat, x0, x1, x2, x3, xi, l0, l1, l2, l3, li]
  intro hx0
  refine ⟨by omega, ?_⟩
  rw [turned, hs]
theorem refTurned_rets {X : Caller} (hX : Xall X) (Q : List Int) (hQl : Q.length = 4) (hall : Q.all inR = true) (i : Nat) (hi : i < 4) (g : GH) :
    Rets Try.prog X 38 [.agg (ints Q).toArray, .int .i64 (i : Int)] g (fun v g' lo => g.next ≤ lo ∧ v = .int .i64 (turned Q i)) := by
  have hX := hX.toXok
  refine Rets.run hX.pres p38 (hX.free 38 (by decide) (by decide) (by decide) _ _) rfl fun ho => ?_
  simp +decide only [dseq, dreg, dbox, dalloc, nV_eq, cellsOf, tick, ev_put, ev_fill, ev_fill0, ev_none, ↓reduceIte, Nat.reduceEqDiff, Nat.reduceAdd]
  obtain ⟨hk, hok, hnx, hg⟩ := boxQ ho Q 23
  generalize g.push (cellsOb (ints Q) 23) = G at *
  have xi := iaddrA_at (j := g.next) (n := 4) (m := i) (x := (i : Int)) rfl hi
  have hl : ∀ (m : Nat) (_ : m < 4) lo, loadF none (G.at lo) (.pointer (some ⟨g.next, m, none⟩)) = some (.int .i64 (Q.getD m 0)) := fun m hm lo => load_one hg (ints_get (by omega))
  have li := hl i hi
  have bi := inR_getD hall i
  simp +decide (disch := first | assumption | (apply GH.ok_push; assumption) | exact cellV_int _ _ | exact cellV_bool _ | omega) only [go_sem, ↓reduceIte, Nat.reduceEqDiff, Nat.reduceAdd, Int.reduceToNat]
  refine Wk.loops (fun m e g' lo => g' = G ∧ g.next ≤ lo ∧ ev e (.s 1) = .int .i64 (i : Int) ∧ ev e (.s 2) = ptrTo g.next ∧ ∃ k, k + m = 4 ∧ ev e (.s 6) = .int .i64 (k : Int) ∧ ev e (.s 5) = .int .i64 (sum1 (Q.take k) - if i < k then Q.getD i 0 else 0))
    (fun e g' lo => g' = G ∧ g.next ≤ lo ∧ ev e (.s 1) = .int .i64 (i : Int) ∧ ev e (.s 2) = ptrTo g.next ∧ ev e (.s 5) = .int .i64 (sum1 Q - Q.getD i 0)) (n := 4) ?_ ?_ ?_
  · refine ⟨rfl, Nat.le_refl _, by simp +decide (disch := first | assumption | (apply GH.ok_push; assumption) | exact cellV_int _ _ | exact cellV_bool _ | omega) only [go_sem, ↓reduceIte, Nat.reduceEqDiff, Nat.reduceAdd, Int.reduceToNat], by simp +decide (disch := first | assumption | (apply GH.ok_push; assumption) | exact cellV_int _ _ | exact cellV_bool _ | omega) only [go_sem, ↓reduceIte, Nat.reduceEqDiff, Nat.reduceAdd, Int.reduceToNat], 0, by omega, (by simp +decide (disch := first | assumption | (apply GH.ok_push; assumption) | exact cellV_int _ _ | exact cellV_bool _ | omega) only [go_sem, ↓reduceIte, Nat.reduceEqDiff, Nat.reduceAdd, Int.reduceToNat]; first | done | exact rfl), ?_⟩
    simp +decide (disch := first | assumption | (apply GH.ok_push; assumption) | exact cellV_int _ _ | exact cellV_bool _ | omega) only [go_sem, ↓reduceIte, Nat.reduceEqDiff, Nat.reduceAdd, Int.reduceToNat]
    simp [sum1]
  · rintro e g' lo ho' hl' ⟨hg', hlo, e1, e2, e5⟩
    subst hg'
    have hb := sums_bound Q hall
    rw [hQl] at hb
    simp +decide (disch := first | assumption | (apply GH.ok_push; assumption) | exact cellV_int _ _ | exact cellV_bool _ | omega) only [go_sem, ↓reduceIte, Nat.reduceEqDiff, Nat.reduceAdd, Int.reduceToNat, e1, e2, e5, xi, li]
    intro hx0
    exact ⟨hlo, by rw [turned]⟩
  · rintro m e g' lo ho' hl' ih out ⟨hg', hlo, e1, e2, k, hk4, e6, e5⟩
    subst hg'
    by_cases c : k < 4
    · have xk := iaddrA_at (j := g.next) (n := 4) (m := k) (x := (k : Int)) rfl c
      have lk := hl k c
      have bk := inR_getD hall k
      have hb := sums_bound (Q.take k) (by rw [List.all_eq_true]; exact fun x hx => List.all_eq_true.1 hall x (List.mem_of_mem_take hx))
      rw [show (Q.take k).length = k by simp; omega] at hb
      have hif : -1099511627776 ≤ (if i < k then Q.getD i 0 else 0) ∧ (if i < k then Q.getD i 0 else 0) ≤ 1099511627776 := by split <;> omega
      by_cases ck : k = i
      · subst ck
        simp +decide (disch := first | assumption | (apply GH.ok_push; assumption) | exact cellV_int _ _ | exact cellV_bool _ | omega) only [go_sem, ↓reduceIte, Nat.reduceEqDiff, Nat.reduceAdd, Int.reduceToNat, e1, e2, e5, e6, xk, lk]
        refine ih (m - 1) _ _ _ (by omega) ⟨rfl, hlo, by simp +decide (disch := first | assumption | (apply GH.ok_push; assumption) | exact cellV_int _ _ | exact cellV_bool _ | omega) only [go_sem, ↓reduceIte, Nat.reduceEqDiff, Nat.reduceAdd, Int.reduceToNat, e1], by simp +decide (disch := first | assumption | (apply GH.ok_push; assumption) | exact cellV_int _ _ | exact cellV_bool _ | omega) only [go_sem, ↓reduceIte, Nat.reduceEqDiff, Nat.reduceAdd, Int.reduceToNat, e2], k + 1, by omega, (by simp +decide (disch := first | assumption | (apply GH.ok_push; assumption) | exact cellV_int _ _ | exact cellV_bool _ | omega) only [go_sem, ↓reduceIte, Nat.reduceEqDiff, Nat.reduceAdd, Int.reduceToNat]; first | done | exact rfl), ?_⟩
        rw [take_snoc Q k (by omega), sum1_snoc]
        simp +decide (disch := first | assumption | (apply GH.ok_push; assumption) | exact cellV_int _ _ | exact cellV_bool _ | omega) only [go_sem, ↓reduceIte, Nat.reduceEqDiff, Nat.reduceAdd, Int.reduceToNat, e5]
        rw [if_neg (by omega), if_pos (by omega)]
        congr 1; omega
      · have ck' : ¬ (k : Int) = (i : Int) := by omega
        simp +decide (disch := first | assumption | (apply GH.ok_push; assumption) | exact cellV_int _ _ | exact cellV_bool _ | omega) only [go_sem, ↓reduceIte, Nat.reduceEqDiff, Nat.reduceAdd, Int.reduceToNat, e1, e2, e5, e6, xk, lk]
        refine ih (m - 1) _ _ _ (by omega) ⟨rfl, hlo, by simp +decide (disch := first | assumption | (apply GH.ok_push; assumption) | exact cellV_int _ _ | exact cellV_bool _ | omega) only [go_sem, ↓reduceIte, Nat.reduceEqDiff, Nat.reduceAdd, Int.reduceToNat, e1], by simp +decide (disch := first | assumption | (apply GH.ok_push; assumption) | exact cellV_int _ _ | exact cellV_bool _ | omega) only [go_sem, ↓reduceIte, Nat.reduceEqDiff, Nat.reduceAdd, Int.reduceToNat, e2], k + 1, by omega, (by simp +decide (disch := first | assumption | (apply GH.ok_push; assumption) | exact cellV_int _ _ | exact cellV_bool _ | omega) only [go_sem, ↓reduceIte, Nat.reduceEqDiff, Nat.reduceAdd, Int.reduceToNat]; first | done | exact rfl), ?_⟩
        rw [take_snoc Q k (by omega), sum1_snoc]
        simp +decide (disch := first | assumption | (apply GH.ok_push; assumption) | exact cellV_int _ _ | exact cellV_bool _ | omega) only [go_sem, ↓reduceIte, Nat.reduceEqDiff, Nat.reduceAdd, Int.reduceToNat, e5]
        congr 1
        by_cases h : i < k
        · rw [if_pos h, if_pos (by omega)]; omega
        · rw [if_neg h, if_neg (by omega)]; omega
    · simp +decide (disch := first | assumption | (apply GH.ok_push; assumption) | exact cellV_int _ _ | exact cellV_bool _ | omega) only [go_sem, ↓reduceIte, Nat.reduceEqDiff, Nat.reduceAdd, Int.reduceToNat, e6]
      refine out _ _ _ ⟨rfl, hlo, by simp +decide (disch := first | assumption | (apply GH.ok_push; assumption) | exact cellV_int _ _ | exact cellV_bool _ | omega) only [go_sem, ↓reduceIte, Nat.reduceEqDiff, Nat.reduceAdd, Int.reduceToNat, e1], by simp +decide (disch := first | assumption | (apply GH.ok_push; assumption) | exact cellV_int _ _ | exact cellV_bool _ | omega) only [go_sem, ↓reduceIte, Nat.reduceEqDiff, Nat.reduceAdd, Int.reduceToNat, e2], ?_⟩
      rw [show k = 4 by omega, if_pos hi, List.take_of_length_le (by omega)] at e5
      simp +decide (disch := first | assumption | (apply GH.ok_push; assumption) | exact cellV_int _ _ | exact cellV_bool _ | omega) only [go_sem, ↓reduceIte, Nat.reduceEqDiff, Nat.reduceAdd, Int.reduceToNat, e5]
end Go.Proofs.Ytdanjjhgfkfghaa
set_option maxRecDepth 100000
set_option maxHeartbeats 8000000
set_option linter.unusedSimpArgs false
set_option linter.unusedVariables false
namespace Go.Proofs.Ytdanjjhgfkfghaa
open Go.Ds

def turn1 (Q : List Int) (i : Int) : List Int × Int :=
  if i < 0 ∨ 3 < i then (Q, 2) else if inR (turned Q i.toNat) = true then (Q.set i.toNat (turned Q i.toNat), 0) else (Q, 4)
def turnsF (Q : List Int) : List Int → List Int × Int
  | [] => (Q, 0)
  | i :: l => if (turn1 Q i).2 = 0 then turnsF (turn1 Q i).1 l else turn1 Q i
theorem load_quad {g : GH} {j : Nat} {Q : List Int} {t : TypeId} (h : g.get j = cellsOb (ints Q) t) (hl : Q.length = 4) (lo : Nat) : loadF (some 4) (g.at lo) (.pointer (some ⟨j, 0, none⟩)) = some (.agg (ints Q).toArray) := by
  have := load_agg (n := 4) (off := 0) (lo := lo) h (by rw [ints_len]; omega)
  rw [this, List.drop_zero, List.take_of_length_le (by rw [ints_len]; omega)]
theorem turn1_len {Q : List Int} {i : Int} (h : Q.length = 4) : (turn1 Q i).1.length = 4 := by
  unfold turn1; split
  · exact h
  · split <;> simp [h]
theorem all_set {Q : List Int} (h : Q.all inR = true) (n : Nat) {x : Int} (hx : inR x = true) : (Q.set n x).all inR = true := by
  rw [List.all_eq_true] at h ⊢
  intro y hy
  rcases List.mem_or_eq_of_mem_set hy with hy | rfl
  · exact h y hy
  · exact hx
theorem turn1_all {Q : List Int} {i : Int} (h : Q.all inR = true) : (turn1 Q i).1.all inR = true := by
  unfold turn1; split
  · exact h
  · split
    · rename_i hx; exact all_set h _ hx
    · exact h
theorem turned_bound {Q : List Int} (hl : Q.length = 4) (h : Q.all inR = true) (i : Nat) : -17592186044416 ≤ turned Q i ∧ turned Q i ≤ 17592186044416 := by
  have b := sums_bound Q h
  rw [hl] at b
  have bi := inR_getD h i
  unfold turned; omega
theorem turn_rets {X : Caller} (hX : Xall X) (Q : List Int) (hQl : Q.length = 4) (hall : Q.all inR = true) (i : Int) (j : Nat) (g : GH) (hj : j < g.next) (hg : g.get j = cellsOb (ints Q) 71) :
    Rets Try.prog X 53 [.pointer (some ⟨j, 0, none⟩), .int .i64 i] g (fun v g' lo => j ≤ lo ∧ v = .int .i64 (turn1 Q i).2 ∧ g'.get j = cellsOb (ints (turn1 Q i).1) 71 ∧ ∀ k, k < g.next → k ≠ j → g'.get k = g.get k) := by
  have hXX := hX
  have hX := hX.toXok
  refine Rets.run hX.pres p53 (hX.free 53 (by decide) (by decide) (by decide) _ _) rfl fun ho => ?_
  by_cases c1 : i < 0
  · simp +decide (disch := first | assumption | (apply GH.ok_push; assumption) | exact cellV_int _ _ | exact cellV_bool _ | omega) only [go_sem, ↓reduceIte, Nat.reduceEqDiff, Nat.reduceAdd, Int.reduceToNat]
    intro hx0
    have e : turn1 Q i = (Q, 2) := by rw [turn1, if_pos (.inl c1)]
    rw [e]
    exact ⟨by omega, rfl, hg, fun _ _ _ => by first | rfl | trivial⟩
  by_cases c2 : 3 < i
  · simp +decide (disch := first | assumption | (apply GH.ok_push; assumption) | exact cellV_int _ _ | exact cellV_bool _ | omega) only [go_sem, ↓reduceIte, Nat.reduceEqDiff, Nat.reduceAdd, Int.reduceToNat]
    intro hx0
    have e : turn1 Q i = (Q, 2) := by rw [turn1, if_pos (.inr c2)]
    rw [e]
    exact ⟨by omega, rfl, hg, fun _ _ _ => by first | rfl | trivial⟩
  obtain ⟨m, rfl⟩ := Int.eq_ofNat_of_zero_le (show 0 ≤ i by omega)
  have hm : m < 4 := by omega
  have hlq := load_quad hg hQl
  have hb := turned_bound hQl hall m
  simp +decide (disch := first | assumption | (apply GH.ok_push; assumption) | exact cellV_int _ _ | exact cellV_bool _ | omega) only [go_sem, ↓reduceIte, Nat.reduceEqDiff, Nat.reduceAdd, Int.reduceToNat, hlq]
  refine CallD.calm (opposite_rets hXX Q hQl hall m hm g) ?_
  rintro v G1 hx1 rfl
  have hn1 := hx1.next
  have hg1 := (hx1.gets _ hj).trans hg
  simp +decide (disch := first | assumption | (apply GH.ok_push; assumption) | exact cellV_int _ _ | exact cellV_bool _ | omega) only [go_sem, ↓reduceIte, Nat.reduceEqDiff, Nat.reduceAdd, Int.reduceToNat]
  refine CallD.calm (rangeD_rets hXX (turned Q m) G1) ?_
  rintro v G2 hx2 rfl
  have hn2 := hx2.next
  have hg2 := (hx2.gets j (by omega)).trans hg1
  have hoth : ∀ k, k < g.next → k ≠ j → G2.get k = g.get k := fun k hk _ => (hx2.gets k (by omega)).trans (hx1.gets k hk)
  by_cases hr : inR (turned Q m) = true
  · have xm := iaddrA_at (j := j) (n := 4) (m := m) (x := (m : Int)) rfl hm
    have e : turn1 Q (m : Int) = (Q.set m (turned Q m), 0) := by
      rw [turn1, if_neg (by omega), Int.toNat_natCast, if_pos hr]
    simp +decide (disch := first | assumption | (apply GH.ok_push; assumption) | exact cellV_int _ _ | exact cellV_bool _ | omega) only [go_sem, ↓reduceIte, Nat.reduceEqDiff, Nat.reduceAdd, Int.reduceToNat, hr, xm, hg2, ints_len]
    intro hx0
    rw [splice_set _ _ _ (by rw [ints_len]; omega), ints_set, e]
    refine ⟨by omega, rfl, GH.get_set_same hg2 Nat.one_ne_zero _, fun k hk hkj => ?_⟩
    rw [GH.get_set_ne hg2 Nat.one_ne_zero _ (Ne.symm hkj)]
    exact hoth k hk hkj
  · have hr' : inR (turned Q m) = false := by simpa using hr
    have e : turn1 Q (m : Int) = (Q, 4) := by
      rw [turn1, if_neg (by omega), Int.toNat_natCast, if_neg hr]
    simp +decide (disch := first | assumption | (apply GH.ok_push; assumption) | exact cellV_int _ _ | exact cellV_bool _ | omega) only [go_sem, ↓reduceIte, Nat.reduceEqDiff, Nat.reduceAdd, Int.reduceToNat, hr']
    intro hx0
    rw [e]
    exact ⟨by omega, rfl, hg2, hoth⟩

theorem turn1_err {Q : List Int} {i : Int} : 0 ≤ (turn1 Q i).2 ∧ (turn1 Q i).2 ≤ 4 := by
  unfold turn1; split
  · simp
  · split <;> simp
def EachInv (g : GH) (Q l : List Int) (s : Value) (j : Nat) (m : Nat) (e : Env) (g' : GH) (lo : Nat) : Prop :=
  min g.next j ≤ lo ∧ g.next ≤ g'.next ∧ (∀ k, k < g.next → k ≠ j → g'.get k = g.get k) ∧ ev e (.s 1) = .func (.func 53) #[.pointer (some ⟨j, 0, none⟩)] #[] ∧ ev e (.s 8) = s ∧ ev e (.s 9) = .int .i64 (l.length : Int) ∧
  ∃ (k : Nat) (Q' : List Int), k + m = l.length ∧ ev e (.s 10) = .int .i64 (k : Int) ∧ g'.get j = cellsOb (ints Q') 71 ∧ Q'.length = 4 ∧ Q'.all inR = true ∧ turnsF Q l = turnsF Q' (l.drop k)
theorem each_rets {X : Caller} (hX : Xall X) (Q l : List Int) (hl : l.length < 1000000) (hQl : Q.length = 4) (hall : Q.all inR = true) (s : Value) (j : Nat) (g : GH) (hj : j < g.next) (hg : g.get j = cellsOb (ints Q) 71) (hs : SlR g s (ints l)) (hne : ∀ a l c, s = .slice (some a) l c → a.block ≠ j) :
    Rets Try.prog X 52 [s, .func (.func 53) #[.pointer (some ⟨j, 0, none⟩)] #[]] g (fun v g' lo => j ≤ lo ∧ v = .int .i64 (turnsF Q l).2 ∧ ∃ Q', g'.get j = cellsOb (ints Q') 71 ∧ Q'.length = 4 ∧ ((turnsF Q l).2 = 0 → Q' = (turnsF Q l).1 ∧ Q'.all inR = true)) := by
  have hXX := hX
  have hX := hX.toXok
  refine Rets.run hX.pres p52 (hX.free 52 (by decide) (by decide) (by decide) _ _) rfl fun ho => ?_
  have hls := hs.len
  rw [ints_len] at hls
  simp +decide (disch := first | assumption | (apply GH.ok_push; assumption) | exact cellV_int _ _ | exact cellV_bool _ | omega) only [go_sem, ↓reduceIte, Nat.reduceEqDiff, Nat.reduceAdd, Int.reduceToNat, hls]
  refine Wk.loops (EachInv g Q l s j) (EachInv g Q l s j 0) (n := l.length) ?_ ?_ ?_
  · refine ⟨by omega, Nat.le_refl _, fun _ _ _ => rfl, by simp +decide (disch := first | assumption | (apply GH.ok_push; assumption) | exact cellV_int _ _ | exact cellV_bool _ | omega) only [go_sem, ↓reduceIte, Nat.reduceEqDiff, Nat.reduceAdd, Int.reduceToNat], by simp +decide (disch := first | assumption | (apply GH.ok_push; assumption) | exact cellV_int _ _ | exact cellV_bool _ | omega) only [go_sem, ↓reduceIte, Nat.reduceEqDiff, Nat.reduceAdd, Int.reduceToNat], by simp +decide (disch := first | assumption | (apply GH.ok_push; assumption) | exact cellV_int _ _ | exact cellV_bool _ | omega) only [go_sem, ↓reduceIte, Nat.reduceEqDiff, Nat.reduceAdd, Int.reduceToNat], 0, Q, by omega, (by simp +decide (disch := first | assumption | (apply GH.ok_push; assumption) | exact cellV_int _ _ | exact cellV_bool _ | omega) only [go_sem, ↓reduceIte, Nat.reduceEqDiff, Nat.reduceAdd, Int.reduceToNat]; first | done | exact rfl), hg, hQl, hall, by simp⟩
  · rintro e G lo ho' hl' ⟨hlo, hn, hoth, e1, e8, e9, k, Q', hk, e10, hg', hl4, hall', htf⟩
    simp +decide (disch := first | assumption | (apply GH.ok_push; assumption) | exact cellV_int _ _ | exact cellV_bool _ | omega) only [go_sem, ↓reduceIte, Nat.reduceEqDiff, Nat.reduceAdd, Int.reduceToNat]
    intro hx0
    have hk' : k = l.length := by omega
    rw [hk', List.drop_length] at htf
    rw [htf]
    exact ⟨by omega, rfl, Q', hg', hl4, fun _ => ⟨rfl, hall'⟩⟩
  · rintro m e G lo ho' hl' ih out ⟨hlo, hn, hoth, e1, e8, e9, k, Q', hk, e10, hg', hl4, hall', htf⟩
    by_cases c : k < l.length
    · obtain ⟨p, hp1, hp2⟩ := (hs.but hne hn hoth).at (ints_get (D := l) (i := k) c)
      have hp1 := hp1 (k : Int) rfl
      have hdrop : l.drop k = l.getD k 0 :: l.drop (k + 1) := by rw [List.drop_eq_getElem_cons c]; simp [c]
      have herr := turn1_err (Q := Q') (i := l.getD k 0)
      simp +decide (disch := first | assumption | (apply GH.ok_push; assumption) | exact cellV_int _ _ | exact cellV_bool _ | omega) only [go_sem, ↓reduceIte, Nat.reduceEqDiff, Nat.reduceAdd, Int.reduceToNat, e1, e8, e9, e10, hp1, hp2]
      refine CallV.go rfl (turn_rets hXX Q' hl4 hall' (l.getD k 0) j G (by omega) hg') ?_
      rintro v G1 lo1 wr hx1 ⟨hlo1, rfl, hg1, hoth1⟩
      have hn1 := hx1.next
      by_cases c0 : (turn1 Q' (l.getD k 0)).2 = 0
      · simp +decide (disch := first | assumption | (apply GH.ok_push; assumption) | exact cellV_int _ _ | exact cellV_bool _ | omega) only [go_sem, ↓reduceIte, Nat.reduceEqDiff, Nat.reduceAdd, Int.reduceToNat, c0, e10]
        refine ih (m - 1) _ _ _ (by omega) ⟨by omega, by omega, fun q hq hqj => (hoth1 q (by omega) hqj).trans (hoth q hq hqj), by simp +decide (disch := first | assumption | (apply GH.ok_push; assumption) | exact cellV_int _ _ | exact cellV_bool _ | omega) only [go_sem, ↓reduceIte, Nat.reduceEqDiff, Nat.reduceAdd, Int.reduceToNat, e1], by simp +decide (disch := first | assumption | (apply GH.ok_push; assumption) | exact cellV_int _ _ | exact cellV_bool _ | omega) only [go_sem, ↓reduceIte, Nat.reduceEqDiff, Nat.reduceAdd, Int.reduceToNat, e8], by simp +decide (disch := first | assumption | (apply GH.ok_push; assumption) | exact cellV_int _ _ | exact cellV_bool _ | omega) only [go_sem, ↓reduceIte, Nat.reduceEqDiff, Nat.reduceAdd, Int.reduceToNat, e9], k + 1, (turn1 Q' (l.getD k 0)).1, by omega, (by simp +decide (disch := first | assumption | (apply GH.ok_push; assumption) | exact cellV_int _ _ | exact cellV_bool _ | omega) only [go_sem, ↓reduceIte, Nat.reduceEqDiff, Nat.reduceAdd, Int.reduceToNat]; first | done | exact rfl), hg1, turn1_len hl4, turn1_all hall', ?_⟩
        rw [htf, hdrop, turnsF, if_pos c0]
      · simp +decide (disch := first | assumption | (apply GH.ok_push; assumption) | exact cellV_int _ _ | exact cellV_bool _ | omega) only [go_sem, ↓reduceIte, Nat.reduceEqDiff, Nat.reduceAdd, Int.reduceToNat, c0]
        intro hx0
        rw [htf, hdrop, turnsF, if_neg c0]
        exact ⟨by omega, by first | rfl | trivial, _, hg1, turn1_len hl4, fun h => absurd h c0⟩
    · simp +decide (disch := first | assumption | (apply GH.ok_push; assumption) | exact cellV_int _ _ | exact cellV_bool _ | omega) only [go_sem, ↓reduceIte, Nat.reduceEqDiff, Nat.reduceAdd, Int.reduceToNat, e9, e10]
      exact out _ _ _ ⟨hlo, hn, hoth, by simp +decide (disch := first | assumption | (apply GH.ok_push; assumption) | exact cellV_int _ _ | exact cellV_bool _ | omega) only [go_sem, ↓reduceIte, Nat.reduceEqDiff, Nat.reduceAdd, Int.reduceToNat, e1], by simp +decide (disch := first | assumption | (apply GH.ok_push; assumption) | exact cellV_int _ _ | exact cellV_bool _ | omega) only [go_sem, ↓reduceIte, Nat.reduceEqDiff, Nat.reduceAdd, Int.reduceToNat, e8], by simp +decide (disch := first | assumption | (apply GH.ok_push; assumption) | exact cellV_int _ _ | exact cellV_bool _ | omega) only [go_sem, ↓reduceIte, Nat.reduceEqDiff, Nat.reduceAdd, Int.reduceToNat, e9], k, Q', by omega, by simp +decide (disch := first | assumption | (apply GH.ok_push; assumption) | exact cellV_int _ _ | exact cellV_bool _ | omega) only [go_sem, ↓reduceIte, Nat.reduceEqDiff, Nat.reduceAdd, Int.reduceToNat, e10], hg', hl4, hall', htf⟩
end Go.Proofs.Ytdanjjhgfkfghaa
set_option maxRecDepth 100000
set_option maxHeartbeats 8000000
set_option linter.unusedSimpArgs false
set_option linter.unusedVariables false
namespace Go.Proofs.Ytdanjjhgfkfghaa
open Go.Ds

theorem discQ {X : Caller} (hX : Xall X) (Q : List Int) (h : Q.length = 4) (g : GH) : Rets Try.prog X 15 [.agg (ints Q).toArray] g (fun v g' lo => g.next ≤ lo ∧ v = .bool (isQ Q)) := by
  match Q, h with
  | [a, b, c, d], _ => exact discQuad_rets hX a b c d g
theorem refQ {X : Caller} (hX : Xall X) (Q : List Int) (h : Q.length = 4) (g : GH) : Rets Try.prog X 16 [.agg (ints Q).toArray] g (fun v g' lo => g.next ≤ lo ∧ v = .bool (isQ Q)) := by
  match Q, h with
  | [a, b, c, d], _ => exact refQuad_rets hX.toXok a b c d g
def Z4 : List Int := [0, 0, 0, 0]
theorem z4len : Z4.length = 4 := rfl
theorem buildZ : buildF [] (some 1) #[.int .i64 0, .int .i64 0, .int .i64 0, .int .i64 0] [] = some (.agg (ints Z4).toArray) := by simp [buildF, Instr.fill, ints, Z4]
theorem build4 {Q : List Int} (h : Q.length = 4) : buildF [(0, 4)] none #[.int .i64 0, .int .i64 0, .int .i64 0, .int .i64 0] [(0, .agg (ints Q).toArray)] = some (.agg (ints Q).toArray) := by
  match Q, h with
  | [a, b, c, d], _ => simp [buildF, Instr.fill, placeF, ints, Value.cells]
theorem isQ_all {Q : List Int} (h : isQ Q = true) : Q.all inR = true := by
  simp only [isQ, Bool.and_eq_true] at h; exact h.1
def turnsR (Q l : List Int) : List Int × Int :=
  if isQ Q = true then (if 60 < l.length then (Z4, 3) else if (turnsF Q l).2 = 0 then turnsF Q l else (Z4, (turnsF Q l).2)) else (Z4, 2)
theorem cellsOfQ (Q : List Int) : cellsOf (.agg (ints Q).toArray) = ints Q := rfl
theorem z4 : [Value.int .i64 0, .int .i64 0, .int .i64 0, .int .i64 0] = ints Z4 := rfl
theorem ob_quad {Q : List Int} {t : TypeId} (h : Q.length = 4) : obLoad (some 4) (cellsOb (ints Q) t) 0 = some (.agg (ints Q).toArray) := by
  rw [ob_cn, ints_len, h, List.drop_zero, List.take_of_length_le (by rw [ints_len]; omega)]; rfl
theorem len_quad {Q : List Int} (h : Q.length = 4) : (ints Q).length = 4 := by rw [ints_len, h]
theorem spl_quad {Z Q : List Int} (hz : Z.length = 4) (h : Q.length = 4) : splice 0 (ints Z) (ints Q) = ints Q := splice_full (by rw [len_quad hz, len_quad h])
attribute [go_sem high] ob_quad spl_quad
attribute [go_sem] len_quad ints_cell cellsOfQ
theorem turns_rets {X : Caller} (hX : Xall X) (Q l : List Int) (hl : l.length < 1000000) (hQl : Q.length = 4) (s : Value) (g : GH) (hs : SlR g s (ints l)) :
    Rets Try.prog X 24 [.agg (ints Q).toArray, s] g (fun v g' lo => g.next ≤ lo ∧ v = .tuple #[.agg (ints (turnsR Q l).1).toArray, .int .i64 (turnsR Q l).2]) := by
  have hXX := hX
  have hX := hX.toXok
  refine Rets.run hX.pres p24 (hX.free 24 (by decide) (by decide) (by decide) _ _) rfl fun ho => ?_
  have hz4 := z4len
  have hls := hs.len
  rw [ints_len] at hls
  simp +decide only [dseq, dreg, dbox, dalloc, nV_eq, cellsOf, tick, ev_put, ev_fill, ev_fill0, ev_none, ↓reduceIte, Nat.reduceEqDiff, Nat.reduceAdd]
  obtain ⟨hk, hok, hnx, g1, g2⟩ := two ho (cellsOb (ints Q) 23) (cellsOb [Value.int .i64 0, .int .i64 0, .int .i64 0, .int .i64 0] 23)
  generalize (g.push (cellsOb (ints Q) 23)).push (cellsOb [Value.int .i64 0, .int .i64 0, .int .i64 0, .int .i64 0] 23) = G at *
  have g2 : G.get (g.next + 1) = cellsOb (ints Z4) 23 := g2
  have q1 := load_quad g1 hQl
  simp +decide (disch := first | assumption | (apply GH.ok_push; assumption) | exact cellV_int _ _ | exact cellV_bool _ | omega) only [go_sem, ↓reduceIte, Nat.reduceEqDiff, Nat.reduceAdd, Int.reduceToNat, q1]
  refine CallD.calm (discQ hXX Q hQl G) ?_
  rintro v G1 hx1 rfl
  have hn1 := hx1.next
  have g11 := (hx1.gets _ (by omega)).trans g1
  have g21 := (hx1.gets _ (by omega)).trans g2
  have hset := fun o => GH.get_set_same g21 Nat.one_ne_zero o
  by_cases hq : isQ Q = true
  · by_cases h60 : 60 < l.length
    · simp +decide (disch := first | assumption | (apply GH.ok_push; assumption) | exact cellV_int _ _ | exact cellV_bool _ | omega) only [go_sem, ↓reduceIte, Nat.reduceEqDiff, Nat.reduceAdd, Int.reduceToNat, hq, hls, buildZ, g21, hset]
      intro hx0
      refine ⟨by omega, ?_⟩
      rw [turnsR, if_pos hq, if_pos h60]
    · have hall := isQ_all hq
      have q11 := load_quad g11 hQl
      have hb4 := build4 hQl
      have ho1 := hx1.ok hok
      have g3 : (G1.push (cellsOb [Value.int .i64 0, .int .i64 0, .int .i64 0, .int .i64 0] 71)).get G1.next = cellsOb (ints Z4) 71 := by rw [GH.get_push ho1, if_pos rfl]; rfl
      have g22 : (G1.push (cellsOb [Value.int .i64 0, .int .i64 0, .int .i64 0, .int .i64 0] 71)).get (g.next + 1) = cellsOb (ints Z4) 23 := by rw [GH.get_push ho1, if_neg (by omega), g21]
      have hs1 := ((hs.kept hk).kept hx1.kept).push ho1 (cellsOb [Value.int .i64 0, .int .i64 0, .int .i64 0, .int .i64 0] 71)
      have ho2 := GH.ok_push (o := cellsOb [Value.int .i64 0, .int .i64 0, .int .i64 0, .int .i64 0] 71) ho1
      have hn2 : (G1.push (cellsOb [Value.int .i64 0, .int .i64 0, .int .i64 0, .int .i64 0] 71)).next = G1.next + 1 := rfl
      simp +decide (disch := first | assumption | (apply GH.ok_push; assumption) | exact cellV_int _ _ | exact cellV_bool _ | omega) only [go_sem, ↓reduceIte, Nat.reduceEqDiff, Nat.reduceAdd, Int.reduceToNat, hq, hls, q11, hb4]
      rw [splice_full (show [Value.int .i64 0, .int .i64 0, .int .i64 0, .int .i64 0].length = (ints Q).length by rw [len_quad hQl]; rfl)]
      generalize G1.push (cellsOb [Value.int .i64 0, .int .i64 0, .int .i64 0, .int .i64 0] 71) = G2 at *
      have hne : ∀ a l c, s = .slice (some a) l c → a.block ≠ G1.next := fun a l c h => by
        rcases hs with ⟨h1, _⟩ | ⟨j, off, cap, ob, h1, hj, _⟩
        · rw [h1] at h; cases h
        · rw [h1] at h; cases h; show j ≠ G1.next; omega
      have hs2 := hs1.set g3 Nat.one_ne_zero hne (o := cellsOb (ints Q) 71)
      have g34 := GH.get_set_same g3 Nat.one_ne_zero (cellsOb (ints Q) 71)
      have g24 := (GH.get_set_ne g3 Nat.one_ne_zero (cellsOb (ints Q) 71) (i := g.next + 1) (by omega)).trans g22
      have hn3 : (G2.set G1.next (cellsOb (ints Q) 71)).next = G1.next + 1 := hn2
      have ho3 : (G2.set G1.next (cellsOb (ints Q) 71)).ok := ho2
      generalize G2.set G1.next (cellsOb (ints Q) 71) = G3 at *
      refine CallD.call (each_rets hXX Q l hl hQl hall s G1.next G3 (by omega) g34 hs2 hne) ?_
      rintro v G4 lo4 hx4 ⟨hlo4, rfl, Q', g4, hl4, hres⟩
      have hn4 := hx4.next
      have g25 := (hx4.get (by omega) (by omega)).trans g24
      have hset4 := fun o => GH.get_set_same g25 Nat.one_ne_zero o
      by_cases h0 : (turnsF Q l).2 = 0
      · have q4 := load_quad g4 hl4
        simp +decide (disch := first | assumption | (apply GH.ok_push; assumption) | exact cellV_int _ _ | exact cellV_bool _ | omega) only [go_sem, ↓reduceIte, Nat.reduceEqDiff, Nat.reduceAdd, Int.reduceToNat, h0, q4, g25, hset4]
        intro hx0
        refine ⟨by omega, ?_⟩
        rw [turnsR, if_pos hq, if_neg h60, if_pos h0, (hres h0).1, h0]
      · simp +decide (disch := first | assumption | (apply GH.ok_push; assumption) | exact cellV_int _ _ | exact cellV_bool _ | omega) only [go_sem, ↓reduceIte, Nat.reduceEqDiff, Nat.reduceAdd, Int.reduceToNat, h0, buildZ, g25, hset4]
        intro hx0
        refine ⟨by omega, ?_⟩
        rw [turnsR, if_pos hq, if_neg h60, if_neg h0]
  · have hq' : isQ Q = false := by simpa using hq
    simp +decide (disch := first | assumption | (apply GH.ok_push; assumption) | exact cellV_int _ _ | exact cellV_bool _ | omega) only [go_sem, ↓reduceIte, Nat.reduceEqDiff, Nat.reduceAdd, Int.reduceToNat, hq', buildZ, g21, hset]
    intro hx0
    refine ⟨by omega, ?_⟩
    rw [turnsR, if_neg hq]
end Go.Proofs.Ytdanjjhgfkfghaa
set_option maxRecDepth 100000
set_option maxHeartbeats 8000000
set_option linter.unusedSimpArgs false
set_option linter.unusedVariables false
namespace Go.Proofs.Ytdanjjhgfkfghaa
open Go.Ds

theorem turnD_rets {X : Caller} (hX : Xall X) (Q : List Int) (hQl : Q.length = 4) (i : Int) (g : GH) :
    Rets Try.prog X 22 [.agg (ints Q).toArray, .int .i64 i] g (fun v g' lo => g.next ≤ lo ∧ v = .tuple #[.agg (ints (turnsR Q [i]).1).toArray, .int .i64 (turnsR Q [i]).2]) := by
  have hXX := hX
  have hX := hX.toXok
  refine Rets.run hX.pres p22 (hX.free 22 (by decide) (by decide) (by decide) _ _) rfl fun ho => ?_
  have hz4 := z4len
  simp +decide only [dseq, dreg, dbox, dalloc, nV_eq, cellsOf, tick, ev_put, ev_fill, ev_fill0, ev_none, ↓reduceIte, Nat.reduceEqDiff, Nat.reduceAdd]
  obtain ⟨hk, hok, hnx, g1, g2⟩ := two ho (cellsOb (ints Q) 23) (cellsOb [Value.int .i64 0, .int .i64 0, .int .i64 0, .int .i64 0] 23)
  generalize (g.push (cellsOb (ints Q) 23)).push (cellsOb [Value.int .i64 0, .int .i64 0, .int .i64 0, .int .i64 0] 23) = G at *
  have g2 : G.get (g.next + 1) = cellsOb (ints Z4) 23 := g2
  have q1 := load_quad g1 hQl
  have g22 : ∀ o, (G.push o).get (g.next + 1) = cellsOb (ints Z4) 23 := fun o => by rw [GH.get_push hok, if_neg (by omega), g2]
  simp +decide (disch := first | assumption | (apply GH.ok_push; assumption) | exact cellV_int _ _ | exact cellV_bool _ | omega) only [go_sem, ↓reduceIte, Nat.reduceEqDiff, Nat.reduceAdd, Int.reduceToNat, q1]
  refine CallD.calm (turns_rets hXX Q [i] (by simp) hQl _ _ (SlR.one hok _ _)) ?_
  rintro v G2 hx2 rfl
  have hn3 := hx2.next
  simp only [GH.push_next] at hn3
  have g23 := (hx2.gets (g.next + 1) (by simp only [GH.push_next]; omega)).trans (g22 _)
  have hlR : (turnsR Q [i]).1.length = 4 := by
    unfold turnsR; split
    · split
      · rfl
      · split
        · unfold turnsF; split
          · exact turn1_len hQl
          · exact turn1_len hQl
        · rfl
    · rfl
  have hset := fun o => GH.get_set_same g23 Nat.one_ne_zero o
  simp +decide (disch := first | assumption | (apply GH.ok_push; assumption) | exact cellV_int _ _ | exact cellV_bool _ | omega) only [go_sem, ↓reduceIte, Nat.reduceEqDiff, Nat.reduceAdd, Int.reduceToNat, ext0, ext1, g23, hset]
  intro hx0
  exact ⟨by omega, by first | rfl | trivial⟩
theorem tmod4 {x : Int} (h : 0 ≤ x) : x.tmod 4 = x % 4 := Int.tmod_eq_emod_of_nonneg h
theorem intEqs_ints : ∀ (A B : List Int), A.length = B.length → intEqs (ints A) (ints B) = some (decide (A = B))
  | [], [], _ => rfl
  | [], _ :: _, h => by simp at h
  | _ :: _, [], h => by simp at h
  | a :: A, b :: B, h => by
    simp only [ints, List.map_cons, intEqs, kindEq, eq_i]
    have := intEqs_ints A B (by simpa using h)
    by_cases c : a = b
    · subst c
      simp only [cond_true, decide_true]
      rw [show List.map (Value.int IntKind.i64) A = ints A from rfl, show List.map (Value.int IntKind.i64) B = ints B from rfl, this]
      simp
    · simp [c]
theorem eqQ {A B : List Int} (ha : A.length = 4) (hb : B.length = 4) : eqAF false 4 (.agg (ints A).toArray) (.agg (ints B).toArray) = some (.bool (decide (A = B))) := by
  simp only [eqAF]
  rw [show (Nat.beq (ints A).toArray.size 4 && Nat.beq (ints B).toArray.size 4) = true by simp [ints_len, ha, hb]]
  simp only [cond_true]
  rw [intEqs_ints A B (by omega)]
  rfl
/-! ### Descartes' equation has two solutions -/
theorem both (o q t n s : Int) (h1 : (o + q) * (o + q) = 2 * (n + q * q)) (ht : t = 2 * o - q) : (o + t) * (o + t) = 2 * (n + t * t) := by
  subst ht; grind
theorem sq_nonneg' (x : Int) : 0 ≤ x * x := by
  rcases Int.le_total 0 x with h | h
  · exact Int.mul_nonneg h h
  · have : x * x = (-x) * (-x) := by grind
    rw [this]; exact Int.mul_nonneg (by omega) (by omega)
theorem sq_zero {x : Int} (h : x * x ≤ 0) : x = 0 := by
  have := sq_nonneg' x
  have h0 : x * x = 0 := by omega
  rcases Int.mul_eq_zero.1 h0 with h | h <;> exact h
theorem still_pos (o q t n x y z : Int) (hn : n = x * x + y * y + z * z) (ho : o = x + y + z) (hs : 0 < o + q) (h1 : (o + q) * (o + q) = 2 * (n + q * q)) (ht : t = 2 * o - q) : 0 < o + t := by
  have hx := sq_nonneg' x
  have hy := sq_nonneg' y
  have hz := sq_nonneg' z
  have hoo := sq_nonneg' o
  have e : (o + q) * (o + t) = 2 * (o * o) + 2 * n := by subst ht; grind
  rcases Int.lt_or_le 0 (o + t) with h | h
  · exact h
  · exfalso
    have h2 : (o + q) * (o + t) ≤ 0 := by
      have := Int.mul_le_mul_of_nonneg_left h (Int.le_of_lt hs)
      simpa using this
    have hx0 := sq_zero (x := x) (by omega)
    have hy0 := sq_zero (x := y) (by omega)
    have hz0 := sq_zero (x := z) (by omega)
    subst hx0; subst hy0; subst hz0
    have ho0 : o = 0 := by omega
    subst ho0
    have hn0 : n = 0 := by rw [hn]; rfl
    subst hn0
    have hq := sq_nonneg' q
    have : (0 + q) * (0 + q) = q * q := by grind
    have hq0 := sq_zero (x := q) (by omega)
    omega
theorem quad_turn {Q : List Int} (hl : Q.length = 4) (hq : isQ Q = true) {k : Nat} (hk : k < 4) (hr : inR (turned Q k) = true) : isQ (Q.set k (turned Q k)) = true := by
  have hall := isQ_all hq
  have hall' := all_set hall k hr
  simp only [isQ, Bool.and_eq_true, decide_eq_true_eq] at hq ⊢
  refine ⟨hall', ?_⟩
  obtain ⟨_, hs, he⟩ := hq
  match Q, hl with
  | [a, b, c, d], _ =>
    have hk4 : k = 0 ∨ k = 1 ∨ k = 2 ∨ k = 3 := by omega
    simp only [sum1, sum2] at hs he
    rcases hk4 with rfl | rfl | rfl | rfl <;> simp only [List.set_cons_zero, List.set_cons_succ, turned, sum1, sum2, List.getD_cons_zero, List.getD_cons_succ]
    · have h1 : (b + c + d + a) * (b + c + d + a) = 2 * (b * b + c * c + d * d + a * a) := by grind
      have p := still_pos (b + c + d) a (2 * (b + c + d) - a) (b * b + c * c + d * d) b c d rfl rfl (by omega) h1 rfl
      have e := both (b + c + d) a (2 * (b + c + d) - a) (b * b + c * c + d * d) 0 h1 rfl
      have t : 2 * (a + (b + (c + (d + 0))) - a) - a = 2 * (b + c + d) - a := by omega
      rw [t]
      generalize 2 * (b + c + d) - a = t at *
      exact ⟨by omega, by grind⟩
    · have h1 : (a + c + d + b) * (a + c + d + b) = 2 * (a * a + c * c + d * d + b * b) := by grind
      have p := still_pos (a + c + d) b (2 * (a + c + d) - b) (a * a + c * c + d * d) a c d rfl rfl (by omega) h1 rfl
      have e := both (a + c + d) b (2 * (a + c + d) - b) (a * a + c * c + d * d) 0 h1 rfl
      have t : 2 * (a + (b + (c + (d + 0))) - b) - b = 2 * (a + c + d) - b := by omega
      rw [t]
      generalize 2 * (a + c + d) - b = t at *
      exact ⟨by omega, by grind⟩
    · have h1 : (a + b + d + c) * (a + b + d + c) = 2 * (a * a + b * b + d * d + c * c) := by grind
      have p := still_pos (a + b + d) c (2 * (a + b + d) - c) (a * a + b * b + d * d) a b d rfl rfl (by omega) h1 rfl
      have e := both (a + b + d) c (2 * (a + b + d) - c) (a * a + b * b + d * d) 0 h1 rfl
      have t : 2 * (a + (b + (c + (d + 0))) - c) - c = 2 * (a + b + d) - c := by omega
      rw [t]
      generalize 2 * (a + b + d) - c = t at *
      exact ⟨by omega, by grind⟩
    · have h1 : (a + b + c + d) * (a + b + c + d) = 2 * (a * a + b * b + c * c + d * d) := by grind
      have p := still_pos (a + b + c) d (2 * (a + b + c) - d) (a * a + b * b + c * c) a b c rfl rfl (by omega) h1 rfl
      have e := both (a + b + c) d (2 * (a + b + c) - d) (a * a + b * b + c * c) 0 h1 rfl
      have t : 2 * (a + (b + (c + (d + 0))) - d) - d = 2 * (a + b + c) - d := by omega
      rw [t]
      generalize 2 * (a + b + c) - d = t at *
      exact ⟨by omega, by grind⟩
theorem turned_back {Q : List Int} (hl : Q.length = 4) {k : Nat} (hk : k < 4) : turned (Q.set k (turned Q k)) k = Q.getD k 0 ∧ (Q.set k (turned Q k)).set k (Q.getD k 0) = Q := by
  match Q, hl with
  | [a, b, c, d], _ =>
    have hk4 : k = 0 ∨ k = 1 ∨ k = 2 ∨ k = 3 := by omega
    rcases hk4 with rfl | rfl | rfl | rfl <;> simp [turned, sum1] <;> omega
end Go.Proofs.Ytdanjjhgfkfghaa
set_option maxRecDepth 100000
set_option maxHeartbeats 8000000
set_option linter.unusedSimpArgs false
set_option linter.unusedVariables false
namespace Go.Proofs.Ytdanjjhgfkfghaa
open Go.Ds

theorem turns_one {Q : List Int} (hl : Q.length = 4) {k : Nat} (hk : k < 4) : turnsR Q [(k : Int)] = if isQ Q = true then (if inR (turned Q k) = true then (Q.set k (turned Q k), 0) else (Z4, 4)) else (Z4, 2) := by
  unfold turnsR
  have e : turnsF Q [(k : Int)] = if inR (turned Q k) = true then (Q.set k (turned Q k), 0) else (Q, 4) := by
    have e1 : turn1 Q (k : Int) = if inR (turned Q k) = true then (Q.set k (turned Q k), 0) else (Q, 4) := by
      rw [turn1, if_neg (by omega), Int.toNat_natCast]
    simp only [turnsF, e1]
    split <;> simp
  rw [e]
  by_cases h1 : isQ Q = true
  · rw [if_pos h1, if_pos h1, if_neg (by simp)]
    by_cases h2 : inR (turned Q k) = true
    · simp [h2]
    · simp [h2]
  · rw [if_neg h1, if_neg h1]
theorem soddy_rets {X : Caller} (hX : Xall X) (Q : List Int) (hQl : Q.length = 4) (i : Int) (hi0 : 0 ≤ i) (hi1 : i < 256) (g : GH) :
    Rets Try.prog X 9 [.agg (ints Q).toArray, .int .u8 i] g (fun v g' lo => v = .bool true) := by
  have hXX := hX
  have hX := hX.toXok
  obtain ⟨k, hk⟩ : ∃ k : Nat, i % 4 = (k : Int) := ⟨(i % 4).toNat, by omega⟩
  have hk4 : k < 4 := by omega
  have hrem : i.tmod 4 = (k : Int) := by rw [tmod4 hi0, hk]
  have hone := turns_one hQl hk4
  refine Rets.run hX.pres p9 (hX.free 9 (by decide) (by decide) (by decide) _ _) rfl fun ho => ?_
  have hz4 := z4len
  simp +decide only [dseq, dreg, dbox, dalloc, nV_eq, cellsOf, tick, ev_put, ev_fill, ev_fill0, ev_none, ↓reduceIte, Nat.reduceEqDiff, Nat.reduceAdd]
  obtain ⟨hk0, hok, hnx, g1⟩ := boxQ ho Q 23
  generalize g.push (cellsOb (ints Q) 23) = G at *
  simp +decide (disch := first | assumption | (apply GH.ok_push; assumption) | exact cellV_int _ _ | exact cellV_bool _ | omega) only [go_sem, ↓reduceIte, Nat.reduceEqDiff, Nat.reduceAdd, Int.reduceToNat, g1]
  refine CallD.calm (refQ hXX Q hQl G) ?_
  rintro v G1 hx1 rfl
  have hn1 := hx1.next
  have g11 := (hx1.gets _ (by omega)).trans g1
  by_cases hq : isQ Q = true
  · rw [if_pos hq] at hone
    have hall := isQ_all hq
    have hb := turned_bound hQl hall k
    have hQl' : (Q.set k (turned Q k)).length = 4 := by simp [hQl]
    simp +decide (disch := first | assumption | (apply GH.ok_push; assumption) | exact cellV_int _ _ | exact cellV_bool _ | omega) only [go_sem, ↓reduceIte, Nat.reduceEqDiff, Nat.reduceAdd, Int.reduceToNat, hq, g11, hrem, convF]
    refine CallD.calm (turnD_rets hXX Q hQl (k : Int) G1) ?_
    rintro v G2 hx2 rfl
    rw [hone]
    have hn2 := hx2.next
    have g12 := (hx2.gets _ (by omega)).trans g11
    have hok2 := hx2.ok (hx1.ok hok)
    have g52 : (G2.push (cellsOb [Value.int .i64 0, .int .i64 0, .int .i64 0, .int .i64 0] 23)).get G2.next = cellsOb (ints Z4) 23 := by rw [GH.get_push hok2, if_pos rfl]; rfl
    have g13 : (G2.push (cellsOb [Value.int .i64 0, .int .i64 0, .int .i64 0, .int .i64 0] 23)).get g.next = cellsOb (ints Q) 23 := by rw [GH.get_push hok2, if_neg (by omega), g12]
    have hok3 := GH.ok_push (o := cellsOb [Value.int .i64 0, .int .i64 0, .int .i64 0, .int .i64 0] 23) hok2
    have hn3 : (G2.push (cellsOb [Value.int .i64 0, .int .i64 0, .int .i64 0, .int .i64 0] 23)).next = G2.next + 1 := rfl
    by_cases hr : inR (turned Q k) = true
    · rw [if_pos hr]
      have hq2 := quad_turn hQl hq hk4 hr
      have hbk := turned_back hQl hk4
      have hone2 := turns_one hQl' hk4
      have hrq : inR (Q.getD k 0) = true := (inR_iff _).2 (inR_getD hall k)
      rw [if_pos hq2, hbk.1, if_pos hrq, hbk.2] at hone2
      simp +decide (disch := first | assumption | (apply GH.ok_push; assumption) | exact cellV_int _ _ | exact cellV_bool _ | omega) only [go_sem, ↓reduceIte, Nat.reduceEqDiff, Nat.reduceAdd, Int.reduceToNat, ext0, ext1]
      rw [splice_full (show [Value.int .i64 0, .int .i64 0, .int .i64 0, .int .i64 0].length = (ints _).length by rw [len_quad hQl']; rfl)]
      generalize G2.push (cellsOb [Value.int .i64 0, .int .i64 0, .int .i64 0, .int .i64 0] 23) = G3 at *
      have g14 := (GH.get_set_ne g52 Nat.one_ne_zero (cellsOb (ints (Q.set k (turned Q k))) 23) (i := g.next) (by omega)).trans g13
      have g54 := GH.get_set_same g52 Nat.one_ne_zero (cellsOb (ints (Q.set k (turned Q k))) 23)
      have hn4 : (G3.set G2.next (cellsOb (ints (Q.set k (turned Q k))) 23)).next = G3.next := rfl
      have hok4 : (G3.set G2.next (cellsOb (ints (Q.set k (turned Q k))) 23)).ok := hok3
      generalize G3.set G2.next (cellsOb (ints (Q.set k (turned Q k))) 23) = G4 at *
      simp +decide (disch := first | assumption | (apply GH.ok_push; assumption) | exact cellV_int _ _ | exact cellV_bool _ | omega) only [go_sem, ↓reduceIte, Nat.reduceEqDiff, Nat.reduceAdd, Int.reduceToNat, ext1, g14, hrem, convF]
      refine CallD.calm (refTurned_rets hXX Q hQl hall k hk4 G4) ?_
      rintro v G5 hx5 rfl
      have hn5 := hx5.next
      simp +decide (disch := first | assumption | (apply GH.ok_push; assumption) | exact cellV_int _ _ | exact cellV_bool _ | omega) only [go_sem, ↓reduceIte, Nat.reduceEqDiff, Nat.reduceAdd, Int.reduceToNat]
      refine CallD.calm (inRange_rets hX (turned Q k) G5) ?_
      rintro v G6 hx6 rfl
      have hn6 := hx6.next
      have g16 := (hx6.gets _ (by omega)).trans ((hx5.gets _ (by omega)).trans g14)
      have g56 := (hx6.gets _ (by omega)).trans ((hx5.gets _ (by omega)).trans g54)
      have hok6 := hx6.ok (hx5.ok hok4)
      simp +decide (disch := first | assumption | (apply GH.ok_push; assumption) | exact cellV_int _ _ | exact cellV_bool _ | omega) only [go_sem, ↓reduceIte, Nat.reduceEqDiff, Nat.reduceAdd, Int.reduceToNat, hr, g56, hrem, convF]
      refine CallD.calm (turnD_rets hXX (Q.set k (turned Q k)) hQl' (k : Int) G6) ?_
      rintro v G7 hx7 rfl
      rw [hone2]
      have hn7 := hx7.next
      have hok7 := hx7.ok hok6
      have g17 := (hx7.gets _ (by omega)).trans g16
      have g57 := (hx7.gets _ (by omega)).trans g56
      have g98 : (G7.push (cellsOb [Value.int .i64 0, .int .i64 0, .int .i64 0, .int .i64 0] 23)).get G7.next = cellsOb (ints Z4) 23 := by rw [GH.get_push hok7, if_pos rfl]; rfl
      have g18 : (G7.push (cellsOb [Value.int .i64 0, .int .i64 0, .int .i64 0, .int .i64 0] 23)).get g.next = cellsOb (ints Q) 23 := by rw [GH.get_push hok7, if_neg (by omega), g17]
      have g58 : (G7.push (cellsOb [Value.int .i64 0, .int .i64 0, .int .i64 0, .int .i64 0] 23)).get G2.next = cellsOb (ints (Q.set k (turned Q k))) 23 := by rw [GH.get_push hok7, if_neg (by omega), g57]
      have hn8 : (G7.push (cellsOb [Value.int .i64 0, .int .i64 0, .int .i64 0, .int .i64 0] 23)).next = G7.next + 1 := rfl
      simp +decide (disch := first | assumption | (apply GH.ok_push; assumption) | exact cellV_int _ _ | exact cellV_bool _ | omega) only [go_sem, ↓reduceIte, Nat.reduceEqDiff, Nat.reduceAdd, Int.reduceToNat, ext0, ext1]
      rw [splice_full (show [Value.int .i64 0, .int .i64 0, .int .i64 0, .int .i64 0].length = (ints _).length by rw [len_quad hQl]; rfl)]
      generalize G7.push (cellsOb [Value.int .i64 0, .int .i64 0, .int .i64 0, .int .i64 0] 23) = G8 at *
      have g19 := (GH.get_set_ne g98 Nat.one_ne_zero (cellsOb (ints Q) 23) (i := g.next) (by omega)).trans g18
      have g59 := (GH.get_set_ne g98 Nat.one_ne_zero (cellsOb (ints Q) 23) (i := G2.next) (by omega)).trans g58
      have g99 := GH.get_set_same g98 Nat.one_ne_zero (cellsOb (ints Q) 23)
      have hn9 : (G8.set G7.next (cellsOb (ints Q) 23)).next = G8.next := rfl
      generalize G8.set G7.next (cellsOb (ints Q) 23) = G9 at *
      have heq := eqQ hQl hQl
      simp +decide (disch := first | assumption | (apply GH.ok_push; assumption) | exact cellV_int _ _ | exact cellV_bool _ | omega) only [go_sem, ↓reduceIte, Nat.reduceEqDiff, Nat.reduceAdd, Int.reduceToNat, ext1, g19, g99, heq]
      refine CallD.calm (discQ hXX Q hQl G9) ?_
      rintro v GA hxA rfl
      have hnA := hxA.next
      have g5A := (hxA.gets _ (by omega)).trans g59
      simp +decide (disch := first | assumption | (apply GH.ok_push; assumption) | exact cellV_int _ _ | exact cellV_bool _ | omega) only [go_sem, ↓reduceIte, Nat.reduceEqDiff, Nat.reduceAdd, Int.reduceToNat, hq, g5A]
      refine CallD.calm (discQ hXX (Q.set k (turned Q k)) hQl' GA) ?_
      rintro v GB hxB rfl
      have hnB := hxB.next
      have g5B := (hxB.gets _ (by omega)).trans ((hxA.gets _ (by omega)).trans g59)
      simp +decide (disch := first | assumption | (apply GH.ok_push; assumption) | exact cellV_int _ _ | exact cellV_bool _ | omega) only [go_sem, ↓reduceIte, Nat.reduceEqDiff, Nat.reduceAdd, Int.reduceToNat, hq2, g5B]
      refine CallD.calm (refQ hXX (Q.set k (turned Q k)) hQl' GB) ?_
      rintro v GE hxC rfl
      simp +decide (disch := first | assumption | (apply GH.ok_push; assumption) | exact cellV_int _ _ | exact cellV_bool _ | omega) only [go_sem, ↓reduceIte, Nat.reduceEqDiff, Nat.reduceAdd, Int.reduceToNat, hq2]
      refine CallD.calm (hXX.alive GE) ?_
      rintro v GD hxD rfl
      simp +decide (disch := first | assumption | (apply GH.ok_push; assumption) | exact cellV_int _ _ | exact cellV_bool _ | omega) only [go_sem, ↓reduceIte, Nat.reduceEqDiff, Nat.reduceAdd, Int.reduceToNat]
      intro hx0
      all_goals trivial
    · have hr' : inR (turned Q k) = false := by simpa using hr
      rw [if_neg hr]
      simp +decide (disch := first | assumption | (apply GH.ok_push; assumption) | exact cellV_int _ _ | exact cellV_bool _ | omega) only [go_sem, ↓reduceIte, Nat.reduceEqDiff, Nat.reduceAdd, Int.reduceToNat, ext0, ext1]
      rw [show splice 0 [Value.int .i64 0, .int .i64 0, .int .i64 0, .int .i64 0] (ints Z4) = ints Z4 from rfl]
      generalize G2.push (cellsOb [Value.int .i64 0, .int .i64 0, .int .i64 0, .int .i64 0] 23) = G3 at *
      have g14 := (GH.get_set_ne g52 Nat.one_ne_zero (cellsOb (ints Z4) 23) (i := g.next) (by omega)).trans g13
      have g54 := GH.get_set_same g52 Nat.one_ne_zero (cellsOb (ints Z4) 23)
      have hn4 : (G3.set G2.next (cellsOb (ints Z4) 23)).next = G3.next := rfl
      generalize G3.set G2.next (cellsOb (ints Z4) 23) = G4 at *
      simp +decide (disch := first | assumption | (apply GH.ok_push; assumption) | exact cellV_int _ _ | exact cellV_bool _ | omega) only [go_sem, ↓reduceIte, Nat.reduceEqDiff, Nat.reduceAdd, Int.reduceToNat, ext1, g14, hrem, convF]
      refine CallD.calm (refTurned_rets hXX Q hQl hall k hk4 G4) ?_
      rintro v G5 hx5 rfl
      have hn5 := hx5.next
      simp +decide (disch := first | assumption | (apply GH.ok_push; assumption) | exact cellV_int _ _ | exact cellV_bool _ | omega) only [go_sem, ↓reduceIte, Nat.reduceEqDiff, Nat.reduceAdd, Int.reduceToNat]
      refine CallD.calm (inRange_rets hX (turned Q k) G5) ?_
      rintro v G6 hx6 rfl
      have hn6 := hx6.next
      have g56 := (hx6.gets _ (by omega)).trans ((hx5.gets _ (by omega)).trans g54)
      have heq := eqQ (A := Z4) (B := Z4) rfl rfl
      simp +decide (disch := first | assumption | (apply GH.ok_push; assumption) | exact cellV_int _ _ | exact cellV_bool _ | omega) only [go_sem, ↓reduceIte, Nat.reduceEqDiff, Nat.reduceAdd, Int.reduceToNat, hr', g56, buildZ, heq]
      refine CallD.calm (hXX.alive G6) ?_
      rintro v GD hxD rfl
      simp +decide (disch := first | assumption | (apply GH.ok_push; assumption) | exact cellV_int _ _ | exact cellV_bool _ | omega) only [go_sem, ↓reduceIte, Nat.reduceEqDiff, Nat.reduceAdd, Int.reduceToNat]
      intro hx0
      all_goals trivial
  · have hq' : isQ Q = false := by simpa using hq
    rw [if_neg hq] at hone
    simp +decide (disch := first | assumption | (apply GH.ok_push; assumption) | exact cellV_int _ _ | exact cellV_bool _ | omega) only [go_sem, ↓reduceIte, Nat.reduceEqDiff, Nat.reduceAdd, Int.reduceToNat, hq', g11, hrem, convF]
    refine CallD.calm (turnD_rets hXX Q hQl (k : Int) G1) ?_
    rintro v G2 hx2 rfl
    rw [hone]
    have hn2 := hx2.next
    have g12 := (hx2.gets _ (by omega)).trans g11
    have hok2 := hx2.ok (hx1.ok hok)
    have g52 : (G2.push (cellsOb [Value.int .i64 0, .int .i64 0, .int .i64 0, .int .i64 0] 23)).get G2.next = cellsOb (ints Z4) 23 := by rw [GH.get_push hok2, if_pos rfl]; rfl
    have g13 : (G2.push (cellsOb [Value.int .i64 0, .int .i64 0, .int .i64 0, .int .i64 0] 23)).get g.next = cellsOb (ints Q) 23 := by rw [GH.get_push hok2, if_neg (by omega), g12]
    have hn3 : (G2.push (cellsOb [Value.int .i64 0, .int .i64 0, .int .i64 0, .int .i64 0] 23)).next = G2.next + 1 := rfl
    simp +decide (disch := first | assumption | (apply GH.ok_push; assumption) | exact cellV_int _ _ | exact cellV_bool _ | omega) only [go_sem, ↓reduceIte, Nat.reduceEqDiff, Nat.reduceAdd, Int.reduceToNat, ext0, ext1]
    rw [show splice 0 [Value.int .i64 0, .int .i64 0, .int .i64 0, .int .i64 0] (ints Z4) = ints Z4 from rfl]
    generalize G2.push (cellsOb [Value.int .i64 0, .int .i64 0, .int .i64 0, .int .i64 0] 23) = G3 at *
    have g14 := (GH.get_set_ne g52 Nat.one_ne_zero (cellsOb (ints Z4) 23) (i := g.next) (by omega)).trans g13
    have hn4 : (G3.set G2.next (cellsOb (ints Z4) 23)).next = G3.next := rfl
    generalize G3.set G2.next (cellsOb (ints Z4) 23) = G4 at *
    simp +decide (disch := first | assumption | (apply GH.ok_push; assumption) | exact cellV_int _ _ | exact cellV_bool _ | omega) only [go_sem, ↓reduceIte, Nat.reduceEqDiff, Nat.reduceAdd, Int.reduceToNat, ext1, g14]
    refine CallD.calm (discQ hXX Q hQl G4) ?_
    rintro v G5 hx5 rfl
    simp +decide (disch := first | assumption | (apply GH.ok_push; assumption) | exact cellV_int _ _ | exact cellV_bool _ | omega) only [go_sem, ↓reduceIte, Nat.reduceEqDiff, Nat.reduceAdd, Int.reduceToNat, hq']
    refine CallD.calm (hXX.alive G5) ?_
    rintro v G6 hx6 rfl
    simp +decide (disch := first | assumption | (apply GH.ok_push; assumption) | exact cellV_int _ _ | exact cellV_bool _ | omega) only [go_sem, ↓reduceIte, Nat.reduceEqDiff, Nat.reduceAdd, Int.reduceToNat]
    intro hx0
    all_goals trivial
end Go.Proofs.Ytdanjjhgfkfghaa
