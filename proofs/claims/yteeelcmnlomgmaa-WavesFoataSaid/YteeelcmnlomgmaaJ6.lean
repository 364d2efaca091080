import Derived.Test.YteeelcmnlomgmaaJ5
import Derived.Test.YteeelcmnlomgmaaJ2
set_option linter.all false
set_option linter.unusedSimpArgs false
set_option linter.unnecessarySimpa false
set_option linter.unusedVariables false
set_option linter.unusedSectionVars false
set_option maxRecDepth 100000
set_option maxHeartbeats 8000000
set_option linter.unusedSimpArgs false
set_option linter.unusedVariables false
namespace Go.Proofs.Yteeelcmnlomgmaa
open Go.Ds
/-! ## All rows that begin with some numbers -/
def L2 (g : GH) (vs : List Value) (LL : List (List Int)) : Prop := vs.length = LL.length ∧ ∀ (i : Nat) v L, vs[i]? = some v → LL[i]? = some L → SlR g v (ints L) ∧ CapOk v
theorem L2.keeps {g g' : GH} {vs : List Value} {LL : List (List Int)} (h : L2 g vs LL) (k : Keeps g g') : L2 g' vs LL := ⟨h.1, fun i v L a b => ⟨(h.2 i v L a b).1.keeps k, (h.2 i v L a b).2⟩⟩
theorem L2.app {g : GH} {vs ws : List Value} {LL MM : List (List Int)} (h : L2 g vs LL) (k : L2 g ws MM) : L2 g (vs ++ ws) (LL ++ MM) := by
  refine ⟨by rw [List.length_append, List.length_append, h.1, k.1], fun i v L a b => ?_⟩
  have h1 := h.1
  by_cases c : i < vs.length
  · rw [List.getElem?_append_left c] at a
    rw [List.getElem?_append_left (by omega)] at b
    exact h.2 i v L a b
  · rw [List.getElem?_append_right (by omega)] at a
    rw [List.getElem?_append_right (by omega), ← h1] at b
    exact k.2 _ v L a b
theorem L2.one {g : GH} {v : Value} {L : List Int} (h : SlR g v (ints L)) (hc : CapOk v) : L2 g [v] [L] := by
  refine ⟨rfl, fun i w M a b => ?_⟩
  have : i = 0 := by have := (List.getElem?_eq_some_iff.1 a).1; simp at this; omega
  subst this
  simp at a b
  subst a; subst b
  exact ⟨h, hc⟩
theorem L2.cells {g : GH} {vs : List Value} {LL : List (List Int)} (h : L2 g vs LL) : vs.all cellV = true := by
  rw [List.all_eq_true]
  intro x hxm
  obtain ⟨i, hi, rfl⟩ := List.mem_iff_getElem.1 hxm
  exact (h.2 i _ _ (List.getElem?_eq_getElem hi) (List.getElem?_eq_getElem (show i < LL.length by rw [← h.1]; exact hi))).1.cell
def rowsV (n : Nat) : Nat → Nat → List Int → List (List Int)
  | 0, _, L => [L]
  | m + 1, u, L => (List.range n).flatMap fun (k : Nat) => if u / 2 ^ (k + 1) % 2 = 0 then rowsV n m (u ||| 2 ^ (k + 1)) (L ++ [(k : Int) + 1]) else []
def rowsT (n m u : Nat) (L : List Int) (k : Nat) : List (List Int) := if u / 2 ^ (k + 1) % 2 = 0 then rowsV n m (u ||| 2 ^ (k + 1)) (L ++ [(k : Int) + 1]) else []
def rowsK (n m u : Nat) (L : List Int) (k : Nat) : List (List Int) := (List.range k).flatMap (rowsT n m u L)
theorem rowsK_succ (n m u : Nat) (L : List Int) (k : Nat) : rowsK n m u L (k + 1) = rowsK n m u L k ++ rowsT n m u L k := by
  unfold rowsK
  rw [List.range_succ, List.flatMap_append]; simp
theorem rowsV_succ (n m u : Nat) (L : List Int) : rowsV n (m + 1) u L = rowsK n m u L n := rfl
theorem rowsV_len (n : Nat) (hn : n ≤ 6) : ∀ m u L, (rowsV n m u L).length ≤ 6 ^ m
  | 0, u, L => by simp [rowsV]
  | m + 1, u, L => by
    rw [rowsV_succ]
    have hk : ∀ k, (rowsK n m u L k).length ≤ k * 6 ^ m := by
      intro k
      induction k with
      | zero => simp [rowsK]
      | succ k ih =>
        rw [rowsK_succ, List.length_append, Nat.succ_mul]
        have : (rowsT n m u L k).length ≤ 6 ^ m := by
          unfold rowsT
          split
          · exact rowsV_len n hn m _ _
          · simp
        omega
    have h1 := hk n
    have h2 : n * 6 ^ m ≤ 6 * 6 ^ m := Nat.mul_le_mul_right _ hn
    rw [Nat.pow_succ]
    omega
theorem rowsK_len (n m u : Nat) (L : List Int) (hn : n ≤ 6) : ∀ k, (rowsK n m u L k).length ≤ k * 6 ^ m
  | 0 => by simp [rowsK]
  | k + 1 => by
    have ih := rowsK_len n m u L hn k
    rw [rowsK_succ, List.length_append, Nat.succ_mul]
    have : (rowsT n m u L k).length ≤ 6 ^ m := by
      unfold rowsT
      split
      · exact rowsV_len n hn m _ _
      · simp
    omega
theorem pow6 {m : Nat} (h : m ≤ 6) : 6 ^ m ≤ 46656 := Nat.le_trans (Nat.pow_le_pow_right (by omega) h) (by decide)
theorem or_small : ∀ u : Nat, u < 128 → ∀ k : Nat, k ≤ 6 → u ||| 2 ^ k < 128 ∧ IntKind.wrap .i64 ((BitVec.ofInt (IntKind.bits .i64) (u : Int)) ||| (BitVec.ofInt (IntKind.bits .i64) ((2 ^ k : Nat) : Int))).toNat = ((u ||| 2 ^ k : Nat) : Int) := by decide +kernel
theorem rows_rets {X : Caller} (hX : Xok X) (n : Nat) (hn : n ≤ 6) : ∀ (m : Nat) (L : List Int) (u : Nat) (s : Value) (g : GH) (b : Nat), L.length + m = n → u < 128 → Own g s (ints L) 3 b →
    Rets Try.prog X 42 [.int .i64 n, s, .int .i64 u] g (fun v g' lo => g.next ≤ lo ∧ ∃ vs, SlR g' v vs ∧ L2 g' vs (rowsV n m u L)) := by
  intro m
  induction m with
  | zero =>
    intro L u s g b hLm hu hs
    refine Rets.run hX.pres p42 (hX.free 42 (by decide) _ _) rfl fun ho => ?_
    have hl := hs.read.len
    rw [ints_len] at hl
    have hcz := hs.read.cell
    have e1 : (L.length : Int) = n := by omega
    simp +decide (disch := first | assumption | (apply GH.ok_push; assumption) | exact cellV_int _ _ | exact cellV_bool _ | omega) only [go_sem, ↓reduceIte, Nat.reduceEqDiff, Nat.reduceAdd, Int.reduceToNat, hl, e1, hcz]
    intro hx0
    exact ⟨Nat.le_refl _, [s], SlR.one ho _ _, L2.one (hs.read.push ho _) hs.capOk⟩
  | succ m ihm =>
    intro L u s g b hLm hu hs
    refine Rets.run hX.pres p42 (hX.free 42 (by decide) _ _) rfl fun ho => ?_
    have hl := hs.read.len
    rw [ints_len] at hl
    have e1 : ¬ (L.length : Int) = n := by omega
    have hp6 := pow6 (m := m + 1) (by omega)
    rw [Nat.pow_succ] at hp6
    simp +decide (disch := first | assumption | (apply GH.ok_push; assumption) | exact cellV_int _ _ | exact cellV_bool _ | omega) only [go_sem, ↓reduceIte, Nat.reduceEqDiff, Nat.reduceAdd, Int.reduceToNat, hl, e1]
    refine Wk.loops (fun r e g' lo => g.next ≤ lo ∧ Kept g g' ∧ ∃ k : Nat, k + r = n ∧ (ev e (.s 0) = .int .i64 n ∧ ev e (.s 1) = s ∧ ev e (.s 2) = .int .i64 u ∧ ev e (.s 8) = .int .i64 ((k : Int) + 1)) ∧ ∃ o vs, ev e (.s 7) = o ∧ Own g' o vs 22 g.next ∧ L2 g' vs (rowsK n m u L k))
      (fun e g' lo => g.next ≤ lo ∧ ∃ o vs, ev e (.s 7) = o ∧ SlR g' o vs ∧ L2 g' vs (rowsV n (m + 1) u L)) (n := n) ?_ ?_ ?_
    · exact ⟨Nat.le_refl _, Kept.refl _, 0, by omega, (by simp +decide (disch := first | assumption | (apply GH.ok_push; assumption) | exact cellV_int _ _ | exact cellV_bool _ | omega) only [go_sem, ↓reduceIte, Nat.reduceEqDiff, Nat.reduceAdd, Int.reduceToNat]; first | done | exact rfl), .slice none 0 0, [], (by simp +decide (disch := first | assumption | (apply GH.ok_push; assumption) | exact cellV_int _ _ | exact cellV_bool _ | omega) only [go_sem, ↓reduceIte, Nat.reduceEqDiff, Nat.reduceAdd, Int.reduceToNat]; first | done | exact rfl), Own.nil, rfl, fun i v M a b => by simp at a⟩
    · rintro e g' lo hog - ⟨hlo, o, vs, h7, hsl, hl2⟩
      simp +decide (disch := first | assumption | (apply GH.ok_push; assumption) | exact cellV_int _ _ | exact cellV_bool _ | omega) only [go_sem, ↓reduceIte, Nat.reduceEqDiff, Nat.reduceAdd, Int.reduceToNat, h7]
      intro hx0
      exact ⟨hlo, vs, hsl, hl2⟩
    · rintro r e g' lo ho' hl' ih out ⟨hlo, hk, k, hkr, he, o, vs, h7, hown2, hl2⟩
      have hkn := hk.next
      by_cases ck : k < n
      · have hsucc := rowsK_succ n m u L k
        have hsr : ((u : Int).fdiv (Int.ofNat (Nat.pow 2 (min ((k + 1 : Nat) : Int).toNat 64)))).tmod 2 = ((u / 2 ^ (k + 1) % 2 : Nat) : Int) := by rw [shr_fact u (k + 1) (by omega)]; rfl
        have ek : ((k + 1 : Nat) : Int) = (k : Int) + 1 := by push_cast; rfl
        rw [ek] at hsr
        by_cases c1 : u / 2 ^ (k + 1) % 2 = 0
        · have ht : rowsT n m u L k = rowsV n m (u ||| 2 ^ (k + 1)) (L ++ [(k : Int) + 1]) := if_pos c1
          rw [c1] at hsr
          have hor := or_small u hu (k + 1) (by omega)
          have hsl := shl_fact (k + 1) (by omega)
          rw [ek] at hsl
          have hpw : 2 ^ (k + 1) ≤ 64 := by have := Nat.pow_le_pow_right (n := 2) (by omega) (show k + 1 ≤ 6 by omega); exact this
          have hvl := rowsV_len n hn m (u ||| 2 ^ (k + 1)) (L ++ [(k : Int) + 1])
          have hkl := rowsK_len n m u L hn k
          have hkm : k * 6 ^ m ≤ 6 * 6 ^ m := Nat.mul_le_mul_right _ (by omega)
          have hcall := fun s' g3 h => ihm (L ++ [(k : Int) + 1]) (u ||| 2 ^ (k + 1)) s' g3 (g'.next + 1) (by simp; omega) hor.1 h
          obtain ⟨w, hw⟩ : ∃ w, 2 ^ (k + 1) = w := ⟨_, rfl⟩
          obtain ⟨uw, huw⟩ : ∃ uw, u ||| w = uw := ⟨_, rfl⟩
          rw [hw] at hor hsl hpw ht hvl
          rw [huw] at hor ht hvl
          simp only [hw, huw] at hcall
          have horr := hor.2
          obtain ⟨RR, hRR⟩ : ∃ RR, rowsV n m uw (L ++ [(k : Int) + 1]) = RR := ⟨_, rfl⟩
          rw [hRR] at ht hvl
          simp only [hRR] at hcall
          rw [ht] at hsucc
          have hown1 := hs.kept hk
          have hlv := hown1.read.len
          have hcl := clip_own hown1 (by rw [ints_len]; omega)
          rw [ints_len] at hlv hcl
          simp +decide (disch := first | assumption | (apply GH.ok_push; assumption) | exact cellV_int _ _ | exact cellV_bool _ | omega) only [go_sem, ↓reduceIte, Nat.reduceEqDiff, Nat.reduceAdd, Int.reduceToNat, he, h7, hsr, hlv, hcl]
          refine AppD.clip (lw := g.next) (base := g'.next + 1) (hown1.kept ((Kept.refl g').push ho' _)) (SlR.one ho' _ _) (by simp) rfl (by simp [ints_len]; omega) (by simp [GH.push]) hlo (by omega) (GH.ok_push ho') (fun s' g2 lo2 sp wr hgr hlo2 => ?_)
          have hk2 : Kept g' g2 := ((Kept.refl g').push ho' _).grew2 hgr (by omega)
          have hgo : Own g2 s' (ints (L ++ [(k : Int) + 1])) 3 (g'.next + 1) := by
            have := hgr.own
            rw [ints_app]; exact this
          have hn2 := hk2.next
          simp +decide (disch := first | assumption | (apply GH.ok_push; assumption) | exact cellV_int _ _ | exact cellV_bool _ | omega) only [go_sem, ↓reduceIte, Nat.reduceEqDiff, Nat.reduceAdd, Int.reduceToNat, he, hsl]
          have hrec := hcall s' g2 hgo
          rw [← horr] at hrec
          refine CallD.calm hrec ?_
          rintro z G ⟨hxn, hxh, hxl, hxk, hxf⟩ ⟨ws, w1, w2⟩
          have hx : GExt g2 G g2.next := ⟨hxn, hxh, hxl, hxk, hxf⟩
          have hkG := hk2.ext hx
          have hoG := hx.ok hgr.ok
          have hv2 := hl2.keeps hkG.keeps
          have hw1 := w2.1
          have hvl2 := hl2.1
          simp +decide (disch := first | assumption | (apply GH.ok_push; assumption) | exact cellV_int _ _ | exact cellV_bool _ | omega) only [go_sem, ↓reduceIte, Nat.reduceEqDiff, Nat.reduceAdd, Int.reduceToNat, he, h7]
          by_cases cw : ws = []
          · subst cw
            have hR0 : RR = [] := List.eq_nil_of_length_eq_zero (by rw [← hw1]; rfl)
            obtain ⟨oa, on, oc, rfl⟩ : ∃ a n c, o = .slice a n c := by
              rcases hown2 with ⟨rfl, _⟩ | ⟨j, fam, rfl, _⟩ <;> exact ⟨_, _, _, rfl⟩
            have hon : on = vs.length := by
              have := (hown2.read).len
              simp only [lenLF, Option.some.injEq, Value.int.injEq, true_and] at this
              exact Int.ofNat.inj this
            refine AppD.none w1 (by rw [hon, hvl2]; omega) ?_
            simp +decide (disch := first | assumption | (apply GH.ok_push; assumption) | exact cellV_int _ _ | exact cellV_bool _ | omega) only [go_sem, ↓reduceIte, Nat.reduceEqDiff, Nat.reduceAdd, Int.reduceToNat, he]
            refine ih (r - 1) _ _ _ (by omega) ⟨hlo2, hk.trans hkG, k + 1, by omega, (by simp +decide (disch := first | assumption | (apply GH.ok_push; assumption) | exact cellV_int _ _ | exact cellV_bool _ | omega) only [go_sem, ↓reduceIte, Nat.reduceEqDiff, Nat.reduceAdd, Int.reduceToNat, he]; first | done | exact rfl), _, vs, (by simp +decide (disch := first | assumption | (apply GH.ok_push; assumption) | exact cellV_int _ _ | exact cellV_bool _ | omega) only [go_sem, ↓reduceIte, Nat.reduceEqDiff, Nat.reduceAdd, Int.reduceToNat]; first | done | exact rfl), hown2.kept hkG, ?_⟩
            rw [hsucc, hR0, List.append_nil]; exact hv2
          · refine AppD.own2 (lw := g.next) (hown2.kept hkG) w1 cw w2.cells (by rw [hvl2, hw1]; omega) (by have := hkG.next; omega) (by omega) (Nat.le_refl _) hoG (fun s3 g3 lo3 sp wr hgr3 hlo3 => ?_)
            simp +decide (disch := first | assumption | (apply GH.ok_push; assumption) | exact cellV_int _ _ | exact cellV_bool _ | omega) only [go_sem, ↓reduceIte, Nat.reduceEqDiff, Nat.reduceAdd, Int.reduceToNat, he]
            refine ih (r - 1) _ _ _ (by omega) ⟨hlo3, (hk.trans hkG).grew2 hgr3 (Nat.le_refl _), k + 1, by omega, (by simp +decide (disch := first | assumption | (apply GH.ok_push; assumption) | exact cellV_int _ _ | exact cellV_bool _ | omega) only [go_sem, ↓reduceIte, Nat.reduceEqDiff, Nat.reduceAdd, Int.reduceToNat, he]; first | done | exact rfl), s3, vs ++ ws, (by simp +decide (disch := first | assumption | (apply GH.ok_push; assumption) | exact cellV_int _ _ | exact cellV_bool _ | omega) only [go_sem, ↓reduceIte, Nat.reduceEqDiff, Nat.reduceAdd, Int.reduceToNat]; first | done | exact rfl), hgr3.own, ?_⟩
            rw [hsucc]
            exact (hv2.keeps ((Keeps.refl G).grew hgr3)).app (w2.keeps ((Keeps.refl G).grew hgr3))
        · have c1' : u / 2 ^ (k + 1) % 2 = 1 := by omega
          have ht : rowsT n m u L k = [] := if_neg c1
          rw [c1'] at hsr
          rw [ht, List.append_nil] at hsucc
          simp +decide (disch := first | assumption | (apply GH.ok_push; assumption) | exact cellV_int _ _ | exact cellV_bool _ | omega) only [go_sem, ↓reduceIte, Nat.reduceEqDiff, Nat.reduceAdd, Int.reduceToNat, he, hsr]
          exact ih (r - 1) _ _ _ (by omega) ⟨hlo, hk, k + 1, by omega, (by simp +decide (disch := first | assumption | (apply GH.ok_push; assumption) | exact cellV_int _ _ | exact cellV_bool _ | omega) only [go_sem, ↓reduceIte, Nat.reduceEqDiff, Nat.reduceAdd, Int.reduceToNat, he]; first | done | exact rfl), o, vs, (by simp +decide (disch := first | assumption | (apply GH.ok_push; assumption) | exact cellV_int _ _ | exact cellV_bool _ | omega) only [go_sem, ↓reduceIte, Nat.reduceEqDiff, Nat.reduceAdd, Int.reduceToNat, h7]; first | done | exact rfl), hown2, by rw [hsucc]; exact hl2⟩
      · simp +decide (disch := first | assumption | (apply GH.ok_push; assumption) | exact cellV_int _ _ | exact cellV_bool _ | omega) only [go_sem, ↓reduceIte, Nat.reduceEqDiff, Nat.reduceAdd, Int.reduceToNat, he, h7]
        have : k = n := by omega
        subst this
        exact out _ _ _ ⟨hlo, o, vs, (by simp +decide (disch := first | assumption | (apply GH.ok_push; assumption) | exact cellV_int _ _ | exact cellV_bool _ | omega) only [go_sem, ↓reduceIte, Nat.reduceEqDiff, Nat.reduceAdd, Int.reduceToNat, h7]; first | done | exact rfl), hown2.read, hl2⟩
end Go.Proofs.Yteeelcmnlomgmaa
set_option maxRecDepth 100000
set_option maxHeartbeats 8000000
set_option linter.unusedSimpArgs false
set_option linter.unusedVariables false
namespace Go.Proofs.Yteeelcmnlomgmaa
open Go.Ds
/-- What is known of all rows of at most six numbers, reckoned through. -/
def rowsOk (n : Nat) : Bool := (rowsV n n 0 []).all (fun L => decide (rowE L = 0)) && Nat.beq ((rowsV n n 0 []).countP waveB) (zig n) && Nat.beq ((rowsV n n 0 []).countP andreV) (zig n)
theorem rows_ok0 : rowsOk 0 = true := by decide +kernel
theorem rows_ok1 : rowsOk 1 = true := by decide +kernel
theorem rows_ok2 : rowsOk 2 = true := by decide +kernel
theorem rows_ok3 : rowsOk 3 = true := by decide +kernel
theorem rows_ok4 : rowsOk 4 = true := by decide +kernel
theorem rows_ok5 : rowsOk 5 = true := by decide +kernel
theorem rows_ok6 : rowsOk 6 = true := by decide +kernel
theorem rows_ok {n : Nat} (h : n ≤ 6) : (∀ L ∈ rowsV n n 0 [], rowE L = 0) ∧ (rowsV n n 0 []).countP waveB = zig n ∧ (rowsV n n 0 []).countP andreV = zig n := by
  have h1 : rowsOk n = true := by
    obtain rfl | rfl | rfl | rfl | rfl | rfl | rfl : n = 0 ∨ n = 1 ∨ n = 2 ∨ n = 3 ∨ n = 4 ∨ n = 5 ∨ n = 6 := by omega
    all_goals first | exact rows_ok0 | exact rows_ok1 | exact rows_ok2 | exact rows_ok3 | exact rows_ok4 | exact rows_ok5 | exact rows_ok6
  unfold rowsOk at h1
  simp only [Bool.and_eq_true, List.all_eq_true, decide_eq_true_eq] at h1
  exact ⟨h1.1.1, Nat.eq_of_beq_eq_true h1.1.2, Nat.eq_of_beq_eq_true h1.2⟩
theorem zig_le {n : Nat} (h : n ≤ 10) : zig n ≤ 50521 := by
  have hh : ∀ n, n ≤ 10 → zig n ≤ 50521 := by decide
  exact hh n h
theorem countP_take (p : List Int → Bool) (LL : List (List Int)) (i : Nat) (h : i < LL.length) : (LL.take (i + 1)).countP p = (LL.take i).countP p + if p LL[i] = true then 1 else 0 := by
  have e : LL.take (i + 1) = LL.take i ++ [LL[i]] := by
    rw [List.take_add_one, List.getElem?_eq_getElem h]; rfl
  rw [e, List.countP_append]
  simp [List.countP_cons]
theorem foataLaw_rets {X : Caller} (hX : Xok1 X) (z : Int) (h0 : 0 ≤ z) (h1 : z < 256) (g : GH) : Rets Try.prog X 11 [.int .u8 z] g (fun v g' lo => g.next ≤ lo ∧ v = .bool true) := by
  have e0 : ∀ a b : Value, extF (.tuple #[a, b]) 0 = some a := fun _ _ => rfl
  have e1 : ∀ a b : Value, extF (.tuple #[a, b]) 1 = some b := fun _ _ => rfl
  refine Rets.run hX.pres p11 (hX.free 11 (by decide) _ _) rfl fun ho => ?_
  obtain ⟨n, hn, hn10⟩ : ∃ n : Nat, z.tmod 11 = n ∧ n ≤ 10 := by
    rw [Int.tmod_eq_emod_of_nonneg h0]
    exact ⟨(z % 11).toNat, by omega, by omega⟩
  have hcv : convF .i64 (.int .u8 (n : Int)) = some (.int .i64 (n : Int)) := by
    obtain rfl | rfl | rfl | rfl | rfl | rfl | rfl | rfl | rfl | rfl | rfl : n = 0 ∨ n = 1 ∨ n = 2 ∨ n = 3 ∨ n = 4 ∨ n = 5 ∨ n = 6 ∨ n = 7 ∨ n = 8 ∨ n = 9 ∨ n = 10 := by omega
    all_goals rfl
  have hzl := zig_le hn10
  simp +decide (disch := first | assumption | (apply GH.ok_push; assumption) | exact cellV_int _ _ | exact cellV_bool _ | omega) only [go_sem, ↓reduceIte, Nat.reduceEqDiff, Nat.reduceAdd, Int.reduceToNat, hn, hcv]
  refine CallD.calm (hX.count n hn10 _) ?_
  rintro v G1 hx1 rfl
  have hn1 := hx1.next
  simp +decide (disch := first | assumption | (apply GH.ok_push; assumption) | exact cellV_int _ _ | exact cellV_bool _ | omega) only [go_sem, ↓reduceIte, Nat.reduceEqDiff, Nat.reduceAdd, Int.reduceToNat, e0, e1]
  refine CallD.calm (hX.andre n hn10 _) ?_
  rintro v G2 hx2 rfl
  have hn2 := hx2.next
  by_cases c6 : 6 < n
  · simp +decide (disch := first | assumption | (apply GH.ok_push; assumption) | exact cellV_int _ _ | exact cellV_bool _ | omega) only [go_sem, ↓reduceIte, Nat.reduceEqDiff, Nat.reduceAdd, Int.reduceToNat, e0, e1]
    refine CallD.calm (hX.alive _) ?_
    rintro v G3 hx3 rfl
    simp +decide (disch := first | assumption | (apply GH.ok_push; assumption) | exact cellV_int _ _ | exact cellV_bool _ | omega) only [go_sem, ↓reduceIte, Nat.reduceEqDiff, Nat.reduceAdd, Int.reduceToNat]
    intro hx0
    exact ⟨Nat.le_refl _, rfl⟩
  · obtain ⟨k1, k2, k3⟩ := rows_ok (n := n) (by omega)
    have hlen := rowsV_len n (by omega) n 0 []
    have hp6 := pow6 (m := n) (by omega)
    simp +decide (disch := first | assumption | (apply GH.ok_push; assumption) | exact cellV_int _ _ | exact cellV_bool _ | omega) only [go_sem, ↓reduceIte, Nat.reduceEqDiff, Nat.reduceAdd, Int.reduceToNat, e0, e1]
    refine CallD.calm (rows_rets hX.toXok n (by omega) n [] 0 _ _ 0 (by simp) (by omega) Own.nil) ?_
    rintro o G3 ⟨hxn, hxh, hxl, hxk, hxf⟩ ⟨vs, hsl, hl2⟩
    have hx3 : GExt G2 G3 G2.next := ⟨hxn, hxh, hxl, hxk, hxf⟩
    have hn3 := hx3.next
    obtain ⟨RR, hRR⟩ : ∃ RR, rowsV n n 0 [] = RR := ⟨_, rfl⟩
    rw [hRR] at k1 k2 k3 hlen hl2
    have hl := hsl.len
    have hvl := hl2.1
    rw [hvl] at hl
    simp +decide (disch := first | assumption | (apply GH.ok_push; assumption) | exact cellV_int _ _ | exact cellV_bool _ | omega) only [go_sem, ↓reduceIte, Nat.reduceEqDiff, Nat.reduceAdd, Int.reduceToNat]
    refine Wk.loops (fun m e g' lo => g.next ≤ lo ∧ Kept G3 g' ∧ ∃ i : Nat, i + m = RR.length ∧ (ev e (.s 4) = .int .i64 (zig n : Nat) ∧ ev e (.s 8) = o ∧ ev e (.s 9) = .int .i64 ((RR.take i).countP waveB : Nat) ∧ ev e (.s 10) = .int .i64 ((RR.take i).countP andreV : Nat) ∧ ev e (.s 11) = .int .i64 i))
      (fun e g' lo => g.next ≤ lo ∧ (ev e (.s 4) = .int .i64 (zig n : Nat) ∧ ev e (.s 9) = .int .i64 (zig n : Nat) ∧ ev e (.s 10) = .int .i64 (zig n : Nat))) (n := RR.length) ?_ ?_ ?_
    · have z1 : List.countP waveB [] = 0 := rfl
      have z2 : List.countP andreV [] = 0 := rfl
      exact ⟨Nat.le_refl _, Kept.refl _, 0, by omega, (by simp +decide (disch := first | assumption | (apply GH.ok_push; assumption) | exact cellV_int _ _ | exact cellV_bool _ | omega) only [go_sem, ↓reduceIte, Nat.reduceEqDiff, Nat.reduceAdd, Int.reduceToNat, z1, z2]; first | done | exact rfl)⟩
    · rintro e g' lo hog - ⟨hlo, he⟩
      simp +decide (disch := first | assumption | (apply GH.ok_push; assumption) | exact cellV_int _ _ | exact cellV_bool _ | omega) only [go_sem, ↓reduceIte, Nat.reduceEqDiff, Nat.reduceAdd, Int.reduceToNat, he]
      refine CallD.calm (hX.alive _) ?_
      rintro v G4 hx4 rfl
      simp +decide (disch := first | assumption | (apply GH.ok_push; assumption) | exact cellV_int _ _ | exact cellV_bool _ | omega) only [go_sem, ↓reduceIte, Nat.reduceEqDiff, Nat.reduceAdd, Int.reduceToNat]
      intro hx0
      exact ⟨hlo, rfl⟩
    · rintro m e g' lo ho' hl' ih out ⟨hlo, hk, i, hi, he⟩
      by_cases ci : i < RR.length
      · obtain ⟨u, hu⟩ : ∃ u, vs[i]'(by rw [hvl]; exact ci) = u := ⟨_, rfl⟩
        have hvi : vs[i]? = some u := by rw [List.getElem?_eq_getElem (by rw [hvl]; exact ci), hu]
        have hLi := List.getElem?_eq_getElem ci
        obtain ⟨hu1, hu2⟩ := hl2.2 i u _ hvi hLi
        have hmem := k1 _ (List.getElem_mem ci)
        have hw := countP_take waveB RR i ci
        have ha := countP_take andreV RR i ci
        have hwl : (RR.take i).countP waveB ≤ 46656 := Nat.le_trans List.countP_le_length (by rw [List.length_take]; omega)
        have hal : (RR.take i).countP andreV ≤ 46656 := Nat.le_trans List.countP_le_length (by rw [List.length_take]; omega)
        obtain ⟨L, hL⟩ : ∃ L, RR[i] = L := ⟨_, rfl⟩
        rw [hL] at hu1 hmem hw ha
        have hLl : L.length ≤ 1000 := by have := (row_facts hmem).1; omega
        obtain ⟨p, hp1, hp2⟩ := (hsl.kept hk).at hvi
        have hp1 := hp1 (i : Int) rfl
        obtain ⟨cw, hcw⟩ : ∃ c, (RR.take i).countP waveB = c := ⟨_, rfl⟩
        obtain ⟨ca, hca⟩ : ∃ c, (RR.take i).countP andreV = c := ⟨_, rfl⟩
        rw [hcw] at hw hwl
        rw [hca] at ha hal
        simp only [hcw, hca] at he
        simp +decide (disch := first | assumption | (apply GH.ok_push; assumption) | exact cellV_int _ _ | exact cellV_bool _ | omega) only [go_sem, ↓reduceIte, Nat.reduceEqDiff, Nat.reduceAdd, Int.reduceToNat, he, hl, hp1, hp2]
        refine CallD.calm (IsWave_rets hX.toXok L hLl u _ (hu1.kept hk)) ?_
        rintro v G4 hx4 rfl
        have hn4 := hx4.next
        have hk4 := hk.ext hx4
        obtain ⟨p2, hp3, hp4⟩ := (hsl.kept hk4).at hvi
        have hp3 := hp3 (i : Int) rfl
        rw [hmem]
        simp +decide (disch := first | assumption | (apply GH.ok_push; assumption) | exact cellV_int _ _ | exact cellV_bool _ | omega) only [go_sem, ↓reduceIte, Nat.reduceEqDiff, Nat.reduceAdd, Int.reduceToNat, he, e0, e1, hp3, hp4]
        refine CallD.calm (IsAndre_rets hX.toXok L hLl u _ (hu1.kept hk4) hu2) ?_
        rintro v G5 hx5 rfl
        have hn5 := hx5.next
        have hk5 := hk4.ext hx5
        rw [hmem]
        cases hb : waveB L with
        | true =>
          rw [hb, if_pos rfl] at hw
          cases hc : andreV L with
          | true =>
            rw [hc, if_pos rfl] at ha
            simp +decide (disch := first | assumption | (apply GH.ok_push; assumption) | exact cellV_int _ _ | exact cellV_bool _ | omega) only [go_sem, ↓reduceIte, Nat.reduceEqDiff, Nat.reduceAdd, Int.reduceToNat, he, e0, e1]
            exact ih (m - 1) _ _ _ (by omega) ⟨hlo, hk5, i + 1, by omega, by rw [hw, ha]; exact (by simp +decide (disch := first | assumption | (apply GH.ok_push; assumption) | exact cellV_int _ _ | exact cellV_bool _ | omega) only [go_sem, ↓reduceIte, Nat.reduceEqDiff, Nat.reduceAdd, Int.reduceToNat, he]; first | done | exact rfl)⟩
          | false =>
            rw [hc, if_neg (by decide)] at ha
            simp +decide (disch := first | assumption | (apply GH.ok_push; assumption) | exact cellV_int _ _ | exact cellV_bool _ | omega) only [go_sem, ↓reduceIte, Nat.reduceEqDiff, Nat.reduceAdd, Int.reduceToNat, he, e0, e1]
            exact ih (m - 1) _ _ _ (by omega) ⟨hlo, hk5, i + 1, by omega, by rw [hw, ha]; exact (by simp +decide (disch := first | assumption | (apply GH.ok_push; assumption) | exact cellV_int _ _ | exact cellV_bool _ | omega) only [go_sem, ↓reduceIte, Nat.reduceEqDiff, Nat.reduceAdd, Int.reduceToNat, he]; first | done | exact rfl)⟩
        | false =>
          rw [hb, if_neg (by decide)] at hw
          cases hc : andreV L with
          | true =>
            rw [hc, if_pos rfl] at ha
            simp +decide (disch := first | assumption | (apply GH.ok_push; assumption) | exact cellV_int _ _ | exact cellV_bool _ | omega) only [go_sem, ↓reduceIte, Nat.reduceEqDiff, Nat.reduceAdd, Int.reduceToNat, he, e0, e1]
            exact ih (m - 1) _ _ _ (by omega) ⟨hlo, hk5, i + 1, by omega, by rw [hw, ha]; exact (by simp +decide (disch := first | assumption | (apply GH.ok_push; assumption) | exact cellV_int _ _ | exact cellV_bool _ | omega) only [go_sem, ↓reduceIte, Nat.reduceEqDiff, Nat.reduceAdd, Int.reduceToNat, he]; first | done | exact rfl)⟩
          | false =>
            rw [hc, if_neg (by decide)] at ha
            simp +decide (disch := first | assumption | (apply GH.ok_push; assumption) | exact cellV_int _ _ | exact cellV_bool _ | omega) only [go_sem, ↓reduceIte, Nat.reduceEqDiff, Nat.reduceAdd, Int.reduceToNat, he, e0, e1]
            exact ih (m - 1) _ _ _ (by omega) ⟨hlo, hk5, i + 1, by omega, by rw [hw, ha]; exact (by simp +decide (disch := first | assumption | (apply GH.ok_push; assumption) | exact cellV_int _ _ | exact cellV_bool _ | omega) only [go_sem, ↓reduceIte, Nat.reduceEqDiff, Nat.reduceAdd, Int.reduceToNat, he]; first | done | exact rfl)⟩
      · have : i = RR.length := by omega
        subst this
        simp only [List.take_length, k2, k3] at he
        simp +decide (disch := first | assumption | (apply GH.ok_push; assumption) | exact cellV_int _ _ | exact cellV_bool _ | omega) only [go_sem, ↓reduceIte, Nat.reduceEqDiff, Nat.reduceAdd, Int.reduceToNat, he, hl]
        exact out _ _ _ ⟨hlo, (by simp +decide (disch := first | assumption | (apply GH.ok_push; assumption) | exact cellV_int _ _ | exact cellV_bool _ | omega) only [go_sem, ↓reduceIte, Nat.reduceEqDiff, Nat.reduceAdd, Int.reduceToNat, he]; first | done | exact rfl)⟩
end Go.Proofs.Yteeelcmnlomgmaa
