import Derived.Test.YteeelcmnlomgmaaJ4
import Derived.Test.YteeelcmnlomgmaaKe
import Derived.Test.YteeelcmnlomgmaaJ2
set_option linter.all false
set_option linter.unusedSimpArgs false
set_option linter.unnecessarySimpa false
set_option linter.unusedVariables false
set_option linter.unusedSectionVars false
set_option maxRecDepth 100000
set_option maxHeartbeats 8000000
set_option linter.unusedSimpArgs false
set_option linter.unusedVariables false
namespace Go.Proofs.Yteeelcmnlomgmaa
open Go.Ds
/-! ## Beginnings of waves, of the specification -/
def refTurnL : Bool → List Int → Bool
  | up, a :: b :: l => (if up = true then decide (a < b) else decide (b < a)) && refTurnL (!up) (b :: l)
  | _, _ => true
theorem refTurnL_step (up : Bool) (L : List Int) (j : Nat) (h : j + 1 < L.length) : refTurnL up (L.drop j) = ((if up = true then decide (L.getD j 0 < L.getD (j + 1) 0) else decide (L.getD (j + 1) 0 < L.getD j 0)) && refTurnL (!up) (L.drop (j + 1))) := by
  rw [drop_cons L j (by omega), drop_cons L (j + 1) h, refTurnL]
theorem refTurnL_end (up : Bool) (L : List Int) (j : Nat) (h : L.length ≤ j + 1) : refTurnL up (L.drop j) = true := by
  by_cases c : j < L.length
  · rw [drop_cons L j c, List.drop_of_length_le (by omega)]; rfl
  · rw [List.drop_of_length_le (by omega)]; rfl
theorem refWaveG_rets {X : Caller} (hX : Xok X) (L : List Int) (hL : L.length ≤ 1000) (s : Value) (g : GH) (hs : SlR g s (ints L)) :
    Rets Try.prog X 45 [s] g (fun v g' lo => g.next ≤ lo ∧ v = .bool (refTurnL true L)) := by
  refine Rets.run hX.pres p45 (hX.free 45 (by decide) _ _) rfl fun ho => ?_
  have hl := hs.len
  rw [ints_len] at hl
  simp +decide (disch := first | assumption | (apply GH.ok_push; assumption) | exact cellV_int _ _ | exact cellV_bool _ | omega) only [go_sem, ↓reduceIte, Nat.reduceEqDiff, Nat.reduceAdd, Int.reduceToNat]
  refine Wk.loops (fun m e g' lo => g.next ≤ lo ∧ g' = g ∧ ∃ j : Nat, j + m = L.length ∧ (ev e (.s 0) = s ∧ ev e (.s 3) = .int .i64 (j + 1)) ∧ refTurnL (decide (j % 2 = 0)) (L.drop j) = refTurnL true L)
    (fun e g' lo => g.next ≤ lo ∧ refTurnL true L = true) (n := L.length) ?_ ?_ ?_
  · exact ⟨Nat.le_refl _, rfl, 0, by omega, (by simp +decide (disch := first | assumption | (apply GH.ok_push; assumption) | exact cellV_int _ _ | exact cellV_bool _ | omega) only [go_sem, ↓reduceIte, Nat.reduceEqDiff, Nat.reduceAdd, Int.reduceToNat]; first | done | exact rfl), rfl⟩
  · rintro e g' lo hog - ⟨hlo, hr⟩
    simp +decide (disch := first | assumption | (apply GH.ok_push; assumption) | exact cellV_int _ _ | exact cellV_bool _ | omega) only [go_sem, ↓reduceIte, Nat.reduceEqDiff, Nat.reduceAdd, Int.reduceToNat]
    intro hx
    exact ⟨hlo, by rw [hr]⟩
  · rintro m e g' lo ho' hl' ih out ⟨hlo, rfl, j, hj, he, hr⟩
    by_cases c : j + 1 < L.length
    · obtain ⟨b1, o1, hb1, hp1, hp2⟩ := hs.ptr (ints_get (D := L) (i := j) (by omega))
      obtain ⟨b2, o2, hb2, hq1, hq2⟩ := hs.ptr (ints_get (D := L) (i := j + 1) c)
      have hp1 := hp1 (j : Int) rfl
      have hq1 := hq1 ((j : Int) + 1) (by omega)
      have hst := refTurnL_step (decide (j % 2 = 0)) L j c
      have hj1 : (j : Int) + 1 - 1 = j := by omega
      have ht : ((j : Int) + 1).tmod 2 = (((j + 1) % 2 : Nat) : Int) := rfl
      by_cases c2 : j % 2 = 0
      · have ht2 : (j + 1) % 2 = 1 := by omega
        have hs2 : decide ((j + 1) % 2 = 0) = false := decide_eq_false (by omega)
        rw [ht2] at ht
        rw [decide_eq_true c2] at hst hr
        simp only [↓reduceIte] at hst
        by_cases d : L.getD j 0 < L.getD (j + 1) 0
        · rw [decide_eq_true d] at hst
          simp +decide (disch := first | assumption | (apply GH.ok_push; assumption) | exact cellV_int _ _ | exact cellV_bool _ | omega) only [go_sem, ↓reduceIte, Nat.reduceEqDiff, Nat.reduceAdd, Int.reduceToNat, he, hl, hj1, hp1, hp2, hq1, hq2, d, ht]
          exact ih (m - 1) _ _ _ (by omega) ⟨hlo, rfl, j + 1, by omega, (by simp +decide (disch := first | assumption | (apply GH.ok_push; assumption) | exact cellV_int _ _ | exact cellV_bool _ | omega) only [go_sem, ↓reduceIte, Nat.reduceEqDiff, Nat.reduceAdd, Int.reduceToNat, he]; first | done | exact rfl), by rw [hs2, ← hr, hst]; rfl⟩
        · rw [decide_eq_false d] at hst
          simp +decide (disch := first | assumption | (apply GH.ok_push; assumption) | exact cellV_int _ _ | exact cellV_bool _ | omega) only [go_sem, ↓reduceIte, Nat.reduceEqDiff, Nat.reduceAdd, Int.reduceToNat, he, hl, hj1, hp1, hp2, hq1, hq2, d, ht]
          intro hx0
          refine ⟨hlo, ?_⟩
          rw [← hr, hst]; rfl
      · have ht2 : (j + 1) % 2 = 0 := by omega
        have hs2 : decide ((j + 1) % 2 = 0) = true := decide_eq_true (by omega)
        rw [ht2] at ht
        rw [decide_eq_false c2] at hst hr
        simp only [Bool.false_eq_true, ↓reduceIte] at hst
        by_cases d : ¬ L.getD (j + 1) 0 < L.getD j 0
        · rw [decide_eq_false d] at hst
          have d1 : L.getD j 0 ≤ L.getD (j + 1) 0 := by omega
          simp +decide (disch := first | assumption | (apply GH.ok_push; assumption) | exact cellV_int _ _ | exact cellV_bool _ | omega) only [go_sem, ↓reduceIte, Nat.reduceEqDiff, Nat.reduceAdd, Int.reduceToNat, he, hl, hj1, hp1, hp2, hq1, hq2, d1, ht]
          intro hx0
          refine ⟨hlo, ?_⟩
          rw [← hr, hst]; rfl
        · have d := Decidable.not_not.1 d
          rw [decide_eq_true d] at hst
          have d2 : ¬ L.getD j 0 ≤ L.getD (j + 1) 0 := by omega
          simp +decide (disch := first | assumption | (apply GH.ok_push; assumption) | exact cellV_int _ _ | exact cellV_bool _ | omega) only [go_sem, ↓reduceIte, Nat.reduceEqDiff, Nat.reduceAdd, Int.reduceToNat, he, hl, hj1, hp1, hp2, hq1, hq2, d2, ht]
          exact ih (m - 1) _ _ _ (by omega) ⟨hlo, rfl, j + 1, by omega, (by simp +decide (disch := first | assumption | (apply GH.ok_push; assumption) | exact cellV_int _ _ | exact cellV_bool _ | omega) only [go_sem, ↓reduceIte, Nat.reduceEqDiff, Nat.reduceAdd, Int.reduceToNat, he]; first | done | exact rfl), by rw [hs2, ← hr, hst]; rfl⟩
    · simp +decide (disch := first | assumption | (apply GH.ok_push; assumption) | exact cellV_int _ _ | exact cellV_bool _ | omega) only [go_sem, ↓reduceIte, Nat.reduceEqDiff, Nat.reduceAdd, Int.reduceToNat, he, hl]
      refine out _ _ _ ⟨hlo, ?_⟩
      rw [← hr, refTurnL_end _ L j (by omega)]
theorem or_fact {u w : Nat} (hu : u < 2 ^ 40) (hw : w < 2 ^ 40) : IntKind.wrap .i64 ((BitVec.ofInt (IntKind.bits .i64) (u : Int)) ||| (BitVec.ofInt (IntKind.bits .i64) (w : Int))).toNat = ((u ||| w : Nat) : Int) := by
  have inst : Inhabited Bound := ⟨⟨0⟩⟩
  have h1 : ((BitVec.ofInt (IntKind.bits .i64) (u : Int)) ||| (BitVec.ofInt (IntKind.bits .i64) (w : Int))).toNat = u ||| w := by
    rw [BitVec.ofInt_natCast, BitVec.ofInt_natCast, BitVec.toNat_or, BitVec.toNat_ofNat, BitVec.toNat_ofNat]
    have e : 2 ^ IntKind.bits .i64 = 18446744073709551616 := by decide
    rw [e, Nat.mod_eq_of_lt (by omega), Nat.mod_eq_of_lt (by omega)]
  have h2 : u ||| w < 2 ^ 40 := Nat.or_lt_two_pow hu hw
  rw [h1]
  exact wrap_i64 _ (by omega) (by omega)
def sumTo (f : Nat → Nat) : Nat → Nat
  | 0 => 0
  | k + 1 => sumTo f k + f k
theorem sumTo_le {f : Nat → Nat} {B : Nat} (h : ∀ k, f k ≤ B) : ∀ n, sumTo f n ≤ n * B
  | 0 => by simp [sumTo]
  | n + 1 => by
    have := sumTo_le h n
    have := h n
    rw [Nat.succ_mul]; simp only [sumTo]; omega
def cntW (n : Nat) : Nat → Nat → List Int → Nat
  | 0, _, _ => 1
  | m + 1, u, L => sumTo (fun (k : Nat) => if u / 2 ^ (k + 1) % 2 = 0 ∧ refTurnL true (L ++ [(k : Int) + 1]) = true then cntW n m (u ||| 2 ^ (k + 1)) (L ++ [(k : Int) + 1]) else 0) n
def termW (n m u : Nat) (L : List Int) (k : Nat) : Nat := if u / 2 ^ (k + 1) % 2 = 0 ∧ refTurnL true (L ++ [(k : Int) + 1]) = true then cntW n m (u ||| 2 ^ (k + 1)) (L ++ [(k : Int) + 1]) else 0
theorem cntW_succ (n m u : Nat) (L : List Int) : cntW n (m + 1) u L = sumTo (termW n m u L) n := rfl
theorem cntW_le (n : Nat) (hn : n ≤ 10) : ∀ m u L, cntW n m u L ≤ 10 ^ m
  | 0, u, L => by simp [cntW]
  | m + 1, u, L => by
    rw [cntW_succ]
    have hk : ∀ k, termW n m u L k ≤ 10 ^ m := by
      intro k
      unfold termW
      split
      · exact cntW_le n hn m _ _
      · exact Nat.zero_le _
    have h1 := sumTo_le hk n
    have h2 : n * 10 ^ m ≤ 10 * 10 ^ m := Nat.mul_le_mul_right _ hn
    rw [Nat.pow_succ]
    omega
theorem pow10 {m : Nat} (h : m ≤ 10) : 10 ^ m ≤ 10000000000 := Nat.le_trans (Nat.pow_le_pow_right (by omega) h) (by decide)
/-- One object is another one now; all else is kept. -/
structure KeptJ (g g' : GH) (J : Nat) : Prop where
  next : g.next ≤ g'.next
  gets : ∀ j, j < g.next → j ≠ J → g'.get j = g.get j
  fams : ∀ f, f < g.next → g'.fams f = g.fams f
theorem KeptJ.of {g g' : GH} {J : Nat} (k : Kept g g') : KeptJ g g' J := ⟨k.next, fun j h _ => k.gets j h, k.fams⟩
theorem KeptJ.trans {a b c : GH} {J : Nat} (h : KeptJ a b J) (k : KeptJ b c J) : KeptJ a c J :=
  ⟨Nat.le_trans h.next k.next, fun j hj hne => (k.gets j (Nat.lt_of_lt_of_le hj h.next) hne).trans (h.gets j hj hne), fun f hf => (k.fams f (Nat.lt_of_lt_of_le hf h.next)).trans (h.fams f hf)⟩
theorem Own.keptJ {g g' : GH} {s : Value} {vs : List Value} {t : TypeId} {b J : Nat} {cs : List Value} {T : TypeId} (h : Own g s vs t b) (k : KeptJ g g' J) (hJ : g.get J = cellsOb cs T) : Own g' s vs t b := by
  rcases h with h | ⟨j, fam, h1, h2, h3, h4, h5, h6, h7⟩
  · exact .inl h
  · have hne : j ≠ J := by
      intro e
      rw [e, hJ] at h3
      cases h3
    have hn := k.next
    exact .inr ⟨j, fam, h1, by omega, (k.gets j h2 hne).trans h3, h4, h5, h6, by rw [k.fams fam (by omega)]; exact h7⟩
/-- The object of a search: how many numbers, how many there were, no rank. -/
def srchOb (n M : Nat) : Ob := cellsOb [.int .i64 n, .int .i64 M, .int .i64 (-1), .slice none 0 0] 52
end Go.Proofs.Yteeelcmnlomgmaa
set_option maxRecDepth 100000
set_option maxHeartbeats 8000000
set_option linter.unusedSimpArgs false
set_option linter.unusedVariables false
namespace Go.Proofs.Yteeelcmnlomgmaa
open Go.Ds
/-- A row that was appended, or a literal. -/
def NowOk (g : GH) (s : Value) (L : List Int) : Prop :=
  (∃ b, Own g s (ints L) 3 b) ∨ (L ≠ [] ∧ ∃ j, s = .slice (some ⟨j, 0, none⟩) L.length L.length ∧ j < g.next ∧ g.get j = cellsOb (ints L) 3)
theorem NowOk.read {g : GH} {s : Value} {L : List Int} (h : NowOk g s L) : SlR g s (ints L) := by
  rcases h with ⟨b, h⟩ | ⟨_, j, rfl, h2, h3⟩
  · exact h.read
  · exact SlR.whole h3 h2 (by rw [ints_len])
theorem NowOk.keptJ {g g' : GH} {s : Value} {L : List Int} {J n M : Nat} (h : NowOk g s L) (k : KeptJ g g' J) (hJ : g.get J = srchOb n M) : NowOk g' s L := by
  rcases h with ⟨b, h⟩ | ⟨h0, j, h1, h2, h3⟩
  · exact .inl ⟨b, Own.keptJ h k hJ⟩
  · have hn := k.next
    refine .inr ⟨h0, j, h1, by omega, (k.gets j h2 fun e => ?_).trans h3⟩
    rw [e, hJ] at h3
    have h4 : (52 : Nat) = 3 := congrArg Ob.elem h3
    omega
theorem NowOk.kept {g g' : GH} {s : Value} {L : List Int} (h : NowOk g s L) (k : Kept g g') : NowOk g' s L := by
  rcases h with ⟨b, h⟩ | ⟨h0, j, h1, h2, h3⟩
  · exact .inl ⟨b, h.kept k⟩
  · have hn := k.next
    exact .inr ⟨h0, j, h1, by omega, (k.gets j h2).trans h3⟩
theorem NowOk.clip {g : GH} {s : Value} {L : List Int} (h : NowOk g s L) (hL : L.length < 1000000) :
    slcMF 1 s none (.int .i64 (L.length : Int)) (.int .i64 (L.length : Int)) = some (Ds.clip s) := by
  rcases h with ⟨b, h⟩ | ⟨h0, j, rfl, h2, h3⟩
  · have := clip_own h (by rw [ints_len]; exact hL)
    rwa [ints_len] at this
  · have hp : 0 < L.length := List.length_pos_iff.2 h0
    obtain ⟨n, hn⟩ : ∃ n, L.length = n := ⟨_, rfl⟩
    rw [hn] at hp hL ⊢
    unfold slcMF
    simp only [lowF, asNat]
    have a1 : Nat.beq n (OPEN + 1) = false := Bool.eq_false_iff.2 (fun h => by have := Nat.eq_of_beq_eq_true h; unfold OPEN at this; omega)
    have a2 : Nat.blt n OPEN = true := by rw [blt_d, decide_eq_true_eq]; unfold OPEN; omega
    have a3 : Nat.ble n n = true := Nat.ble_self_eq_true _
    have a4 : Nat.ble 0 n = true := Nat.ble_eq_true_of_le (Nat.zero_le _)
    have a6 : Nat.beq n 0 = false := by rw [beq_d, decide_eq_false_iff_not]; omega
    show (bif (Nat.beq n (OPEN + 1) && Nat.blt 0 n && Nat.ble n n || Nat.blt n OPEN && Nat.ble n n) && Nat.ble 0 n && Nat.ble n n && Nat.blt n OPEN then
        some (Value.slice (some (bif Nat.beq n 0 then ⟨j, 0, none⟩ else (⟨j, 0, none⟩ : Addr).add (0 * 1))) (n - 0) (n - 0))
      else none) = _
    rw [a1, a2, a3, a4, a6]
    rfl
theorem NowOk.app {P : Program} {X : Caller} {Q : Out → Env → GH → Nat → Prop} {dd : Option P3} {l : List PI} {k : Nat} {sp : List (Nat × (Nat × Nat))} {wr : List Nat} {ks : List Fr} {e : Env} {g : GH} {lo lw : Nat} {sv xv : Value} {L : List Int} {x : Int}
    (h : NowOk g sv L) (hnew : SlR g xv [.int .i64 x]) (hL : L.length ≤ 1000) (hlo : lw ≤ lo) (hlw : lw ≤ g.next) (ho : g.ok)
    (hk : ∀ s' g' lo' sp wr, g'.ok → Kept g g' → NowOk g' s' (L ++ [x]) → lw ≤ lo' → Wk P X Q (.R l (k + 1) sp wr ks (putE e dd s') g' lo')) : AppD P X Q 3 1 8 (Ds.clip sv) xv [] dd l k sp wr ks e g lo := by
  rcases h with ⟨b, h⟩ | ⟨h0, j, rfl, h2, h3⟩
  · refine AppD.clip (lw := lw) (base := g.next) h hnew (by simp) rfl (by simp [ints_len]; omega) (Nat.le_refl _) hlo hlw ho (fun s' g' lo' sp wr hgr hlo' => ?_)
    exact hk s' g' lo' sp wr hgr.ok ((Kept.refl g).grew2 hgr (Nat.le_refl _)) (.inl ⟨g.next, by have := hgr.own; rw [ints_app]; exact this⟩) hlo'
  · have e1 : Ds.clip (.slice (some ⟨j, 0, none⟩) L.length L.length) = .slice (some ⟨j, 0, none⟩) (ints L).length (ints L).length := by rw [ints_len]; rfl
    rw [e1]
    refine AppD.full (base := 0) h3 (by simp) (Nat.le_refl _) hnew (by simp) (by simp [ints_len]; omega) (Nat.zero_le _) (Nat.zero_le _) ho (fun s' g' sp wr hgr hkp => ?_)
    exact hk s' g' lo sp wr hgr.ok hkp (.inl ⟨0, by have := hgr.own; rw [ints_app]; exact this⟩) hlo
theorem on_rets {X : Caller} (hX : Xok X) (n : Nat) (hn : n ≤ 10) (J : Nat) : ∀ (m : Nat) (L : List Int) (u M : Nat) (s : Value) (g : GH), L.length + m = n → u < 2 ^ 40 → NowOk g s L → J < g.next → g.get J = srchOb n M → M + 10 ^ m ≤ 1000000000000 →
    Rets Try.prog X 49 [.pointer (some ⟨J, 0, none⟩), s, .int .i64 u] g (fun v g' lo => J ≤ lo ∧ KeptJ g g' J ∧ g'.get J = srchOb n (M + cntW n m u L)) := by
  have hnil : nilcF (.pointer (some ⟨J, 0, none⟩)) = some (.pointer (some ⟨J, 0, none⟩)) := rfl
  have hf0 : faddrF 0 (.pointer (some ⟨J, 0, none⟩)) = some (.pointer (some ⟨J, 0, none⟩)) := rfl
  have hf1 : faddrF 1 (.pointer (some ⟨J, 0, none⟩)) = some (.pointer (some ⟨J, 1, none⟩)) := by
    show some (Value.pointer (some ((⟨J, 0, none⟩ : Addr).add 1))) = _
    unfold Addr.add; rfl
  have hf2 : faddrF 2 (.pointer (some ⟨J, 0, none⟩)) = some (.pointer (some ⟨J, 2, none⟩)) := by
    show some (Value.pointer (some ((⟨J, 0, none⟩ : Addr).add 2))) = _
    unfold Addr.add; rfl
  intro m
  induction m with
  | zero =>
    intro L u M s g hLm hu hs hJ hget hM
    refine Rets.run hX.pres p49 (hX.free 49 (by decide) _ _) rfl fun ho => ?_
    have hl := hs.read.len
    rw [ints_len] at hl
    have e1 : (L.length : Int) = n := by omega
    unfold srchOb at hget ⊢
    have hm1 : ¬ (M : Int) = -1 := by omega
    simp +decide (disch := first | assumption | (apply GH.ok_push; assumption) | exact cellV_int _ _ | exact cellV_bool _ | omega) only [go_sem, ↓reduceIte, Nat.reduceEqDiff, Nat.reduceAdd, Int.reduceToNat, hl, hnil, hf0, hf1, hf2, hget, e1, hm1]
    have hc0 : cntW n 0 u L = 1 := rfl
    have hw := Wrote.set (o := cellsOb [.int .i64 n, .int .i64 ((M : Int) + 1), .int .i64 (-1), .slice none 0 0] 52) hget Nat.one_ne_zero ho
    intro hx0
    refine ⟨by omega, ⟨by rw [hw.next]; exact Nat.le_refl _, fun j hj hne => hw.others j hne, fun f hf => hw.fams f⟩, ?_⟩
    rw [hw.get, hc0]; rfl
  | succ m ihm =>
    intro L u M s g hLm hu hs hJ hget hM
    refine Rets.run hX.pres p49 (hX.free 49 (by decide) _ _) rfl fun ho => ?_
    have hl := hs.read.len
    rw [ints_len] at hl
    have e1 : ¬ (L.length : Int) = n := by omega
    have hget0 := hget
    unfold srchOb at hget
    have hp10 : 10 ^ (m + 1) = 10 * 10 ^ m := by rw [Nat.pow_succ]; omega
    rw [cntW_succ]
    have htb : ∀ k, termW n m u L k ≤ 10 ^ m := by
      intro k
      unfold termW
      split
      · exact cntW_le n hn m _ _
      · exact Nat.zero_le _
    simp +decide (disch := first | assumption | (apply GH.ok_push; assumption) | exact cellV_int _ _ | exact cellV_bool _ | omega) only [go_sem, ↓reduceIte, Nat.reduceEqDiff, Nat.reduceAdd, Int.reduceToNat, hl, hnil, hf0, hget, e1]
    refine Wk.loops (fun r e g' lo => J ≤ lo ∧ KeptJ g g' J ∧ ∃ k : Nat, k + r = n ∧ (ev e (.s 0) = .pointer (some ⟨J, 0, none⟩) ∧ ev e (.s 1) = s ∧ ev e (.s 2) = .int .i64 u ∧ ev e (.s 6) = .int .i64 ((k : Int) + 1)) ∧ g'.get J = srchOb n (M + sumTo (termW n m u L) k))
      (fun e g' lo => J ≤ lo ∧ KeptJ g g' J ∧ g'.get J = srchOb n (M + sumTo (termW n m u L) n)) (n := n) ?_ ?_ ?_
    · exact ⟨by omega, KeptJ.of (Kept.refl _), 0, by omega, (by simp +decide (disch := first | assumption | (apply GH.ok_push; assumption) | exact cellV_int _ _ | exact cellV_bool _ | omega) only [go_sem, ↓reduceIte, Nat.reduceEqDiff, Nat.reduceAdd, Int.reduceToNat]; first | done | exact rfl), hget0⟩
    · rintro e g' lo hog - ⟨hlo, hk, hg⟩
      simp +decide (disch := first | assumption | (apply GH.ok_push; assumption) | exact cellV_int _ _ | exact cellV_bool _ | omega) only [go_sem, ↓reduceIte, Nat.reduceEqDiff, Nat.reduceAdd, Int.reduceToNat]
      intro hx0
      exact ⟨hlo, hk, hg⟩
    · rintro r e g' lo ho' hl' ih out ⟨hlo, hk, k, hkr, he, hg⟩
      have hkn := hk.next
      have hg' := hg
      unfold srchOb at hg'
      by_cases ck : k < n
      · have hstep : sumTo (termW n m u L) (k + 1) = sumTo (termW n m u L) k + termW n m u L k := rfl
        have hsb : sumTo (termW n m u L) k + 10 ^ m ≤ 10 * 10 ^ m := by
          have h1 := sumTo_le htb k
          have h2 : (k + 1) * 10 ^ m ≤ 10 * 10 ^ m := Nat.mul_le_mul_right _ (by omega)
          rw [Nat.succ_mul] at h2
          omega
        have ek : ((k + 1 : Nat) : Int) = (k : Int) + 1 := by push_cast; rfl
        have hsr : ((u : Int).fdiv (Int.ofNat (Nat.pow 2 (min ((k + 1 : Nat) : Int).toNat 64)))).tmod 2 = ((u / 2 ^ (k + 1) % 2 : Nat) : Int) := by rw [shr_fact u (k + 1) (by omega)]; rfl
        rw [ek] at hsr
        have hown1 := NowOk.keptJ hs hk hget0
        have hlv := hown1.read.len
        have hcl := NowOk.clip hown1 (by omega)
        rw [ints_len] at hlv
        simp +decide (disch := first | assumption | (apply GH.ok_push; assumption) | exact cellV_int _ _ | exact cellV_bool _ | omega) only [go_sem, ↓reduceIte, Nat.reduceEqDiff, Nat.reduceAdd, Int.reduceToNat, he, hnil, hf0, hg', hlv, hcl]
        have hpk := (Kept.refl g').push ho' (cellsOb [Value.int .i64 ((k : Int) + 1)] 3)
        refine NowOk.app (lw := J) (hown1.kept hpk) (SlR.one ho' _ _) (by omega) hlo (by show J ≤ g'.next + 1; omega) (GH.ok_push ho') (fun s' g2 lo2 sp wr hok2 hkg2 hgo hlo2 => ?_)
        have hk2 : Kept g' g2 := hpk.trans hkg2
        have hk2n := hk2.next
        have hg2 : g2.get J = srchOb n (M + sumTo (termW n m u L) k) := by rw [hk2.gets J (by omega)]; exact hg
        have hkJ2 := hk.trans (KeptJ.of (J := J) hk2)
        by_cases c1 : u / 2 ^ (k + 1) % 2 = 0
        · rw [c1] at hsr
          simp +decide (disch := first | assumption | (apply GH.ok_push; assumption) | exact cellV_int _ _ | exact cellV_bool _ | omega) only [go_sem, ↓reduceIte, Nat.reduceEqDiff, Nat.reduceAdd, Int.reduceToNat, he, hsr]
          refine CallD.calm (refWaveG_rets hX (L ++ [(k : Int) + 1]) (by simp; omega) s' _ hgo.read) ?_
          rintro v g3 hx3 rfl
          have hn3 := hx3.next
          have hkJ3 := hkJ2.trans (KeptJ.of (J := J) hx3.kept)
          have hg3 : g3.get J = srchOb n (M + sumTo (termW n m u L) k) := by rw [hx3.kept.gets J (by omega)]; exact hg2
          cases hb : refTurnL true (L ++ [(k : Int) + 1]) with
          | false =>
            have ht : termW n m u L k = 0 := by unfold termW; rw [if_neg (fun h => by rw [hb] at h; exact absurd h.2 (by decide))]
            simp +decide (disch := first | assumption | (apply GH.ok_push; assumption) | exact cellV_int _ _ | exact cellV_bool _ | omega) only [go_sem, ↓reduceIte, Nat.reduceEqDiff, Nat.reduceAdd, Int.reduceToNat, he]
            exact ih (r - 1) _ _ _ (by omega) ⟨hlo2, hkJ3, k + 1, by omega, (by simp +decide (disch := first | assumption | (apply GH.ok_push; assumption) | exact cellV_int _ _ | exact cellV_bool _ | omega) only [go_sem, ↓reduceIte, Nat.reduceEqDiff, Nat.reduceAdd, Int.reduceToNat, he]; first | done | exact rfl), by rw [hstep, ht, Nat.add_zero]; exact hg3⟩
          | true =>
            have ht : termW n m u L k = cntW n m (u ||| 2 ^ (k + 1)) (L ++ [(k : Int) + 1]) := by unfold termW; rw [if_pos ⟨c1, hb⟩]
            have hsl := shl_fact (k + 1) (by omega)
            rw [ek] at hsl
            have hpw : 2 ^ (k + 1) ≤ 2 ^ 11 := Nat.pow_le_pow_right (by omega) (by omega)
            have hor : u ||| 2 ^ (k + 1) < 2 ^ 40 := Nat.or_lt_two_pow hu (by omega)
            have horr := or_fact hu (show 2 ^ (k + 1) < 2 ^ 40 by omega)
            have hcall := ihm (L ++ [(k : Int) + 1]) (u ||| 2 ^ (k + 1)) (M + sumTo (termW n m u L) k) s' g3 (by simp; omega) hor (hgo.kept hx3.kept) (by omega) hg3 (by omega)
            obtain ⟨w, hw⟩ : ∃ w, 2 ^ (k + 1) = w := ⟨_, rfl⟩
            rw [hw] at hsl hpw hcall horr ht
            rw [← horr] at hcall
            simp +decide (disch := first | assumption | (apply GH.ok_push; assumption) | exact cellV_int _ _ | exact cellV_bool _ | omega) only [go_sem, ↓reduceIte, Nat.reduceEqDiff, Nat.reduceAdd, Int.reduceToNat, he, hsl]
            refine CallD.call hcall ?_
            rintro v g4 lo4 hx4 ⟨hlo4, hk4, hg4⟩
            have hn4 := hk4.next
            simp +decide (disch := first | assumption | (apply GH.ok_push; assumption) | exact cellV_int _ _ | exact cellV_bool _ | omega) only [go_sem, ↓reduceIte, Nat.reduceEqDiff, Nat.reduceAdd, Int.reduceToNat, he]
            exact ih (r - 1) _ _ _ (by omega) ⟨by omega, hkJ3.trans hk4, k + 1, by omega, (by simp +decide (disch := first | assumption | (apply GH.ok_push; assumption) | exact cellV_int _ _ | exact cellV_bool _ | omega) only [go_sem, ↓reduceIte, Nat.reduceEqDiff, Nat.reduceAdd, Int.reduceToNat, he]; first | done | exact rfl), by rw [hstep, ht, ← Nat.add_assoc]; exact hg4⟩
        · have c1' : u / 2 ^ (k + 1) % 2 = 1 := by omega
          have ht : termW n m u L k = 0 := by unfold termW; rw [if_neg (fun h => c1 h.1)]
          rw [c1'] at hsr
          simp +decide (disch := first | assumption | (apply GH.ok_push; assumption) | exact cellV_int _ _ | exact cellV_bool _ | omega) only [go_sem, ↓reduceIte, Nat.reduceEqDiff, Nat.reduceAdd, Int.reduceToNat, he, hsr]
          exact ih (r - 1) _ _ _ (by omega) ⟨hlo2, hkJ2, k + 1, by omega, (by simp +decide (disch := first | assumption | (apply GH.ok_push; assumption) | exact cellV_int _ _ | exact cellV_bool _ | omega) only [go_sem, ↓reduceIte, Nat.reduceEqDiff, Nat.reduceAdd, Int.reduceToNat, he]; first | done | exact rfl), by rw [hstep, ht, Nat.add_zero]; exact hg2⟩
      · have : k = n := by omega
        subst this
        simp +decide (disch := first | assumption | (apply GH.ok_push; assumption) | exact cellV_int _ _ | exact cellV_bool _ | omega) only [go_sem, ↓reduceIte, Nat.reduceEqDiff, Nat.reduceAdd, Int.reduceToNat, he, hnil, hf0, hg']
        exact out _ _ _ ⟨hlo, hk, hg⟩
end Go.Proofs.Yteeelcmnlomgmaa
set_option maxRecDepth 100000
set_option maxHeartbeats 8000000
set_option linter.unusedSimpArgs false
set_option linter.unusedVariables false
namespace Go.Proofs.Yteeelcmnlomgmaa
open Go.Ds
theorem srch_build (n : Int) : buildF [(0, 1), (1, 1), (2, 1), (3, 1)] none #[.int .i64 0, .int .i64 0, .int .i64 0, .slice none 0 0] [(0, .int .i64 n), (2, .int .i64 (-1))] = some (.agg #[.int .i64 n, .int .i64 0, .int .i64 (-1), .slice none 0 0]) := by
  rfl
theorem refCount_rets {X : Caller} (hX : Xok X) (n : Int) (g : GH) : Rets Try.prog X 25 [.int .i64 n] g (fun v g' lo => g.next ≤ lo ∧ v = if n < 0 ∨ 10 < n then .tuple #[.int .i64 0, .int .i64 2] else .tuple #[.int .i64 (cntW n.toNat n.toNat 0 []), .int .i64 0]) := by
  refine Rets.run hX.pres p25 (hX.free 25 (by decide) _ _) rfl fun ho => ?_
  by_cases c : n < 0
  · rw [if_pos (.inl c)]
    simp +decide (disch := first | assumption | (apply GH.ok_push; assumption) | exact cellV_int _ _ | exact cellV_bool _ | omega) only [go_sem, ↓reduceIte, Nat.reduceEqDiff, Nat.reduceAdd, Int.reduceToNat]
    intro hx0
    exact ⟨Nat.le_refl _, rfl⟩
  · by_cases c2 : 10 < n
    · rw [if_pos (.inr c2)]
      simp +decide (disch := first | assumption | (apply GH.ok_push; assumption) | exact cellV_int _ _ | exact cellV_bool _ | omega) only [go_sem, ↓reduceIte, Nat.reduceEqDiff, Nat.reduceAdd, Int.reduceToNat]
      intro hx0
      exact ⟨Nat.le_refl _, rfl⟩
    · rw [if_neg (by omega)]
      obtain ⟨k, rfl⟩ : ∃ k : Nat, n = k := ⟨n.toNat, by omega⟩
      rw [Int.toNat_natCast]
      have hb := srch_build k
      simp +decide (disch := first | assumption | (apply GH.ok_push; assumption) | exact cellV_int _ _ | exact cellV_bool _ | omega) only [go_sem, ↓reduceIte, Nat.reduceEqDiff, Nat.reduceAdd, Int.reduceToNat, hb]
      obtain ⟨G, hG⟩ : ∃ G, ((g.push (cellsOb [.int .i64 0, .int .i64 0, .int .i64 0, .slice none 0 0] 52)).set g.next (cellsOb (splice 0 [.int .i64 0, .int .i64 0, .int .i64 0, .slice none 0 0] [.int .i64 (k : Int), .int .i64 0, .int .i64 (-1), .slice none 0 0]) 52)) = G := ⟨_, rfl⟩
      have hw := Wrote.set (g := g.push (cellsOb [.int .i64 0, .int .i64 0, .int .i64 0, .slice none 0 0] 52)) (j := g.next) (o := cellsOb (splice 0 [.int .i64 0, .int .i64 0, .int .i64 0, .slice none 0 0] [.int .i64 (k : Int), .int .i64 0, .int .i64 (-1), .slice none 0 0]) 52) (by rw [GH.get_push ho, if_pos rfl]) Nat.one_ne_zero (GH.ok_push ho)
      rw [hG] at hw ⊢
      have hget : G.get g.next = srchOb k 0 := hw.get
      have hnG : G.next = g.next + 1 := hw.next
      refine CallD.call (on_rets hX k (by omega) g.next k [] 0 0 _ G (by simp) (by omega) (.inl ⟨0, Own.nil⟩) (by omega) hget (by have := pow10 (m := k) (by omega); omega)) ?_
      rintro v g4 lo4 hx4 ⟨hlo4, hk4, hg4⟩
      have hn4 := hk4.next
      rw [Nat.zero_add] at hg4
      unfold srchOb at hg4
      have hf1 : faddrF 1 (ptrTo g.next) = some (.pointer (some ⟨g.next, 1, none⟩)) := by
        show some (Value.pointer (some ((⟨g.next, 0, none⟩ : Addr).add 1))) = _
        unfold Addr.add; rfl
      simp +decide (disch := first | assumption | (apply GH.ok_push; assumption) | exact cellV_int _ _ | exact cellV_bool _ | omega) only [go_sem, ↓reduceIte, Nat.reduceEqDiff, Nat.reduceAdd, Int.reduceToNat, hf1, hg4]
      intro hx0
      exact ⟨by omega, rfl⟩
theorem refFrom_rets {X : Caller} (hX : Xok X) (n f : Int) (g : GH) : Rets Try.prog X 27 [.int .i64 n, .int .i64 f] g (fun v g' lo => g.next ≤ lo ∧ v = if n < 1 ∨ 10 < n ∨ f < 1 ∨ n < f then .tuple #[.int .i64 0, .int .i64 2] else .tuple #[.int .i64 (cntW n.toNat (n.toNat - 1) (2 ^ f.toNat) [f]), .int .i64 0]) := by
  refine Rets.run hX.pres p27 (hX.free 27 (by decide) _ _) rfl fun ho => ?_
  by_cases c : n < 1
  · rw [if_pos (.inl c)]
    simp +decide (disch := first | assumption | (apply GH.ok_push; assumption) | exact cellV_int _ _ | exact cellV_bool _ | omega) only [go_sem, ↓reduceIte, Nat.reduceEqDiff, Nat.reduceAdd, Int.reduceToNat]
    intro hx0
    exact ⟨Nat.le_refl _, rfl⟩
  · by_cases c2 : 10 < n
    · rw [if_pos (.inr (.inl c2))]
      simp +decide (disch := first | assumption | (apply GH.ok_push; assumption) | exact cellV_int _ _ | exact cellV_bool _ | omega) only [go_sem, ↓reduceIte, Nat.reduceEqDiff, Nat.reduceAdd, Int.reduceToNat]
      intro hx0
      exact ⟨Nat.le_refl _, rfl⟩
    · by_cases c3 : f < 1
      · rw [if_pos (.inr (.inr (.inl c3)))]
        simp +decide (disch := first | assumption | (apply GH.ok_push; assumption) | exact cellV_int _ _ | exact cellV_bool _ | omega) only [go_sem, ↓reduceIte, Nat.reduceEqDiff, Nat.reduceAdd, Int.reduceToNat]
        intro hx0
        exact ⟨Nat.le_refl _, rfl⟩
      · by_cases c4 : n < f
        · rw [if_pos (.inr (.inr (.inr c4)))]
          simp +decide (disch := first | assumption | (apply GH.ok_push; assumption) | exact cellV_int _ _ | exact cellV_bool _ | omega) only [go_sem, ↓reduceIte, Nat.reduceEqDiff, Nat.reduceAdd, Int.reduceToNat]
          intro hx0
          exact ⟨Nat.le_refl _, rfl⟩
        · rw [if_neg (by omega)]
          obtain ⟨k, rfl⟩ : ∃ k : Nat, n = k := ⟨n.toNat, by omega⟩
          obtain ⟨a, rfl⟩ : ∃ a : Nat, f = a := ⟨f.toNat, by omega⟩
          rw [Int.toNat_natCast, Int.toNat_natCast]
          have hb := srch_build k
          have hsl := shl_fact a (by omega)
          have hpw : 2 ^ a ≤ 1024 := by have := Nat.pow_le_pow_right (n := 2) (by omega) (show a ≤ 10 by omega); exact this
          obtain ⟨w, hww⟩ : ∃ w, 2 ^ a = w := ⟨_, rfl⟩
          rw [hww] at hsl hpw ⊢
          simp +decide (disch := first | assumption | (apply GH.ok_push; assumption) | exact cellV_int _ _ | exact cellV_bool _ | omega) only [go_sem, ↓reduceIte, Nat.reduceEqDiff, Nat.reduceAdd, Int.reduceToNat, hb, hsl]
          obtain ⟨G, hG⟩ : ∃ G, ((g.push (cellsOb [.int .i64 0, .int .i64 0, .int .i64 0, .slice none 0 0] 52)).set g.next (cellsOb (splice 0 [.int .i64 0, .int .i64 0, .int .i64 0, .slice none 0 0] [.int .i64 (k : Int), .int .i64 0, .int .i64 (-1), .slice none 0 0]) 52)) = G := ⟨_, rfl⟩
          have hw := Wrote.set (g := g.push (cellsOb [.int .i64 0, .int .i64 0, .int .i64 0, .slice none 0 0] 52)) (j := g.next) (o := cellsOb (splice 0 [.int .i64 0, .int .i64 0, .int .i64 0, .slice none 0 0] [.int .i64 (k : Int), .int .i64 0, .int .i64 (-1), .slice none 0 0]) 52) (by rw [GH.get_push ho, if_pos rfl]) Nat.one_ne_zero (GH.ok_push ho)
          rw [hG] at hw ⊢
          have hnG : G.next = g.next + 1 := hw.next
          have hokG := hw.ok
          have hget : G.get g.next = srchOb k 0 := hw.get
          have hget1 : (G.push (cellsOb [.int .i64 (a : Int)] 3)).get g.next = srchOb k 0 := by rw [GH.get_push hokG, if_neg (by omega)]; exact hget
          refine CallD.call (on_rets hX k (by omega) g.next (k - 1) [(a : Int)] w 0 _ (G.push (cellsOb [.int .i64 (a : Int)] 3)) (by simp; omega) (by omega) (.inr ⟨by simp, G.next, by rw [hnG]; rfl, Nat.lt_succ_self _, by rw [GH.get_push hokG, if_pos rfl]; rfl⟩) (by show g.next < G.next + 1; omega) hget1 (by have := pow10 (m := k - 1) (by omega); omega)) ?_
          rintro v g4 lo4 hx4 ⟨hlo4, hk4, hg4⟩
          have hn4 := hk4.next
          rw [Nat.zero_add] at hg4
          unfold srchOb at hg4
          have hf1 : faddrF 1 (ptrTo g.next) = some (.pointer (some ⟨g.next, 1, none⟩)) := by
            show some (Value.pointer (some ((⟨g.next, 0, none⟩ : Addr).add 1))) = _
            unfold Addr.add; rfl
          simp +decide (disch := first | assumption | (apply GH.ok_push; assumption) | exact cellV_int _ _ | exact cellV_bool _ | omega) only [go_sem, ↓reduceIte, Nat.reduceEqDiff, Nat.reduceAdd, Int.reduceToNat, hf1, hg4]
          intro hx0
          exact ⟨by omega, rfl⟩
theorem Count_out {X : Caller} (hX : Xok1 X) (n : Int) (hn : n < 0 ∨ 10 < n) (g : GH) : Rets Try.prog X 24 [.int .i64 n] g (fun v g' lo => g.next ≤ lo ∧ v = .tuple #[.int .i64 0, .int .i64 2]) := by
  refine Rets.run hX.pres p24 (hX.none24 n hn _) rfl fun ho => ?_
  by_cases c : n < 0
  · simp +decide (disch := first | assumption | (apply GH.ok_push; assumption) | exact cellV_int _ _ | exact cellV_bool _ | omega) only [go_sem, ↓reduceIte, Nat.reduceEqDiff, Nat.reduceAdd, Int.reduceToNat]
    intro hx0
    exact ⟨Nat.le_refl _, rfl⟩
  · have c2 : 10 < n := by omega
    simp +decide (disch := first | assumption | (apply GH.ok_push; assumption) | exact cellV_int _ _ | exact cellV_bool _ | omega) only [go_sem, ↓reduceIte, Nat.reduceEqDiff, Nat.reduceAdd, Int.reduceToNat]
    intro hx0
    exact ⟨Nat.le_refl _, rfl⟩
theorem Andre_out {X : Caller} (hX : Xok1 X) (n : Int) (hn : n < 0 ∨ 10 < n) (g : GH) : Rets Try.prog X 28 [.int .i64 n] g (fun v g' lo => g.next ≤ lo ∧ v = .tuple #[.int .i64 0, .int .i64 2]) := by
  refine Rets.run hX.pres p28 (hX.none28 n hn _) rfl fun ho => ?_
  by_cases c : n < 0
  · simp +decide (disch := first | assumption | (apply GH.ok_push; assumption) | exact cellV_int _ _ | exact cellV_bool _ | omega) only [go_sem, ↓reduceIte, Nat.reduceEqDiff, Nat.reduceAdd, Int.reduceToNat]
    intro hx0
    exact ⟨Nat.le_refl _, rfl⟩
  · have c2 : 10 < n := by omega
    simp +decide (disch := first | assumption | (apply GH.ok_push; assumption) | exact cellV_int _ _ | exact cellV_bool _ | omega) only [go_sem, ↓reduceIte, Nat.reduceEqDiff, Nat.reduceAdd, Int.reduceToNat]
    intro hx0
    exact ⟨Nat.le_refl _, rfl⟩
theorem refAndre_out {X : Caller} (hX : Xok1 X) (n : Int) (hn : n < 0 ∨ 10 < n) (g : GH) : Rets Try.prog X 29 [.int .i64 n] g (fun v g' lo => g.next ≤ lo ∧ v = .tuple #[.int .i64 0, .int .i64 2]) := by
  refine Rets.run hX.pres p29 (hX.none29 n hn _) rfl fun ho => ?_
  by_cases c : n < 0
  · simp +decide (disch := first | assumption | (apply GH.ok_push; assumption) | exact cellV_int _ _ | exact cellV_bool _ | omega) only [go_sem, ↓reduceIte, Nat.reduceEqDiff, Nat.reduceAdd, Int.reduceToNat]
    intro hx0
    exact ⟨Nat.le_refl _, rfl⟩
  · have c2 : 10 < n := by omega
    simp +decide (disch := first | assumption | (apply GH.ok_push; assumption) | exact cellV_int _ _ | exact cellV_bool _ | omega) only [go_sem, ↓reduceIte, Nat.reduceEqDiff, Nat.reduceAdd, Int.reduceToNat]
    intro hx0
    exact ⟨Nat.le_refl _, rfl⟩
theorem From_out {X : Caller} (hX : Xok1 X) (n f : Int) (hn : n < 1 ∨ 10 < n ∨ f < 1 ∨ n < f) (g : GH) : Rets Try.prog X 26 [.int .i64 n, .int .i64 f] g (fun v g' lo => g.next ≤ lo ∧ v = .tuple #[.int .i64 0, .int .i64 2]) := by
  refine Rets.run hX.pres p26 (hX.none26 n f hn _) rfl fun ho => ?_
  by_cases c : n < 1
  · simp +decide (disch := first | assumption | (apply GH.ok_push; assumption) | exact cellV_int _ _ | exact cellV_bool _ | omega) only [go_sem, ↓reduceIte, Nat.reduceEqDiff, Nat.reduceAdd, Int.reduceToNat]
    intro hx0
    exact ⟨Nat.le_refl _, rfl⟩
  · by_cases c2 : 10 < n
    · simp +decide (disch := first | assumption | (apply GH.ok_push; assumption) | exact cellV_int _ _ | exact cellV_bool _ | omega) only [go_sem, ↓reduceIte, Nat.reduceEqDiff, Nat.reduceAdd, Int.reduceToNat]
      intro hx0
      exact ⟨Nat.le_refl _, rfl⟩
    · by_cases c3 : f < 1
      · simp +decide (disch := first | assumption | (apply GH.ok_push; assumption) | exact cellV_int _ _ | exact cellV_bool _ | omega) only [go_sem, ↓reduceIte, Nat.reduceEqDiff, Nat.reduceAdd, Int.reduceToNat]
        intro hx0
        exact ⟨Nat.le_refl _, rfl⟩
      · have c4 : n < f := by omega
        simp +decide (disch := first | assumption | (apply GH.ok_push; assumption) | exact cellV_int _ _ | exact cellV_bool _ | omega) only [go_sem, ↓reduceIte, Nat.reduceEqDiff, Nat.reduceAdd, Int.reduceToNat]
        intro hx0
        exact ⟨Nat.le_refl _, rfl⟩
end Go.Proofs.Yteeelcmnlomgmaa
set_option maxRecDepth 100000
set_option maxHeartbeats 8000000
set_option linter.unusedSimpArgs false
set_option linter.unusedVariables false
namespace Go.Proofs.Yteeelcmnlomgmaa
open Go.Ds
/-! ## Waves, counted fast -/
noncomputable def sumR (f : Nat → Nat) (lo c : Nat) : Nat := Nat.rec (motive := fun _ => Nat) 0 (fun c s => Nat.add s (f (Nat.add lo c))) c
theorem sumR_zero (f : Nat → Nat) (lo : Nat) : sumR f lo 0 = 0 := rfl
theorem sumR_succ (f : Nat → Nat) (lo c : Nat) : sumR f lo (c + 1) = sumR f lo c + f (lo + c) := rfl
noncomputable def goW (n : Nat) (m : Nat) : Bool → Nat → Nat → Nat :=
  Nat.rec (motive := fun _ => Bool → Nat → Nat → Nat) (fun _ _ _ => 1) (fun _ r up u l =>
    bif up then sumR (fun k => bif Nat.beq (Nat.mod (Nat.div u (Nat.pow 2 (Nat.succ k))) 2) 0 then fN (Nat.succ k) fun x => fN (Nat.lor u (Nat.pow 2 x)) fun v => r false v x else 0) l (Nat.sub n l)
    else sumR (fun k => bif Nat.beq (Nat.mod (Nat.div u (Nat.pow 2 (Nat.succ k))) 2) 0 then fN (Nat.succ k) fun x => fN (Nat.lor u (Nat.pow 2 x)) fun v => r true v x else 0) 0 (Nat.pred l)) m
theorem fN_eq {R : Type} (n : Nat) (k : Nat → R) : fN n k = k n := by cases n <;> rfl
noncomputable def gT (n m : Nat) (up : Bool) (u k : Nat) : Nat := if u / 2 ^ (k + 1) % 2 = 0 then goW n m up (u ||| 2 ^ (k + 1)) (k + 1) else 0
theorem goW_succ (n m : Nat) (up : Bool) (u l : Nat) : goW n (m + 1) up u l = if up = true then sumR (gT n m false u) l (n - l) else sumR (gT n m true u) 0 (l - 1) := by
  have key : ∀ b, (fun k => bif Nat.beq (Nat.mod (Nat.div u (Nat.pow 2 (Nat.succ k))) 2) 0 then fN (Nat.succ k) fun x => fN (Nat.lor u (Nat.pow 2 x)) fun v => goW n m b v x else 0) = gT n m b u := by
    intro b
    funext k
    unfold gT
    rw [fN_eq, fN_eq]
    by_cases c : u / 2 ^ (k + 1) % 2 = 0
    · rw [if_pos c, show Nat.beq (Nat.mod (Nat.div u (Nat.pow 2 (Nat.succ k))) 2) 0 = true from by rw [Nat.beq_eq]; exact c]; rfl
    · rw [if_neg c, show Nat.beq (Nat.mod (Nat.div u (Nat.pow 2 (Nat.succ k))) 2) 0 = false from Bool.eq_false_iff.2 (fun h => c (Nat.eq_of_beq_eq_true h))]; rfl
  rw [← key false, ← key true]
  cases up <;> rfl
theorem sumR_of (f : Nat → Nat) : ∀ c, sumTo f c = sumR f 0 c
  | 0 => rfl
  | c + 1 => by rw [sumR_succ, Nat.zero_add, ← sumR_of f c]; rfl
theorem sum_split (f : Nat → Nat) (a : Nat) : ∀ c, sumTo f (a + c) = sumTo f a + sumR f a c
  | 0 => by rw [sumR_zero]; rfl
  | c + 1 => by
    rw [sumR_succ, ← Nat.add_assoc (sumTo f a), ← sum_split f a c]; rfl
theorem sumR_congr {f h : Nat → Nat} (lo : Nat) : ∀ c, (∀ k, lo ≤ k → k < lo + c → f k = h k) → sumR f lo c = sumR h lo c
  | 0, _ => rfl
  | c + 1, k => by
    rw [sumR_succ, sumR_succ, sumR_congr lo c fun i h1 h2 => k i h1 (by omega), k (lo + c) (by omega) (by omega)]
theorem sumR_nil {f : Nat → Nat} (lo : Nat) : ∀ c, (∀ k, lo ≤ k → k < lo + c → f k = 0) → sumR f lo c = 0
  | 0, _ => rfl
  | c + 1, k => by
    rw [sumR_succ, sumR_nil lo c fun i h1 h2 => k i h1 (by omega), k (lo + c) (by omega) (by omega)]
theorem refTurnL_app : ∀ (L : List Int) (up : Bool) (l x : Int), refTurnL up (L ++ [l, x]) = (refTurnL up (L ++ [l]) && (if (if L.length % 2 = 0 then up else !up) = true then decide (l < x) else decide (x < l)))
  | [], up, l, x => by simp [refTurnL]
  | [a], up, l, x => by
    show refTurnL up [a, l, x] = (refTurnL up [a, l] && _)
    simp only [refTurnL, List.length_singleton, Bool.and_true]
    simp
  | a :: b :: L, up, l, x => by
    show ((if up = true then decide (a < b) else decide (b < a)) && refTurnL (!up) ((b :: L) ++ [l, x])) = (((if up = true then decide (a < b) else decide (b < a)) && refTurnL (!up) ((b :: L) ++ [l])) && _)
    rw [refTurnL_app (b :: L) (!up) l x, Bool.and_assoc]
    congr 3
    simp only [List.length_cons]
    by_cases c : (L.length + 1) % 2 = 0
    · rw [if_pos c, if_neg (by omega)]
    · rw [if_neg c, if_pos (by omega)]; simp
theorem cntW_goW (n : Nat) : ∀ (m : Nat) (L : List Int) (l u : Nat), refTurnL true (L ++ [(l : Int)]) = true → 1 ≤ l → l ≤ n → cntW n m u (L ++ [(l : Int)]) = goW n m (decide (L.length % 2 = 0)) u l
  | 0, L, l, u, _, _, _ => rfl
  | m + 1, L, l, u, h, h1, hn => by
    have happ : ∀ x : Int, refTurnL true (L ++ [(l : Int)] ++ [x]) = (if (if L.length % 2 = 0 then true else false) = true then decide ((l : Int) < x) else decide (x < (l : Int))) := by
      intro x
      rw [List.append_assoc]
      have := refTurnL_app L true l x
      rw [h, Bool.true_and] at this
      exact this
    have hlen : (L ++ [(l : Int)]).length = L.length + 1 := by simp
    rw [cntW_succ, goW_succ]
    by_cases c : L.length % 2 = 0
    · rw [decide_eq_true c, if_pos rfl]
      have e : n = l + (n - l) := by omega
      conv => lhs; rw [e]
      rw [sum_split]
      have hz : sumTo (termW (l + (n - l)) m u (L ++ [(l : Int)])) l = 0 := by
        rw [sumR_of]
        refine sumR_nil 0 l fun k _ hk => ?_
        unfold termW
        rw [happ, if_pos c, if_pos rfl, if_neg]
        rintro ⟨_, h2⟩
        have := of_decide_eq_true h2
        omega
      rw [hz, Nat.zero_add, ← e]
      refine sumR_congr l (n - l) fun k hk1 hk2 => ?_
      unfold termW gT
      have hx := happ ((k : Int) + 1)
      rw [if_pos c, if_pos rfl, decide_eq_true (by omega)] at hx
      by_cases cu : u / 2 ^ (k + 1) % 2 = 0
      · rw [if_pos ⟨cu, hx⟩, if_pos cu]
        have ih := cntW_goW n m (L ++ [(l : Int)]) (k + 1) (u ||| 2 ^ (k + 1)) (by push_cast; exact hx) (by omega) (by omega)
        rw [hlen, decide_eq_false (by omega)] at ih
        push_cast at ih
        exact ih
      · rw [if_neg (fun h => cu h.1), if_neg cu]
    · rw [decide_eq_false c, if_neg (show ¬ (false = true) by decide)]
      have e : n = (l - 1) + (n - (l - 1)) := by omega
      conv => lhs; rw [e]
      rw [sum_split]
      have hz : sumR (termW (l - 1 + (n - (l - 1))) m u (L ++ [(l : Int)])) (l - 1) (n - (l - 1)) = 0 := by
        refine sumR_nil _ _ fun k hk1 hk => ?_
        unfold termW
        rw [happ, if_neg c, if_neg (show ¬ (false = true) by decide), if_neg]
        rintro ⟨_, h2⟩
        have := of_decide_eq_true h2
        omega
      rw [hz, Nat.add_zero, ← e, sumR_of]
      refine sumR_congr 0 (l - 1) fun k hk1 hk2 => ?_
      unfold termW gT
      have hx := happ ((k : Int) + 1)
      rw [if_neg c, if_neg (show ¬ (false = true) by decide), decide_eq_true (by omega)] at hx
      by_cases cu : u / 2 ^ (k + 1) % 2 = 0
      · rw [if_pos ⟨cu, hx⟩, if_pos cu]
        have ih := cntW_goW n m (L ++ [(l : Int)]) (k + 1) (u ||| 2 ^ (k + 1)) (by push_cast; exact hx) (by omega) (by omega)
        rw [hlen, decide_eq_true (by omega)] at ih
        push_cast at ih
        exact ih
      · rw [if_neg (fun h => cu h.1), if_neg cu]
end Go.Proofs.Yteeelcmnlomgmaa
set_option maxRecDepth 100000
set_option maxHeartbeats 8000000
set_option linter.unusedSimpArgs false
set_option linter.unusedVariables false
namespace Go.Proofs.Yteeelcmnlomgmaa
open Go.Ds
noncomputable def fromOk (n : Nat) : Bool := (List.range n).all fun k => Nat.beq (goW n (n - 1) true (2 ^ (k + 1)) (k + 1)) (frm n (k + 1))
theorem from_ok1 : fromOk 1 = true := by kernel_rfl
theorem from_ok2 : fromOk 2 = true := by kernel_rfl
theorem from_ok3 : fromOk 3 = true := by kernel_rfl
theorem from_ok4 : fromOk 4 = true := by kernel_rfl
theorem from_ok5 : fromOk 5 = true := by kernel_rfl
theorem from_ok6 : fromOk 6 = true := by kernel_rfl
theorem from_ok7 : fromOk 7 = true := by kernel_rfl
theorem from_ok8 : fromOk 8 = true := by kernel_rfl
theorem from_ok9 : fromOk 9 = true := by kernel_rfl
theorem from_ok10 : fromOk 10 = true := by kernel_rfl
theorem cnt_from {n k : Nat} (hn : 1 ≤ n ∧ n ≤ 10) (hk : 1 ≤ k ∧ k ≤ n) : cntW n (n - 1) (2 ^ k) [(k : Int)] = frm n k := by
  have h := cntW_goW n (n - 1) [] k (2 ^ k) rfl hk.1 hk.2
  rw [List.nil_append] at h
  rw [h]
  obtain ⟨j, rfl⟩ : ∃ j, k = j + 1 := ⟨k - 1, by omega⟩
  have hf : fromOk n = true := by
    obtain rfl | rfl | rfl | rfl | rfl | rfl | rfl | rfl | rfl | rfl : n = 1 ∨ n = 2 ∨ n = 3 ∨ n = 4 ∨ n = 5 ∨ n = 6 ∨ n = 7 ∨ n = 8 ∨ n = 9 ∨ n = 10 := by omega
    all_goals first | exact from_ok1 | exact from_ok2 | exact from_ok3 | exact from_ok4 | exact from_ok5 | exact from_ok6 | exact from_ok7 | exact from_ok8 | exact from_ok9 | exact from_ok10
  unfold fromOk at hf
  exact Nat.eq_of_beq_eq_true (all_at hf (show j < n by omega))
theorem frm_sum : ∀ n, n ≤ 10 → 1 ≤ n → sumTo (fun k => frm n (k + 1)) n = zig n := by decide +kernel
theorem cnt_all {n : Nat} (hn : n ≤ 10) : cntW n n 0 [] = zig n := by
  by_cases c : n = 0
  · subst c; rfl
  · obtain ⟨m, hm⟩ : ∃ m, n = m + 1 := ⟨n - 1, by omega⟩
    have e : cntW n n 0 [] = sumTo (termW n m 0 []) n := by
      conv => lhs; rw [show cntW n n 0 [] = cntW n (m + 1) 0 [] by rw [hm]]
      rw [cntW_succ]
    rw [e, ← frm_sum n hn (by omega)]
    have key : ∀ c, c ≤ n → sumTo (termW n m 0 []) c = sumTo (fun k => frm n (k + 1)) c := by
      intro c
      induction c with
      | zero => intro _; rfl
      | succ c ih =>
        intro hc
        show sumTo (termW n m 0 []) c + termW n m 0 [] c = sumTo (fun k => frm n (k + 1)) c + frm n (c + 1)
        rw [ih (by omega)]
        congr 1
        unfold termW
        rw [if_pos ⟨by simp, rfl⟩, Nat.zero_or, ← cnt_from (n := n) (k := c + 1) (by omega) (by omega), show n - 1 = m by omega]
        rfl
    exact key n (Nat.le_refl _)
theorem countsLaw_rets {X : Caller} (hX : Xok1 X) (n f : Int) (g : GH) : Rets Try.prog X 4 [.int .i64 n, .int .i64 f] g (fun v g' lo => g.next ≤ lo ∧ v = .bool true) := by
  have e0 : ∀ a b : Value, extF (.tuple #[a, b]) 0 = some a := fun _ _ => rfl
  have e1 : ∀ a b : Value, extF (.tuple #[a, b]) 1 = some b := fun _ _ => rfl
  have hA : ∃ c d : Int, (∀ G, Rets Try.prog X 24 [.int .i64 n] G (fun v g' lo => G.next ≤ lo ∧ v = .tuple #[.int .i64 c, .int .i64 d])) ∧ (∀ G, Rets Try.prog X 25 [.int .i64 n] G (fun v g' lo => G.next ≤ lo ∧ v = .tuple #[.int .i64 c, .int .i64 d])) := by
    by_cases c : n < 0 ∨ 10 < n
    · refine ⟨0, 2, fun G => Count_out hX n c G, fun G => (refCount_rets hX.toXok n G).mono fun v g' lo _ h => ⟨h.1, by rw [h.2, if_pos c]⟩⟩
    · obtain ⟨k, rfl⟩ : ∃ k : Nat, n = k := ⟨n.toNat, by omega⟩
      refine ⟨zig k, 0, fun G => hX.count k (by omega) G, fun G => (refCount_rets hX.toXok k G).mono fun v g' lo _ h => ⟨h.1, by rw [h.2, if_neg c, Int.toNat_natCast, cnt_all (by omega)]⟩⟩
  have hB : ∃ c d : Int, (∀ G, Rets Try.prog X 26 [.int .i64 n, .int .i64 f] G (fun v g' lo => G.next ≤ lo ∧ v = .tuple #[.int .i64 c, .int .i64 d])) ∧ (∀ G, Rets Try.prog X 27 [.int .i64 n, .int .i64 f] G (fun v g' lo => G.next ≤ lo ∧ v = .tuple #[.int .i64 c, .int .i64 d])) := by
    by_cases c : n < 1 ∨ 10 < n ∨ f < 1 ∨ n < f
    · refine ⟨0, 2, fun G => From_out hX n f c G, fun G => (refFrom_rets hX.toXok n f G).mono fun v g' lo _ h => ⟨h.1, by rw [h.2, if_pos c]⟩⟩
    · obtain ⟨k, rfl⟩ : ∃ k : Nat, n = k := ⟨n.toNat, by omega⟩
      obtain ⟨a, rfl⟩ : ∃ a : Nat, f = a := ⟨f.toNat, by omega⟩
      refine ⟨frm k a, 0, fun G => hX.frm k a (by omega) (by omega) G, fun G => (refFrom_rets hX.toXok k a G).mono fun v g' lo _ h => ⟨h.1, by rw [h.2, if_neg c, Int.toNat_natCast, Int.toNat_natCast, cnt_from (by omega) (by omega)]⟩⟩
  have hC : ∃ c d : Int, (∀ G, Rets Try.prog X 28 [.int .i64 n] G (fun v g' lo => G.next ≤ lo ∧ v = .tuple #[.int .i64 c, .int .i64 d])) ∧ (∀ G, Rets Try.prog X 29 [.int .i64 n] G (fun v g' lo => G.next ≤ lo ∧ v = .tuple #[.int .i64 c, .int .i64 d])) := by
    by_cases c : n < 0 ∨ 10 < n
    · exact ⟨0, 2, fun G => Andre_out hX n c G, fun G => refAndre_out hX n c G⟩
    · obtain ⟨k, rfl⟩ : ∃ k : Nat, n = k := ⟨n.toNat, by omega⟩
      exact ⟨zig k, 0, fun G => hX.andre k (by omega) G, fun G => hX.refAndre k (by omega) G⟩
  obtain ⟨c1, d1, a1, a2⟩ := hA
  obtain ⟨c2, d2, b1, b2⟩ := hB
  obtain ⟨c3, d3, f1, f2⟩ := hC
  refine Rets.run hX.pres p4 (hX.free 4 (by decide) _ _) rfl fun ho => ?_
  simp +decide (disch := first | assumption | (apply GH.ok_push; assumption) | exact cellV_int _ _ | exact cellV_bool _ | omega) only [go_sem, ↓reduceIte, Nat.reduceEqDiff, Nat.reduceAdd, Int.reduceToNat]
  refine CallD.calm (a1 _) ?_
  rintro v G1 hx1 rfl
  have hn1 := hx1.next
  simp +decide (disch := first | assumption | (apply GH.ok_push; assumption) | exact cellV_int _ _ | exact cellV_bool _ | omega) only [go_sem, ↓reduceIte, Nat.reduceEqDiff, Nat.reduceAdd, Int.reduceToNat, e0, e1]
  refine CallD.calm (a2 _) ?_
  rintro v G2 hx2 rfl
  have hn2 := hx2.next
  simp +decide (disch := first | assumption | (apply GH.ok_push; assumption) | exact cellV_int _ _ | exact cellV_bool _ | omega) only [go_sem, ↓reduceIte, Nat.reduceEqDiff, Nat.reduceAdd, Int.reduceToNat, e0, e1]
  refine CallD.calm (b1 _) ?_
  rintro v G3 hx3 rfl
  have hn3 := hx3.next
  simp +decide (disch := first | assumption | (apply GH.ok_push; assumption) | exact cellV_int _ _ | exact cellV_bool _ | omega) only [go_sem, ↓reduceIte, Nat.reduceEqDiff, Nat.reduceAdd, Int.reduceToNat, e0, e1]
  refine CallD.calm (b2 _) ?_
  rintro v G4 hx4 rfl
  have hn4 := hx4.next
  simp +decide (disch := first | assumption | (apply GH.ok_push; assumption) | exact cellV_int _ _ | exact cellV_bool _ | omega) only [go_sem, ↓reduceIte, Nat.reduceEqDiff, Nat.reduceAdd, Int.reduceToNat, e0, e1]
  refine CallD.calm (f1 _) ?_
  rintro v G5 hx5 rfl
  have hn5 := hx5.next
  simp +decide (disch := first | assumption | (apply GH.ok_push; assumption) | exact cellV_int _ _ | exact cellV_bool _ | omega) only [go_sem, ↓reduceIte, Nat.reduceEqDiff, Nat.reduceAdd, Int.reduceToNat, e0, e1]
  refine CallD.calm (f2 _) ?_
  rintro v G6 hx6 rfl
  have hn6 := hx6.next
  simp +decide (disch := first | assumption | (apply GH.ok_push; assumption) | exact cellV_int _ _ | exact cellV_bool _ | omega) only [go_sem, ↓reduceIte, Nat.reduceEqDiff, Nat.reduceAdd, Int.reduceToNat, e0, e1]
  refine CallD.calm (hX.alive _) ?_
  rintro v G7 hx7 rfl
  simp +decide (disch := first | assumption | (apply GH.ok_push; assumption) | exact cellV_int _ _ | exact cellV_bool _ | omega) only [go_sem, ↓reduceIte, Nat.reduceEqDiff, Nat.reduceAdd, Int.reduceToNat]
  intro hx0
  exact ⟨Nat.le_refl _, rfl⟩
end Go.Proofs.Yteeelcmnlomgmaa
