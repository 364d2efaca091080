import Derived.Test.YtieliilnnfjijaaK6
import Derived.Test.YtieliilnnfjijaaKd
import Derived.Test.YtieliilnnfjijaaDtO
set_option linter.all false
set_option linter.unusedSimpArgs false
set_option linter.unnecessarySimpa false
set_option linter.unusedVariables false
set_option linter.unusedSectionVars false
set_option maxRecDepth 100000
set_option maxHeartbeats 8000000
set_option linter.unusedSimpArgs false
set_option linter.unusedVariables false
namespace Go.Proofs.Ytieliilnnfjijaa
open Go.Ds
/-! ## All shapes with a number of blocks -/
def shp : Nat → Nat → Nat → List (List Int)
  | 0, b, _ => if b = 0 then [[]] else []
  | r + 1, b, l => if b = 0 then [[]] else (List.range (min b l)).flatMap fun k => (shp r (b - (k + 1)) (k + 1)).map (((k : Int) + 1) :: ·)
def shpK (r b k : Nat) : List (List Int) := (List.range k).flatMap fun j => (shp r (b - (j + 1)) (j + 1)).map (((j : Int) + 1) :: ·)
theorem shpK_succ (r b k : Nat) : shpK r b (k + 1) = shpK r b k ++ (shp r (b - (k + 1)) (k + 1)).map (((k : Int) + 1) :: ·) := by
  unfold shpK
  rw [List.range_succ, List.flatMap_append]; simp
theorem shp_zero (r l : Nat) : shp r 0 l = [[]] := by cases r <;> rfl
theorem shp_succ {r b l : Nat} (h : b ≠ 0) : shp (r + 1) b l = shpK r b (min b l) := by rw [shp, if_neg h]; rfl
theorem shp_len : ∀ (r b l : Nat), (shp r b l).length ≤ 2 ^ b
  | 0, b, l => by
    unfold shp
    have := Nat.one_le_two_pow (n := b)
    split <;> simp; omega
  | r + 1, b, l => by
    by_cases hb : b = 0
    · subst hb; rw [shp_zero]; simp
    · rw [shp_succ hb]
      have key : ∀ k, k ≤ b → (shpK r b k).length + 2 ^ (b - k) ≤ 2 ^ b := by
        intro k
        induction k with
        | zero => intro _; simp [shpK]
        | succ k ih =>
          intro hk
          have h1 := ih (by omega)
          have h2 := shp_len r (b - (k + 1)) (k + 1)
          have h3 : 2 ^ (b - k) = 2 * 2 ^ (b - (k + 1)) := by
            rw [show b - k = (b - (k + 1)) + 1 by omega, Nat.pow_succ]; omega
          rw [shpK_succ, List.length_append, List.length_map]
          omega
      exact Nat.le_trans (Nat.le_add_right _ _) (key (min b l) (by omega))
theorem shpK_len (r b k : Nat) (hk : k ≤ b) : (shpK r b k).length ≤ 2 ^ b := by
  by_cases hb : b = 0
  · subst hb
    have : k = 0 := by omega
    subst this; simp [shpK]
  · have := shp_len (r + 1) b k
    rw [shp_succ hb, Nat.min_eq_right hk] at this
    exact this
theorem shp_mem : ∀ (r b l : Nat) {L : List Int}, L ∈ shp r b l → desc l L = true ∧ sumL L = b ∧ L.length ≤ r
  | 0, b, l, L, h => by
    unfold shp at h
    split at h
    · rename_i hb
      simp at h; subst h; subst hb; exact ⟨rfl, rfl, Nat.le_refl _⟩
    · cases h
  | r + 1, b, l, L, h => by
    by_cases hb : b = 0
    · subst hb
      rw [shp_zero] at h
      simp at h; subst h; exact ⟨rfl, rfl, Nat.zero_le _⟩
    · rw [shp_succ hb] at h
      unfold shpK at h
      rw [List.mem_flatMap] at h
      obtain ⟨k, hk, h⟩ := h
      rw [List.mem_range] at hk
      rw [List.mem_map] at h
      obtain ⟨M, hM, rfl⟩ := h
      obtain ⟨a1, a2, a3⟩ := shp_mem r (b - (k + 1)) (k + 1) hM
      refine ⟨?_, ?_, by simp; omega⟩
      · simp only [desc, Bool.and_eq_true, decide_eq_true_eq]
        refine ⟨⟨by omega, by omega⟩, ?_⟩
        push_cast at a1; exact a1
      · simp only [sumL, a2]; omega
theorem shp_nodup : ∀ (r b l : Nat), (shp r b l).Nodup
  | 0, b, l => by unfold shp; split <;> simp
  | r + 1, b, l => by
    by_cases hb : b = 0
    · subst hb; rw [shp_zero]; simp
    · rw [shp_succ hb]
      have hd : ∀ (k : Nat) (L : List Int), L ∈ shpK r b k → ∃ j : Nat, j < k ∧ L.head? = some ((j : Int) + 1) := by
        intro k L h
        unfold shpK at h
        rw [List.mem_flatMap] at h
        obtain ⟨j, hj, h⟩ := h
        rw [List.mem_range] at hj
        rw [List.mem_map] at h
        obtain ⟨M, hM, rfl⟩ := h
        exact ⟨j, hj, rfl⟩
      have key : ∀ k, (shpK r b k).Nodup := by
        intro k
        induction k with
        | zero => exact List.nodup_nil
        | succ k ih =>
          rw [shpK_succ, List.nodup_append]
          refine ⟨ih, ?_, ?_⟩
          · rw [List.nodup_iff_pairwise_ne, List.pairwise_map]
            refine (shp_nodup r (b - (k + 1)) (k + 1)).imp ?_
            intro x y hxy e
            exact hxy (List.cons.inj e).2
          · intro x hx y hy e
            obtain ⟨j, hj, h1⟩ := hd k x hx
            rw [List.mem_map] at hy
            obtain ⟨M, _, rfl⟩ := hy
            subst e
            simp at h1; omega
      exact key _
theorem shapes_rets66 {X : Caller} (hX : Xok X) : ∀ (r b l : Nat), b ≤ 20 → l ≤ 20 → r ≤ 12 → ∀ g : GH,
    Rets Try.prog X 66 [.int .i64 b, .int .i64 l, .int .i64 r] g (fun v g' lo => g.next ≤ lo ∧ Sl2 g' v (shp r b l)) := by
  intro r
  induction r with
  | zero =>
    intro b l hb hl hr g
    refine Rets.run hX.pres p66 (hX.free 66 (by decide) _ _) rfl fun ho => ?_
    have hcz : cellV (.slice none 0 0) = true := rfl
    by_cases c : b = 0
    · subst c
      simp +decide (disch := first | assumption | (apply GH.ok_push; assumption) | exact cellV_int _ _ | exact cellV_bool _ | omega) only [go_sem, ↓reduceIte, Nat.reduceEqDiff, Nat.reduceAdd, Int.reduceToNat, hcz]
      intro hx
      refine ⟨Nat.le_refl _, ?_⟩
      rw [shp_zero]
      exact ⟨[.slice none 0 0], SlR.one ho _ _, rfl, fun i v L h1 h2 => by
        have : i = 0 := by have := (List.getElem?_eq_some_iff.1 h1).1; simp at this; omega
        subst this
        simp at h1 h2
        subst h1; subst h2; exact SlR.nil⟩
    · simp +decide (disch := first | assumption | (apply GH.ok_push; assumption) | exact cellV_int _ _ | exact cellV_bool _ | omega) only [go_sem, ↓reduceIte, Nat.reduceEqDiff, Nat.reduceAdd, Int.reduceToNat]
      intro hx
      refine ⟨Nat.le_refl _, ?_⟩
      rw [shp, if_neg c]
      exact Sl2.nil
  | succ r ihr =>
    intro b l hb hl hr g
    refine Rets.run hX.pres p66 (hX.free 66 (by decide) _ _) rfl fun ho => ?_
    have hcz : cellV (.slice none 0 0) = true := rfl
    by_cases c : b = 0
    · subst c
      simp +decide (disch := first | assumption | (apply GH.ok_push; assumption) | exact cellV_int _ _ | exact cellV_bool _ | omega) only [go_sem, ↓reduceIte, Nat.reduceEqDiff, Nat.reduceAdd, Int.reduceToNat, hcz]
      intro hx
      refine ⟨Nat.le_refl _, ?_⟩
      rw [shp_zero]
      exact ⟨[.slice none 0 0], SlR.one ho _ _, rfl, fun i v L h1 h2 => by
        have : i = 0 := by have := (List.getElem?_eq_some_iff.1 h1).1; simp at this; omega
        subst this
        simp at h1 h2
        subst h1; subst h2; exact SlR.nil⟩
    · have hp2 : 2 ^ b ≤ 2 ^ 20 := Nat.pow_le_pow_right (by decide) hb
      have hp20 : 2 ^ 20 = 1048576 := by decide
      have hr0 : ¬ ((r + 1 : Nat) : Int) = 0 := by omega
      simp +decide (disch := first | assumption | (apply GH.ok_push; assumption) | exact cellV_int _ _ | exact cellV_bool _ | omega) only [go_sem, ↓reduceIte, Nat.reduceEqDiff, Nat.reduceAdd, Int.reduceToNat, hr0]
      refine Wk.loops (fun m e g' lo => g.next ≤ lo ∧ Kept g g' ∧ ∃ k : Nat, k + m = min b l ∧ (ev e (.s 0) = .int .i64 b ∧ ev e (.s 1) = .int .i64 l ∧ ev e (.s 2) = .int .i64 ((r + 1 : Nat) : Int) ∧ ev e (.s 8) = .int .i64 ((k : Int) + 1)) ∧ ∃ o, ev e (.s 7) = o ∧ Own2 g' o (shpK r b k) g.next)
        (fun e g' lo => g.next ≤ lo ∧ ∃ o, ev e (.s 7) = o ∧ Sl2 g' o (shp (r + 1) b l)) (n := min b l) ?_ ?_ ?_
      · exact ⟨Nat.le_refl _, Kept.refl _, 0, by omega, (by simp +decide (disch := first | assumption | (apply GH.ok_push; assumption) | exact cellV_int _ _ | exact cellV_bool _ | omega) only [go_sem, ↓reduceIte, Nat.reduceEqDiff, Nat.reduceAdd, Int.reduceToNat]; first | done | exact rfl), .slice none 0 0, (by simp +decide (disch := first | assumption | (apply GH.ok_push; assumption) | exact cellV_int _ _ | exact cellV_bool _ | omega) only [go_sem, ↓reduceIte, Nat.reduceEqDiff, Nat.reduceAdd, Int.reduceToNat]; first | done | exact rfl), Own2.nil⟩
      · rintro e g' lo - - ⟨hlo, o, h7, hsl⟩
        simp +decide (disch := first | assumption | (apply GH.ok_push; assumption) | exact cellV_int _ _ | exact cellV_bool _ | omega) only [go_sem, ↓reduceIte, Nat.reduceEqDiff, Nat.reduceAdd, Int.reduceToNat, h7]
        exact fun hx => ⟨hlo, hsl⟩
      · rintro m e g' lo ho' hl' ih out ⟨hlo, hk, k, hkm, he, o, h7, hown⟩
        have hgn := hk.next
        by_cases ck : k < min b l
        · have eb : (b : Int) - ((k : Int) + 1) = ((b - (k + 1) : Nat) : Int) := by omega
          have ek : (k : Int) + 1 = ((k + 1 : Nat) : Int) := by push_cast; rfl
          have er : (r : Int) + 1 - 1 = (r : Int) := by omega
          have hmn : mnF (.int .i64 (b : Int)) (.int .i64 (l : Int)) = some (.int .i64 ((min b l : Nat) : Int)) := by
            simp only [mnF]
            rw [lt_i]
            by_cases q : (l : Int) < b
            · rw [decide_eq_true q, Nat.min_eq_right (by omega)]; rfl
            · rw [decide_eq_false q, Nat.min_eq_left (by omega)]; rfl
          have hrec := ihr (b - (k + 1)) (k + 1) (by omega) (by omega) (by omega) g'
          rw [← eb, ← ek] at hrec
          simp +decide (disch := first | assumption | (apply GH.ok_push; assumption) | exact cellV_int _ _ | exact cellV_bool _ | omega) only [go_sem, ↓reduceIte, Nat.reduceEqDiff, Nat.reduceAdd, Int.reduceToNat, he, hmn, er]
          refine CallD.calm hrec ?_
          rintro v G hx hv
          have hn := hx.next
          have hkG := hk.ext hx
          have hownG := hown.kept hx.kept
          have hlv := hv.len
          have hsl := shp_len r (b - (k + 1)) (k + 1)
          have hp3 : 2 ^ (b - (k + 1)) ≤ 2 ^ 20 := Nat.pow_le_pow_right (by decide) (by omega)
          have hkl := shpK_len r b k (by omega)
          have hsucc := shpK_succ r b k
          obtain ⟨S, hS⟩ : ∃ S, shp r (b - (k + 1)) (k + 1) = S := ⟨_, rfl⟩
          have hSm : ∀ M ∈ S, M.length ≤ 12 := fun M hM => by
            rw [← hS] at hM
            have := (shp_mem _ _ _ hM).2.2; omega
          rw [hS] at hv hlv hsl hsucc
          simp +decide (disch := first | assumption | (apply GH.ok_push; assumption) | exact cellV_int _ _ | exact cellV_bool _ | omega) only [go_sem, ↓reduceIte, Nat.reduceEqDiff, Nat.reduceAdd, Int.reduceToNat, he, hlv]
          refine Wk.loops (fun m e g2 lo2 => g.next ≤ lo2 ∧ Kept g g2 ∧ Keeps G g2 ∧ ∃ c : Nat, c + m = S.length ∧ (ev e (.s 0) = .int .i64 b ∧ ev e (.s 1) = .int .i64 l ∧ ev e (.s 2) = .int .i64 ((r + 1 : Nat) : Int) ∧ ev e (.s 8) = .int .i64 ((k : Int) + 1) ∧ ev e (.s 29) = v ∧ ev e (.s 30) = .int .i64 S.length ∧ ev e (.s 31) = .int .i64 c) ∧ ∃ o, ev e (.s 7) = o ∧ Own2 g2 o (shpK r b k ++ (S.take c).map (((k : Int) + 1) :: ·)) g.next)
            (fun e g2 lo2 => g.next ≤ lo2 ∧ Kept g g2 ∧ (ev e (.s 0) = .int .i64 b ∧ ev e (.s 1) = .int .i64 l ∧ ev e (.s 2) = .int .i64 ((r + 1 : Nat) : Int) ∧ ev e (.s 8) = .int .i64 ((k : Int) + 1)) ∧ ∃ o, ev e (.s 7) = o ∧ Own2 g2 o (shpK r b (k + 1)) g.next) (n := S.length) ?_ ?_ ?_
          · exact ⟨hlo, hkG, Keeps.refl _, 0, by omega, (by simp +decide (disch := first | assumption | (apply GH.ok_push; assumption) | exact cellV_int _ _ | exact cellV_bool _ | omega) only [go_sem, ↓reduceIte, Nat.reduceEqDiff, Nat.reduceAdd, Int.reduceToNat, he]; first | done | exact rfl), o, (by simp +decide (disch := first | assumption | (apply GH.ok_push; assumption) | exact cellV_int _ _ | exact cellV_bool _ | omega) only [go_sem, ↓reduceIte, Nat.reduceEqDiff, Nat.reduceAdd, Int.reduceToNat, h7]; first | done | exact rfl), by simpa using hownG⟩
          · rintro e g2 lo2 - - ⟨hlo2, hk2, he, o, h7, hown⟩
            simp +decide (disch := first | assumption | (apply GH.ok_push; assumption) | exact cellV_int _ _ | exact cellV_bool _ | omega) only [go_sem, ↓reduceIte, Nat.reduceEqDiff, Nat.reduceAdd, Int.reduceToNat, he]
            refine ih (m - 1) _ _ _ (by omega) ⟨hlo2, hk2, k + 1, by omega, ?_, o, (by simp +decide (disch := first | assumption | (apply GH.ok_push; assumption) | exact cellV_int _ _ | exact cellV_bool _ | omega) only [go_sem, ↓reduceIte, Nat.reduceEqDiff, Nat.reduceAdd, Int.reduceToNat, h7]; first | done | exact rfl), hown⟩
            exact (by simp +decide (disch := first | assumption | (apply GH.ok_push; assumption) | exact cellV_int _ _ | exact cellV_bool _ | omega) only [go_sem, ↓reduceIte, Nat.reduceEqDiff, Nat.reduceAdd, Int.reduceToNat, he]; first | done | exact rfl)
          · rintro m2 e g2 lo2 ho2 hl2 ih2 out2 ⟨hlo2, hk2, hks, c, hc, he, o, h7, hown⟩
            have hgn2 := hk2.next
            by_cases cc : c < S.length
            · obtain ⟨vs0, w1, w2, w3⟩ := hv
              have hvc := List.getElem?_eq_getElem (show c < vs0.length by omega)
              obtain ⟨u, hu⟩ : ∃ u, vs0[c]'(by omega) = u := ⟨_, rfl⟩
              rw [hu] at hvc
              obtain ⟨q, hq1, hq2⟩ := (w1.keeps hks).at hvc
              have hq1 := hq1 (c : Int) rfl
              have hSc := List.getElem?_eq_getElem cc
              have hur := (w3 c u _ hvc hSc).keeps hks
              have hMl := hSm _ (List.getElem_mem cc)
              obtain ⟨M, hM⟩ : ∃ M, S[c] = M := ⟨_, rfl⟩
              rw [hM] at hur hMl hSc
              have htk := take_snoc' S c M hSc
              simp +decide (disch := first | assumption | (apply GH.ok_push; assumption) | exact cellV_int _ _ | exact cellV_bool _ | omega) only [go_sem, ↓reduceIte, Nat.reduceEqDiff, Nat.reduceAdd, Int.reduceToNat, he, h7, hq1, hq2]
              refine AppD.copy (vs := [.int .i64 ((k : Int) + 1)]) (new := ints M) (j := g2.next) (cells := [.int .i64 ((k : Int) + 1)]) (t' := 3) (by rw [GH.get_push ho2, if_pos rfl]) rfl (Nat.le_refl _) (Nat.lt_succ_self _) (hur.push ho2 _) (by rw [ints_len]; simp; omega) (GH.ok_push ho2) ?_
              intro x G1 sp wr hk1 hok1 hx1
              have hk1' := ((Kept.refl g2).push ho2 (cellsOb [Value.int .i64 ((k : Int) + 1)] 3)).trans hk1
              have hn1 := hk1'.next
              have hcell := hx1.cell
              have hxe : [Value.int .i64 ((k : Int) + 1)] ++ ints M = ints (((k : Int) + 1) :: M) := rfl
              rw [hxe] at hx1
              simp +decide (disch := first | assumption | (apply GH.ok_push; assumption) | exact cellV_int _ _ | exact cellV_bool _ | omega) only [go_sem, ↓reduceIte, Nat.reduceEqDiff, Nat.reduceAdd, Int.reduceToNat, he, h7, hcell]
              have hkp := hk1'.push hok1 (cellsOb [x] 22)
              obtain ⟨vs, q1, q2, q3⟩ := hown.kept hkp
              have hvl : vs.length ≤ 3 * 2 ^ 20 := by rw [q2, List.length_append, List.length_map, List.length_take]; omega
              refine AppD.own2 (lw := g.next) q1 (SlR.one hok1 _ _) (by simp) (by simp [hcell]) (by simp; omega) (by simp [GH.push]; omega) hlo2 (Nat.le_refl _) (GH.ok_push hok1) (fun s' g3 lo3 sp wr hgr hlo3 => ?_)
              simp +decide (disch := first | assumption | (apply GH.ok_push; assumption) | exact cellV_int _ _ | exact cellV_bool _ | omega) only [go_sem, ↓reduceIte, Nat.reduceEqDiff, Nat.reduceAdd, Int.reduceToNat, he]
              refine ih2 (m2 - 1) _ _ _ (by omega) ⟨hlo3, (hk2.trans hkp).grew2 hgr (Nat.le_refl _), (hks.trans hkp.keeps).grew hgr, c + 1, by omega, (by simp +decide (disch := first | assumption | (apply GH.ok_push; assumption) | exact cellV_int _ _ | exact cellV_bool _ | omega) only [go_sem, ↓reduceIte, Nat.reduceEqDiff, Nat.reduceAdd, Int.reduceToNat, he]; first | done | exact rfl), s', (by simp +decide (disch := first | assumption | (apply GH.ok_push; assumption) | exact cellV_int _ _ | exact cellV_bool _ | omega) only [go_sem, ↓reduceIte, Nat.reduceEqDiff, Nat.reduceAdd, Int.reduceToNat]; first | done | exact rfl), ?_⟩
              rw [htk, List.map_append, ← List.append_assoc]
              exact Own2.grew q2 q3 (hx1.push hok1 _) hgr
            · rw [List.take_of_length_le (by omega), ← hsucc] at hown
              simp +decide (disch := first | assumption | (apply GH.ok_push; assumption) | exact cellV_int _ _ | exact cellV_bool _ | omega) only [go_sem, ↓reduceIte, Nat.reduceEqDiff, Nat.reduceAdd, Int.reduceToNat, he]
              exact out2 _ _ _ ⟨hlo2, hk2, (by simp +decide (disch := first | assumption | (apply GH.ok_push; assumption) | exact cellV_int _ _ | exact cellV_bool _ | omega) only [go_sem, ↓reduceIte, Nat.reduceEqDiff, Nat.reduceAdd, Int.reduceToNat, he]; first | done | exact rfl), o, (by simp +decide (disch := first | assumption | (apply GH.ok_push; assumption) | exact cellV_int _ _ | exact cellV_bool _ | omega) only [go_sem, ↓reduceIte, Nat.reduceEqDiff, Nat.reduceAdd, Int.reduceToNat, h7]; first | done | exact rfl), hown⟩
        · have hmn : mnF (.int .i64 (b : Int)) (.int .i64 (l : Int)) = some (.int .i64 ((min b l : Nat) : Int)) := by
            simp only [mnF]
            rw [lt_i]
            by_cases q : (l : Int) < b
            · rw [decide_eq_true q, Nat.min_eq_right (by omega)]; rfl
            · rw [decide_eq_false q, Nat.min_eq_left (by omega)]; rfl
          simp +decide (disch := first | assumption | (apply GH.ok_push; assumption) | exact cellV_int _ _ | exact cellV_bool _ | omega) only [go_sem, ↓reduceIte, Nat.reduceEqDiff, Nat.reduceAdd, Int.reduceToNat, he, hmn]
          refine out _ _ _ ⟨hlo, o, (by simp +decide (disch := first | assumption | (apply GH.ok_push; assumption) | exact cellV_int _ _ | exact cellV_bool _ | omega) only [go_sem, ↓reduceIte, Nat.reduceEqDiff, Nat.reduceAdd, Int.reduceToNat, h7]; first | done | exact rfl), ?_⟩
          rw [shp_succ c, ← show k = min b l by omega]
          exact hown.read
end Go.Proofs.Ytieliilnnfjijaa
set_option maxRecDepth 100000
set_option maxHeartbeats 8000000
set_option linter.unusedSimpArgs false
set_option linter.unusedVariables false
namespace Go.Proofs.Ytieliilnnfjijaa
open Go.Ds
def triN (k : Nat) : Nat := k * (k + 1) / 2
def stairs (k : Nat) : List Int := rng k (fun i => (k : Int) - i)
/-- The cores with n blocks. -/
def coresF (n T : Nat) : List (List Int) := (shp 12 n n).filter fun L => decide (manyM L T = 0)
def chkS (n : Nat) : Bool := (List.range 8).all fun k => !(decide (n ≤ triN k) && (decide (k = 0) || decide (triN (k - 1) < n))) || decide (coresF n 2 = if triN k = n then [stairs k] else [])
theorem chkS0 : chkS 0 = true := by decide +kernel
theorem chkS1 : chkS 1 = true := by decide +kernel
theorem chkS2 : chkS 2 = true := by decide +kernel
theorem chkS3 : chkS 3 = true := by decide +kernel
theorem chkS4 : chkS 4 = true := by decide +kernel
theorem chkS5 : chkS 5 = true := by decide +kernel
theorem chkS6 : chkS 6 = true := by decide +kernel
theorem chkS7 : chkS 7 = true := by decide +kernel
theorem chkS8 : chkS 8 = true := by decide +kernel
theorem chkS9 : chkS 9 = true := by decide +kernel
theorem chkS10 : chkS 10 = true := by decide +kernel
theorem chkS11 : chkS 11 = true := by decide +kernel
theorem chkS12 : chkS 12 = true := by decide +kernel
theorem chkS13 : chkS 13 = true := by decide +kernel
theorem chkS14 : chkS 14 = true := by decide +kernel
theorem chkS15 : chkS 15 = true := by decide +kernel
theorem chkS16 : chkS 16 = true := by decide +kernel
theorem chkS17 : chkS 17 = true := by decide +kernel
theorem chkS18 : chkS 18 = true := by decide +kernel
theorem chkS19 : chkS 19 = true := by decide +kernel
theorem chkS20 : chkS 20 = true := by decide +kernel
theorem chkS_all (n : Nat) (hn : n ≤ 20) : chkS n = true := by
  match n, hn with
  | 0, _ => exact chkS0
  | 1, _ => exact chkS1
  | 2, _ => exact chkS2
  | 3, _ => exact chkS3
  | 4, _ => exact chkS4
  | 5, _ => exact chkS5
  | 6, _ => exact chkS6
  | 7, _ => exact chkS7
  | 8, _ => exact chkS8
  | 9, _ => exact chkS9
  | 10, _ => exact chkS10
  | 11, _ => exact chkS11
  | 12, _ => exact chkS12
  | 13, _ => exact chkS13
  | 14, _ => exact chkS14
  | 15, _ => exact chkS15
  | 16, _ => exact chkS16
  | 17, _ => exact chkS17
  | 18, _ => exact chkS18
  | 19, _ => exact chkS19
  | 20, _ => exact chkS20
  | n + 21, h => exact absurd h (by omega)
theorem stairs_of {n k : Nat} (hn : n ≤ 20) (hk : k < 8) (h1 : n ≤ triN k) (h2 : k = 0 ∨ triN (k - 1) < n) : coresF n 2 = if triN k = n then [stairs k] else [] := by
  have := List.all_eq_true.1 (chkS_all n hn) k (List.mem_range.2 hk)
  rw [decide_eq_true h1] at this
  have h3 : (decide (k = 0) || decide (triN (k - 1) < n)) = true := by
    rcases h2 with h | h
    · rw [decide_eq_true h]; rfl
    · rw [decide_eq_true h]; simp
  rw [h3] at this
  simpa using this
theorem coresF_len (n T : Nat) : (coresF n T).length ≤ 2 ^ n := Nat.le_trans (List.length_filter_le _ _) (shp_len 12 n n)
theorem shp_isShape {n : Nat} (hn : n ≤ 20) {L : List Int} (h : L ∈ shp 12 n n) : isShape L = true ∧ sumL L = n := by
  obtain ⟨a, b, c⟩ := shp_mem 12 n n h
  have a40 := desc_mono (m' := 40) a fun x hx => by have := (desc_le a x hx).2; omega
  refine ⟨?_, b⟩
  unfold isShape
  rw [a40, decide_eq_true c, decide_eq_true (show sumL L ≤ 40 by omega)]; rfl
theorem coresF_mem {n T : Nat} (hn : n ≤ 20) {L : List Int} (h : L ∈ coresF n T) : isShape L = true ∧ sumL L = n ∧ manyM L T = 0 := by
  unfold coresF at h
  rw [List.mem_filter, decide_eq_true_eq] at h
  obtain ⟨a, b⟩ := shp_isShape hn h.1
  exact ⟨a, b, h.2⟩
theorem coresF_nodup (n T : Nat) : (coresF n T).Nodup := (shp_nodup 12 n n).filter _
def coresT (n t : Int) : List (List Int) × Int := if 0 ≤ n ∧ n ≤ 20 ∧ isWires t = true then (coresF n.toNat t.toNat, 0) else ([], 2)
theorem filter_snoc {S : List (List Int)} {i : Nat} {M : List Int} (h : S[i]? = some M) (p : List Int → Bool) : (S.take (i + 1)).filter p = (S.take i).filter p ++ (if p M = true then [M] else []) := by
  rw [take_snoc' S i M h, List.filter_append]
  congr 1
  simp only [List.filter_cons, List.filter_nil]
theorem coresT_rets {X : Caller} (hX : Xok X) (n t : Int) (g : GH) : Rets Try.prog X 37 [.int .i64 n, .int .i64 t] g (fun v g' lo => g.next ≤ lo ∧ Ret2 g' v (coresT n t)) := by
  refine Rets.run hX.pres p37 (hX.free 37 (by decide) _ _) rfl fun ho => ?_
  have bad : ¬ (0 ≤ n ∧ n ≤ 20 ∧ isWires t = true) → coresT n t = ([], 2) := fun h => by rw [coresT, if_neg h]
  by_cases c1 : n < 0
  · have hb := bad (fun h => by omega)
    simp +decide (disch := first | assumption | (apply GH.ok_push; assumption) | exact cellV_int _ _ | exact cellV_bool _ | omega) only [go_sem, ↓reduceIte, Nat.reduceEqDiff, Nat.reduceAdd, Int.reduceToNat]
    intro hx0
    exact ⟨Nat.le_refl _, _, by rw [hb], by rw [hb]; exact Sl2.nil⟩
  by_cases c2 : 20 < n
  · have hb := bad (fun h => by omega)
    simp +decide (disch := first | assumption | (apply GH.ok_push; assumption) | exact cellV_int _ _ | exact cellV_bool _ | omega) only [go_sem, ↓reduceIte, Nat.reduceEqDiff, Nat.reduceAdd, Int.reduceToNat]
    intro hx0
    exact ⟨Nat.le_refl _, _, by rw [hb], by rw [hb]; exact Sl2.nil⟩
  simp +decide (disch := first | assumption | (apply GH.ok_push; assumption) | exact cellV_int _ _ | exact cellV_bool _ | omega) only [go_sem, ↓reduceIte, Nat.reduceEqDiff, Nat.reduceAdd, Int.reduceToNat]
  refine CallD.calm (wires_rets hX t g) ?_
  rintro v G hx rfl
  have hn := hx.next
  have hoG := hx.ok ho
  by_cases d : isWires t = true
  case neg =>
    have d' : isWires t = false := by simpa using d
    have hb := bad (fun h => d h.2.2)
    simp +decide (disch := first | assumption | (apply GH.ok_push; assumption) | exact cellV_int _ _ | exact cellV_bool _ | omega) only [go_sem, ↓reduceIte, Nat.reduceEqDiff, Nat.reduceAdd, Int.reduceToNat, d']
    intro hx0
    exact ⟨by omega, _, by rw [hb], by rw [hb]; exact Sl2.nil⟩
  obtain ⟨T, hT1, hT2, hT⟩ := wires_nat d
  obtain ⟨N, rfl⟩ := Int.eq_ofNat_of_zero_le (show 0 ≤ n by omega)
  have hC : coresT (N : Int) t = (coresF N T, 0) := by rw [coresT, if_pos ⟨by omega, by omega, d⟩, hT2]; rfl
  have hN : N ≤ 20 := by omega
  have h12 : (12 : Int) = ((12 : Nat) : Int) := rfl
  have hsh := shapes_rets66 hX 12 N N hN hN (Nat.le_refl _) G
  rw [← h12] at hsh
  simp +decide (disch := first | assumption | (apply GH.ok_push; assumption) | exact cellV_int _ _ | exact cellV_bool _ | omega) only [go_sem, ↓reduceIte, Nat.reduceEqDiff, Nat.reduceAdd, Int.reduceToNat, d]
  rw [hT1] at *
  refine CallD.calm hsh ?_
  rintro v G1 hx1 hv
  have hn1 := hx1.next
  have hoG1 := hx1.ok hoG
  have hlv := hv.len
  have hlen := shp_len 12 N N
  have hp2 : 2 ^ N ≤ 2 ^ 20 := Nat.pow_le_pow_right (by decide) hN
  have hp20 : 2 ^ 20 = 1048576 := by decide
  have hshape : ∀ M ∈ shp 12 N N, isShape M = true := fun M hM => (shp_isShape hN hM).1
  have hcf : coresF N T = (shp 12 N N).filter fun L => decide (manyM L T = 0) := rfl
  rw [hC, hcf]
  obtain ⟨S, hS⟩ : ∃ S, shp 12 N N = S := ⟨_, rfl⟩
  rw [hS] at hv hlv hlen hshape ⊢
  simp +decide (disch := first | assumption | (apply GH.ok_push; assumption) | exact cellV_int _ _ | exact cellV_bool _ | omega) only [go_sem, ↓reduceIte, Nat.reduceEqDiff, Nat.reduceAdd, Int.reduceToNat, hlv]
  refine Wk.loops (fun m e g2 lo2 => g.next ≤ lo2 ∧ Kept G1 g2 ∧ ∃ c : Nat, c + m = S.length ∧ (ev e (.s 1) = .int .i64 T ∧ ev e (.s 22) = v ∧ ev e (.s 23) = .int .i64 S.length ∧ ev e (.s 24) = .int .i64 c) ∧ ∃ o, ev e (.s 6) = o ∧ Own2 g2 o ((S.take c).filter fun L => decide (manyM L T = 0)) G1.next)
    (fun e g2 lo2 => g.next ≤ lo2 ∧ ∃ o, ev e (.s 6) = o ∧ Sl2 g2 o (S.filter fun L => decide (manyM L T = 0))) (n := S.length) ?_ ?_ ?_
  · exact ⟨by omega, Kept.refl _, 0, by omega, (by simp +decide (disch := first | assumption | (apply GH.ok_push; assumption) | exact cellV_int _ _ | exact cellV_bool _ | omega) only [go_sem, ↓reduceIte, Nat.reduceEqDiff, Nat.reduceAdd, Int.reduceToNat]; first | done | exact rfl), .slice none 0 0, (by simp +decide (disch := first | assumption | (apply GH.ok_push; assumption) | exact cellV_int _ _ | exact cellV_bool _ | omega) only [go_sem, ↓reduceIte, Nat.reduceEqDiff, Nat.reduceAdd, Int.reduceToNat]; first | done | exact rfl), Own2.nil⟩
  · rintro e g2 lo2 - - ⟨hlo2, o, h6, hsl⟩
    simp +decide (disch := first | assumption | (apply GH.ok_push; assumption) | exact cellV_int _ _ | exact cellV_bool _ | omega) only [go_sem, ↓reduceIte, Nat.reduceEqDiff, Nat.reduceAdd, Int.reduceToNat, h6]
    intro hx0
    exact ⟨by omega, o, rfl, hsl⟩
  · rintro m e g2 lo2 ho2 hl2 ih out ⟨hlo2, hk2, c, hc, he, o, h6, hown⟩
    have hgn2 := hk2.next
    by_cases cc : c < S.length
    · obtain ⟨vs0, w1, w2, w3⟩ := hv
      have hvc := List.getElem?_eq_getElem (show c < vs0.length by omega)
      obtain ⟨u, hu⟩ : ∃ u, vs0[c]'(by omega) = u := ⟨_, rfl⟩
      rw [hu] at hvc
      obtain ⟨q, hq1, hq2⟩ := (w1.kept hk2).at hvc
      have hq1 := hq1 (c : Int) rfl
      have hSc := List.getElem?_eq_getElem cc
      have hur := (w3 c u _ hvc hSc).kept hk2
      have hMS := hshape _ (List.getElem_mem cc)
      obtain ⟨M, hM⟩ : ∃ M, S[c] = M := ⟨_, rfl⟩
      rw [hM] at hur hMS hSc
      have hfs := filter_snoc hSc (fun L => decide (manyM L T = 0))
      have hcell := hur.cell
      simp +decide (disch := first | assumption | (apply GH.ok_push; assumption) | exact cellV_int _ _ | exact cellV_bool _ | omega) only [go_sem, ↓reduceIte, Nat.reduceEqDiff, Nat.reduceAdd, Int.reduceToNat, he, hq1, hq2]
      refine CallD.calm (isCore_rets hX M hMS T hT u g2 hur) ?_
      rintro v3 G3 hx3 rfl
      have hn3 := hx3.next
      have hok3 := hx3.ok ho2
      by_cases z : manyM M T = 0
      · rw [decide_eq_true z]
        rw [if_pos (decide_eq_true z)] at hfs
        have hkp := hx3.kept.push hok3 (cellsOb [u] 22)
        obtain ⟨vs, q1, q2, q3⟩ := hown.kept hkp
        have hvl : vs.length ≤ 2 ^ 20 := by rw [q2]; exact Nat.le_trans (List.length_filter_le _ _) (by rw [List.length_take]; omega)
        simp +decide (disch := first | assumption | (apply GH.ok_push; assumption) | exact cellV_int _ _ | exact cellV_bool _ | omega) only [go_sem, ↓reduceIte, Nat.reduceEqDiff, Nat.reduceAdd, Int.reduceToNat, he, h6, hcell]
        refine AppD.own2 (lw := g.next) q1 (SlR.one hok3 _ _) (by simp) (by simp [hcell]) (by simp; omega) (by simp [GH.push]; omega) hlo2 (by omega) (GH.ok_push hok3) (fun s' g3 lo3 sp wr hgr hlo3 => ?_)
        simp +decide (disch := first | assumption | (apply GH.ok_push; assumption) | exact cellV_int _ _ | exact cellV_bool _ | omega) only [go_sem, ↓reduceIte, Nat.reduceEqDiff, Nat.reduceAdd, Int.reduceToNat, he]
        refine ih (m - 1) _ _ _ (by omega) ⟨hlo3, (hk2.trans hkp).grew2 hgr (Nat.le_refl _), c + 1, by omega, (by simp +decide (disch := first | assumption | (apply GH.ok_push; assumption) | exact cellV_int _ _ | exact cellV_bool _ | omega) only [go_sem, ↓reduceIte, Nat.reduceEqDiff, Nat.reduceAdd, Int.reduceToNat, he]; first | done | exact rfl), s', (by simp +decide (disch := first | assumption | (apply GH.ok_push; assumption) | exact cellV_int _ _ | exact cellV_bool _ | omega) only [go_sem, ↓reduceIte, Nat.reduceEqDiff, Nat.reduceAdd, Int.reduceToNat]; first | done | exact rfl), ?_⟩
        rw [hfs]
        exact Own2.grew q2 q3 (hur.kept hkp) hgr
      · rw [decide_eq_false z]
        rw [if_neg (by rw [decide_eq_false z]; simp), List.append_nil] at hfs
        simp +decide (disch := first | assumption | (apply GH.ok_push; assumption) | exact cellV_int _ _ | exact cellV_bool _ | omega) only [go_sem, ↓reduceIte, Nat.reduceEqDiff, Nat.reduceAdd, Int.reduceToNat, he]
        refine ih (m - 1) _ _ _ (by omega) ⟨hlo2, hk2.ext hx3, c + 1, by omega, (by simp +decide (disch := first | assumption | (apply GH.ok_push; assumption) | exact cellV_int _ _ | exact cellV_bool _ | omega) only [go_sem, ↓reduceIte, Nat.reduceEqDiff, Nat.reduceAdd, Int.reduceToNat, he]; first | done | exact rfl), o, (by simp +decide (disch := first | assumption | (apply GH.ok_push; assumption) | exact cellV_int _ _ | exact cellV_bool _ | omega) only [go_sem, ↓reduceIte, Nat.reduceEqDiff, Nat.reduceAdd, Int.reduceToNat, h6]; first | done | exact rfl), ?_⟩
        rw [hfs]
        exact hown.kept hx3.kept
    · rw [List.take_of_length_le (by omega)] at hown
      simp +decide (disch := first | assumption | (apply GH.ok_push; assumption) | exact cellV_int _ _ | exact cellV_bool _ | omega) only [go_sem, ↓reduceIte, Nat.reduceEqDiff, Nat.reduceAdd, Int.reduceToNat, he]
      exact out _ _ _ ⟨hlo2, o, (by simp +decide (disch := first | assumption | (apply GH.ok_push; assumption) | exact cellV_int _ _ | exact cellV_bool _ | omega) only [go_sem, ↓reduceIte, Nat.reduceEqDiff, Nat.reduceAdd, Int.reduceToNat, h6]; first | done | exact rfl), hown.read⟩
end Go.Proofs.Ytieliilnnfjijaa
set_option maxRecDepth 100000
set_option maxHeartbeats 8000000
set_option linter.unusedSimpArgs false
set_option linter.unusedVariables false
namespace Go.Proofs.Ytieliilnnfjijaa
open Go.Ds
/-! ## Shapes with more rows than a program's shape -/
theorem desc_sum : ∀ (m : Int) (L : List Int), desc m L = true → ∀ i, i < L.length → L.getD i 0 * ((i : Int) + 1) + ((L.length : Int) - i - 1) ≤ sumL L
  | m, [], _, i, h => by simp at h
  | m, x :: M, h, i, hi => by
    simp only [desc, Bool.and_eq_true, decide_eq_true_eq] at h
    obtain ⟨⟨h1, h2⟩, h3⟩ := h
    cases i with
    | zero =>
      have key : ∀ (m : Int) (M : List Int), desc m M = true → (M.length : Int) ≤ sumL M := by
        intro m M
        induction M generalizing m with
        | nil => intro _; simp [sumL]
        | cons y M ih =>
          intro h
          simp only [desc, Bool.and_eq_true, decide_eq_true_eq] at h
          have := ih y h.2
          simp only [sumL, List.length_cons]; push_cast; omega
      have := key x M h3
      simp only [List.getD_cons_zero, sumL, List.length_cons]; push_cast; omega
    | succ i =>
      have hi' : i < M.length := by simpa using hi
      have ih := desc_sum x M h3 i hi'
      have hle := (desc_le h3 _ (mem_getD hi')).2
      simp only [List.getD_cons_succ, sumL, List.length_cons]
      push_cast
      have e : M.getD i 0 * ((i : Int) + 1 + 1) = M.getD i 0 * ((i : Int) + 1) + M.getD i 0 := by rw [Int.mul_add, Int.mul_one]
      rw [e]; omega
theorem shp_desc {r b : Nat} {L : List Int} (hb : b ≤ 20) (h : L ∈ shp r b b) : desc 40 L = true ∧ sumL L ≤ 20 ∧ L.length ≤ 20 := by
  obtain ⟨a, c, d⟩ := shp_mem r b b h
  have a40 := desc_mono (m' := 40) a fun x hx => by have := (desc_le a x hx).2; omega
  refine ⟨a40, by omega, ?_⟩
  by_cases e : 0 < L.length
  · have h1 := desc_sum 40 L a40 (L.length - 1) (by omega)
    have h2 := (desc_le a40 _ (mem_getD (show L.length - 1 < L.length by omega))).1
    have h3 : 1 * (((L.length - 1 : Nat) : Int) + 1) ≤ L.getD (L.length - 1) 0 * (((L.length - 1 : Nat) : Int) + 1) := Int.mul_le_mul_of_nonneg_right h2 (by omega)
    omega
  · omega
/-- A long shape is no core. -/
theorem long_strip {T : Nat} (hT : 2 ≤ T ∧ T ≤ 6) {L : List Int} (hd : desc 40 L = true) (hs : sumL L ≤ 20) (hl : 12 < L.length) : stripsB (beadsR L L.length) T ≠ [] := by
  have hi : L.length - T < L.length := by omega
  have h1 := desc_sum 40 L hd (L.length - T) hi
  have h2 := (desc_le hd _ (mem_getD hi)).1
  have h3 : L.getD (L.length - T) 0 = 1 := by
    by_cases c : 2 ≤ L.getD (L.length - T) 0
    · have h3 : 2 * (((L.length - T : Nat) : Int) + 1) ≤ L.getD (L.length - T) 0 * (((L.length - T : Nat) : Int) + 1) := Int.mul_le_mul_of_nonneg_right c (by omega)
      omega
    · omega
  have hbl : (beadsR L L.length).length = L.length := beadsR_len _ _
  have hbi : (beadsR L L.length).getD (L.length - T) 0 = T := by
    unfold beadsR
    rw [rng_get _ hi, h3]; omega
  have h0 : (0 : Int) ∉ beadsR L L.length := by
    intro h
    simp only [beadsR, rng, List.mem_map, List.mem_range] at h
    obtain ⟨r, hr, e⟩ := h
    have := (desc_le hd _ (mem_getD hr)).1
    omega
  have hcan : canB (beadsR L L.length) T (L.length - T) = true := by
    unfold canB
    rw [hbi, Int.sub_self, decide_eq_true (Int.le_refl _), decide_eq_false h0]; rfl
  unfold stripsB stripsK
  intro e
  rw [List.map_eq_nil_iff, List.filter_eq_nil_iff] at e
  exact e (L.length - T) (List.mem_range.2 (by omega)) hcan
/-- Fewer rows. -/
theorem shp_rows : ∀ (r b l s : Nat), r ≤ s → (shp s b l).filter (fun L => decide (L.length ≤ r)) = shp r b l
  | r, b, l, 0, h => by
    have : r = 0 := by omega
    subst this
    unfold shp; split <;> rfl
  | 0, b, l, s + 1, h => by
    by_cases hb : b = 0
    · subst hb; rw [shp_zero, shp_zero]; rfl
    · rw [shp_succ hb, shp, if_neg hb, List.filter_eq_nil_iff]
      intro L hL
      unfold shpK at hL
      rw [List.mem_flatMap] at hL
      obtain ⟨k, _, hL⟩ := hL
      rw [List.mem_map] at hL
      obtain ⟨M, _, rfl⟩ := hL
      simp
  | r + 1, b, l, s + 1, h => by
    by_cases hb : b = 0
    · subst hb; rw [shp_zero, shp_zero]; rfl
    · rw [shp_succ hb, shp_succ hb]
      unfold shpK
      rw [List.filter_flatMap]
      congr 1
      funext k
      rw [List.filter_map, ← shp_rows r (b - (k + 1)) (k + 1) s (by omega)]
      congr 1
      apply List.filter_congr
      intro L _
      simp
/-- The cores among all shapes. -/
theorem cores_all {T : Nat} (hT : 2 ≤ T ∧ T ≤ 6) {n : Nat} (hn : n ≤ 20) : (shp 20 n n).filter (fun L => decide (stripsB (beadsR L L.length) T = [])) = coresF n T := by
  have e : (shp 20 n n).filter (fun L => decide (stripsB (beadsR L L.length) T = [])) = ((shp 20 n n).filter (fun L => decide (L.length ≤ 12))).filter (fun L => decide (stripsB (beadsR L L.length) T = [])) := by
    rw [List.filter_filter]
    apply List.filter_congr
    intro L hL
    obtain ⟨a, b, c⟩ := shp_desc hn hL
    by_cases d : L.length ≤ 12
    · rw [decide_eq_true d, Bool.and_true]
    · have := long_strip hT a b (by omega)
      rw [decide_eq_false this]; rfl
  rw [e, shp_rows 12 n n 20 (by omega)]
  unfold coresF
  apply List.filter_congr
  intro L hL
  have hS := (shp_isShape hn hL).1
  have := (core_iff hT hS).2
  unfold stripsM at this
  by_cases z : manyM L T = 0
  · rw [decide_eq_true z, decide_eq_true (this.2 z)]
  · rw [decide_eq_false z, decide_eq_false (fun h => z (this.1 h))]
end Go.Proofs.Ytieliilnnfjijaa
set_option maxRecDepth 100000
set_option maxHeartbeats 8000000
set_option linter.unusedSimpArgs false
set_option linter.unusedVariables false
namespace Go.Proofs.Ytieliilnnfjijaa
open Go.Ds
structure BeadsW (B : List Int) : Prop where
  len : B.length ≤ 20
  bnd : ∀ x ∈ B, 0 ≤ x ∧ x ≤ 1000
theorem BeadsW.fits {B : List Int} (h : BeadsW B) : Fits B := ⟨by have := h.len; omega, fun x hx => by have := h.bnd x hx; omega⟩
theorem BeadsW.getD {B : List Int} (h : BeadsW B) (i : Nat) : 0 ≤ B.getD i 0 ∧ B.getD i 0 ≤ 1000 := by
  by_cases c : i < B.length
  · exact h.bnd _ (mem_getD c)
  · rw [List.getD_eq_getElem?_getD, List.getElem?_eq_none (by omega)]; decide
theorem beadsR_beadsW {L : List Int} (c2 : desc 40 L = true) (c1 : L.length ≤ 20) : BeadsW (beadsR L L.length) := by
  refine ⟨by rw [beadsR_len]; exact c1, fun x hx => ?_⟩
  simp only [beadsR, rng, List.mem_map, List.mem_range] at hx
  obtain ⟨r, hr, rfl⟩ := hx
  have := desc_getD c2 hr
  omega
theorem refStripsW_rets {X : Caller} (hX : Xok X) (L : List Int) (hc2 : desc 40 L = true) (hc3 : L.length ≤ 20) (t : Int) (ht : 2 ≤ t ∧ t ≤ 6) (s : Value) (g : GH) (hs : SlR g s (ints L)) :
    Rets Try.prog X 55 [s, .int .i64 t] g (fun v g' lo => g.next ≤ lo ∧ Sl2 g' v (stripsB (beadsR L L.length) t)) := by
  refine Rets.run hX.pres p55 (hX.free 55 (by decide) _ _) rfl fun ho => ?_
  have hl := hs.len
  rw [ints_len] at hl
  simp +decide (disch := first | assumption | (apply GH.ok_push; assumption) | exact cellV_int _ _ | exact cellV_bool _ | omega) only [go_sem, ↓reduceIte, Nat.reduceEqDiff, Nat.reduceAdd, Int.reduceToNat, hl]
  refine CallD.calm (refBeads_rets hX L (desc_fits hc2 (by omega)) s g hs) ?_
  rintro b G2 hx2 hb
  have hn2 := hx2.next
  have hB := beadsR_beadsW hc2 hc3
  obtain ⟨B, hBe⟩ : ∃ B, beadsR L L.length = B := ⟨_, rfl⟩
  rw [hBe] at hb hB ⊢
  have hlb := hb.len
  rw [ints_len] at hlb
  have hB12 := hB.len
  have hok2 := hx2.ok ho
  simp +decide (disch := first | assumption | (apply GH.ok_push; assumption) | exact cellV_int _ _ | exact cellV_bool _ | omega) only [go_sem, ↓reduceIte, Nat.reduceEqDiff, Nat.reduceAdd, Int.reduceToNat, hlb]
  refine Wk.loops (fun m e g' lo => g.next ≤ lo ∧ Kept G2 g' ∧ ∃ i : Nat, i + m = B.length ∧ (ev e (.s 1) = .int .i64 t ∧ ev e (.s 5) = b ∧ ev e (.s 7) = .int .i64 i) ∧ ∃ o, ev e (.s 6) = o ∧ Own2 g' o (stripsK B t i) G2.next)
    (fun e g' lo => g.next ≤ lo ∧ ∃ o, ev e (.s 6) = o ∧ Sl2 g' o (stripsB B t)) (n := B.length) ?_ ?_ ?_
  · exact ⟨by omega, Kept.refl _, 0, by omega, (by simp +decide (disch := first | assumption | (apply GH.ok_push; assumption) | exact cellV_int _ _ | exact cellV_bool _ | omega) only [go_sem, ↓reduceIte, Nat.reduceEqDiff, Nat.reduceAdd, Int.reduceToNat]; first | done | exact rfl), .slice none 0 0, (by simp +decide (disch := first | assumption | (apply GH.ok_push; assumption) | exact cellV_int _ _ | exact cellV_bool _ | omega) only [go_sem, ↓reduceIte, Nat.reduceEqDiff, Nat.reduceAdd, Int.reduceToNat]; first | done | exact rfl), Own2.nil⟩
  · rintro e g' lo - - ⟨hlo, o, h7, hown⟩
    simp +decide (disch := first | assumption | (apply GH.ok_push; assumption) | exact cellV_int _ _ | exact cellV_bool _ | omega) only [go_sem, ↓reduceIte, Nat.reduceEqDiff, Nat.reduceAdd, Int.reduceToNat, h7]
    intro hx0
    exact ⟨by omega, hown⟩
  · rintro m e g' lo ho' hl' ih out ⟨hlo, hk, i, hi, he, o, h7, hown⟩
    have hgn := hk.next
    by_cases ci : i < B.length
    · have hb' := hb.kept hk
      obtain ⟨p, hp1, hp2⟩ := hb'.at (ints_get (D := B) (i := i) ci)
      have hp1 := hp1 (i : Int) rfl
      have hbi := hB.getD i
      have hsn := stripsK_succ B t i
      have hsl := stripsK_len B t i
      have skip : canB B t i = false → stripsK B t (i + 1) = stripsK B t i := fun h => by rw [hsn, if_neg (by simp [h]), List.append_nil]
      by_cases c3 : t ≤ B.getD i 0
      · simp +decide (disch := first | assumption | (apply GH.ok_push; assumption) | exact cellV_int _ _ | exact cellV_bool _ | omega) only [go_sem, ↓reduceIte, Nat.reduceEqDiff, Nat.reduceAdd, Int.reduceToNat, he, hlb, hp1, hp2]
        refine CallD.calm (has_rets hX B (B.getD i 0 - t) (by omega) b g' hb') ?_
        rintro v G3 hx3 rfl
        have hn3 := hx3.next
        have hk3 := hk.ext hx3
        by_cases c4 : B.getD i 0 - t ∈ B
        · rw [decide_eq_true c4]
          have hsk := skip (by rw [canB, decide_eq_true c4]; simp)
          simp +decide (disch := first | assumption | (apply GH.ok_push; assumption) | exact cellV_int _ _ | exact cellV_bool _ | omega) only [go_sem, ↓reduceIte, Nat.reduceEqDiff, Nat.reduceAdd, Int.reduceToNat, he]
          refine ih (m - 1) _ _ _ (by omega) ⟨hlo, hk3, i + 1, by omega, (by simp +decide (disch := first | assumption | (apply GH.ok_push; assumption) | exact cellV_int _ _ | exact cellV_bool _ | omega) only [go_sem, ↓reduceIte, Nat.reduceEqDiff, Nat.reduceAdd, Int.reduceToNat, he]; first | done | exact rfl), o, (by simp +decide (disch := first | assumption | (apply GH.ok_push; assumption) | exact cellV_int _ _ | exact cellV_bool _ | omega) only [go_sem, ↓reduceIte, Nat.reduceEqDiff, Nat.reduceAdd, Int.reduceToNat, h7]; first | done | exact rfl), ?_⟩
          rw [hsk]
          exact hown.kept hx3.kept
        · rw [decide_eq_false c4]
          have hcan : canB B t i = true := by rw [canB, decide_eq_true c3, decide_eq_false c4]; rfl
          rw [if_pos hcan] at hsn
          simp +decide (disch := first | assumption | (apply GH.ok_push; assumption) | exact cellV_int _ _ | exact cellV_bool _ | omega) only [go_sem, ↓reduceIte, Nat.reduceEqDiff, Nat.reduceAdd, Int.reduceToNat, he, h7]
          have hb3 := hb'.ext hx3
          have hok3 := hx3.ok ho'
          refine Wk.loops (fun m e g4 lo4 => g.next ≤ lo4 ∧ Kept G3 g4 ∧ ∃ k : Nat, k + m = B.length ∧ (ev e (.s 1) = .int .i64 t ∧ ev e (.s 5) = b ∧ ev e (.s 6) = o ∧ ev e (.s 7) = .int .i64 i ∧ ev e (.s 9) = .int .i64 k) ∧ ∃ u, ev e (.s 8) = u ∧ Own g4 u (ints ((movedL B i t).take k)) 3 G3.next)
            (fun e g4 lo4 => g.next ≤ lo4 ∧ Kept G3 g4 ∧ (ev e (.s 1) = .int .i64 t ∧ ev e (.s 5) = b ∧ ev e (.s 6) = o ∧ ev e (.s 7) = .int .i64 i) ∧ ∃ u, ev e (.s 8) = u ∧ SlR g4 u (ints (movedL B i t))) (n := B.length) ?_ ?_ ?_
          · exact ⟨hlo, Kept.refl _, 0, by omega, (by simp +decide (disch := first | assumption | (apply GH.ok_push; assumption) | exact cellV_int _ _ | exact cellV_bool _ | omega) only [go_sem, ↓reduceIte, Nat.reduceEqDiff, Nat.reduceAdd, Int.reduceToNat, he, h7]; first | done | exact rfl), .slice none 0 0, (by simp +decide (disch := first | assumption | (apply GH.ok_push; assumption) | exact cellV_int _ _ | exact cellV_bool _ | omega) only [go_sem, ↓reduceIte, Nat.reduceEqDiff, Nat.reduceAdd, Int.reduceToNat]; first | done | exact rfl), Own.nil⟩
          · rintro e g4 lo4 ho4 - ⟨hlo4, hk4, he, u, h8, hu⟩
            have hn4 := hk4.next
            simp +decide (disch := first | assumption | (apply GH.ok_push; assumption) | exact cellV_int _ _ | exact cellV_bool _ | omega) only [go_sem, ↓reduceIte, Nat.reduceEqDiff, Nat.reduceAdd, Int.reduceToNat, he, h8]
            refine CallD.calm (refDesc_rets hX (movedL B i t) (by rw [movedL_len]; omega) u g4 hu) ?_
            rintro u2 G5 hx5 hu2
            have hn5 := hx5.next
            have hfit : Fits (sortD (movedL B i t)) := (hB.fits.set (i := i) (x := B.getD i 0 - t) (by omega)).perm (sortD_perm _)
            simp +decide (disch := first | assumption | (apply GH.ok_push; assumption) | exact cellV_int _ _ | exact cellV_bool _ | omega) only [go_sem, ↓reduceIte, Nat.reduceEqDiff, Nat.reduceAdd, Int.reduceToNat, he, h7]
            refine CallD.calm (refShape_rets hX _ hfit u2 G5 hu2) ?_
            rintro w G6 hx6 hw
            have hn6 := hx6.next
            have hok6 := hx6.ok (hx5.ok ho4)
            have hcell := hw.cell
            simp +decide (disch := first | assumption | (apply GH.ok_push; assumption) | exact cellV_int _ _ | exact cellV_bool _ | omega) only [go_sem, ↓reduceIte, Nat.reduceEqDiff, Nat.reduceAdd, Int.reduceToNat, he, h7, hcell]
            have hkp := (((hx3.kept.trans hk4).ext hx5).ext hx6).push hok6 (cellsOb [w] 22)
            obtain ⟨vs, q1, q2, q3⟩ := hown.kept hkp
            refine AppD.own2 (lw := g.next) q1 (SlR.one hok6 _ _) (by simp) (by simp [hcell]) (by simp [q2]; omega) (by simp [GH.push]; omega) hlo4 (by omega) (GH.ok_push hok6) (fun s' g3 lo3 sp wr hgr hlo3 => ?_)
            simp +decide (disch := first | assumption | (apply GH.ok_push; assumption) | exact cellV_int _ _ | exact cellV_bool _ | omega) only [go_sem, ↓reduceIte, Nat.reduceEqDiff, Nat.reduceAdd, Int.reduceToNat, he]
            refine ih (m - 1) _ _ _ (by omega) ⟨hlo3, (hk.trans hkp).grew2 hgr (Nat.le_refl _), i + 1, by omega, (by simp +decide (disch := first | assumption | (apply GH.ok_push; assumption) | exact cellV_int _ _ | exact cellV_bool _ | omega) only [go_sem, ↓reduceIte, Nat.reduceEqDiff, Nat.reduceAdd, Int.reduceToNat, he]; first | done | exact rfl), s', (by simp +decide (disch := first | assumption | (apply GH.ok_push; assumption) | exact cellV_int _ _ | exact cellV_bool _ | omega) only [go_sem, ↓reduceIte, Nat.reduceEqDiff, Nat.reduceAdd, Int.reduceToNat]; first | done | exact rfl), ?_⟩
            rw [hsn]
            exact Own2.grew q2 q3 (hw.push hok6 _) hgr
          · rintro m2 e g4 lo4 ho4 hl4 ih2 out2 ⟨hlo4, hk4, k, hkm, he, u, h8, hu⟩
            have hn4 := hk4.next
            by_cases ck : k < B.length
            · obtain ⟨q, hq1, hq2⟩ := (hb3.kept hk4).at (ints_get (D := B) (i := k) ck)
              have hq1 := hq1 (k : Int) rfl
              have hbk := hB.getD k
              have hmg := movedL_get ci t k
              have htk := take_snoc (movedL B i t) k (by rw [movedL_len]; exact ck)
              have hml := movedL_len B i t
              by_cases ek : k = i
              · have hmg : (movedL B i t).getD k 0 = B.getD k 0 - t := by rw [hmg, if_pos ek, ek]
                simp +decide (disch := first | assumption | (apply GH.ok_push; assumption) | exact cellV_int _ _ | exact cellV_bool _ | omega) only [go_sem, ↓reduceIte, Nat.reduceEqDiff, Nat.reduceAdd, Int.reduceToNat, he, h8, hlb, hq1, hq2]
                refine AppD.own2 (lw := g.next) (hu.push ho4 _) (SlR.one ho4 _ _) (by simp) rfl (by simp [ints_len]; omega) (by simp [GH.push]; omega) hlo4 (by omega) (GH.ok_push ho4) (fun s' g5 lo5 sp wr hgr hlo5 => ?_)
                simp +decide (disch := first | assumption | (apply GH.ok_push; assumption) | exact cellV_int _ _ | exact cellV_bool _ | omega) only [go_sem, ↓reduceIte, Nat.reduceEqDiff, Nat.reduceAdd, Int.reduceToNat, he]
                refine ih2 (m2 - 1) _ _ _ (by omega) ⟨hlo5, (hk4.push ho4 _).grew2 hgr (Nat.le_refl _), k + 1, by omega, (by simp +decide (disch := first | assumption | (apply GH.ok_push; assumption) | exact cellV_int _ _ | exact cellV_bool _ | omega) only [go_sem, ↓reduceIte, Nat.reduceEqDiff, Nat.reduceAdd, Int.reduceToNat, he]; first | done | exact rfl), s', (by simp +decide (disch := first | assumption | (apply GH.ok_push; assumption) | exact cellV_int _ _ | exact cellV_bool _ | omega) only [go_sem, ↓reduceIte, Nat.reduceEqDiff, Nat.reduceAdd, Int.reduceToNat]; first | done | exact rfl), ?_⟩
                rw [htk, ints_app, hmg]
                exact hgr.own
              · rw [if_neg ek] at hmg
                simp +decide (disch := first | assumption | (apply GH.ok_push; assumption) | exact cellV_int _ _ | exact cellV_bool _ | omega) only [go_sem, ↓reduceIte, Nat.reduceEqDiff, Nat.reduceAdd, Int.reduceToNat, he, h8, hlb, hq1, hq2]
                refine AppD.own2 (lw := g.next) (hu.push ho4 _) (SlR.one ho4 _ _) (by simp) rfl (by simp [ints_len]; omega) (by simp [GH.push]; omega) hlo4 (by omega) (GH.ok_push ho4) (fun s' g5 lo5 sp wr hgr hlo5 => ?_)
                simp +decide (disch := first | assumption | (apply GH.ok_push; assumption) | exact cellV_int _ _ | exact cellV_bool _ | omega) only [go_sem, ↓reduceIte, Nat.reduceEqDiff, Nat.reduceAdd, Int.reduceToNat, he]
                refine ih2 (m2 - 1) _ _ _ (by omega) ⟨hlo5, (hk4.push ho4 _).grew2 hgr (Nat.le_refl _), k + 1, by omega, (by simp +decide (disch := first | assumption | (apply GH.ok_push; assumption) | exact cellV_int _ _ | exact cellV_bool _ | omega) only [go_sem, ↓reduceIte, Nat.reduceEqDiff, Nat.reduceAdd, Int.reduceToNat, he]; first | done | exact rfl), s', (by simp +decide (disch := first | assumption | (apply GH.ok_push; assumption) | exact cellV_int _ _ | exact cellV_bool _ | omega) only [go_sem, ↓reduceIte, Nat.reduceEqDiff, Nat.reduceAdd, Int.reduceToNat]; first | done | exact rfl), ?_⟩
                rw [htk, ints_app, hmg]
                exact hgr.own
            · simp +decide (disch := first | assumption | (apply GH.ok_push; assumption) | exact cellV_int _ _ | exact cellV_bool _ | omega) only [go_sem, ↓reduceIte, Nat.reduceEqDiff, Nat.reduceAdd, Int.reduceToNat, he, h8, hlb]
              refine out2 _ _ _ ⟨hlo4, hk4, (by simp +decide (disch := first | assumption | (apply GH.ok_push; assumption) | exact cellV_int _ _ | exact cellV_bool _ | omega) only [go_sem, ↓reduceIte, Nat.reduceEqDiff, Nat.reduceAdd, Int.reduceToNat, he]; first | done | exact rfl), u, (by simp +decide (disch := first | assumption | (apply GH.ok_push; assumption) | exact cellV_int _ _ | exact cellV_bool _ | omega) only [go_sem, ↓reduceIte, Nat.reduceEqDiff, Nat.reduceAdd, Int.reduceToNat, h8]; first | done | exact rfl), ?_⟩
              rw [List.take_of_length_le (by rw [movedL_len]; omega)] at hu
              exact hu.read
      · have hsk := skip (by rw [canB, decide_eq_false c3]; rfl)
        simp +decide (disch := first | assumption | (apply GH.ok_push; assumption) | exact cellV_int _ _ | exact cellV_bool _ | omega) only [go_sem, ↓reduceIte, Nat.reduceEqDiff, Nat.reduceAdd, Int.reduceToNat, he, hlb, hp1, hp2]
        refine ih (m - 1) _ _ _ (by omega) ⟨hlo, hk, i + 1, by omega, (by simp +decide (disch := first | assumption | (apply GH.ok_push; assumption) | exact cellV_int _ _ | exact cellV_bool _ | omega) only [go_sem, ↓reduceIte, Nat.reduceEqDiff, Nat.reduceAdd, Int.reduceToNat, he]; first | done | exact rfl), o, (by simp +decide (disch := first | assumption | (apply GH.ok_push; assumption) | exact cellV_int _ _ | exact cellV_bool _ | omega) only [go_sem, ↓reduceIte, Nat.reduceEqDiff, Nat.reduceAdd, Int.reduceToNat, h7]; first | done | exact rfl), ?_⟩
        rw [hsk]
        exact hown
    · simp +decide (disch := first | assumption | (apply GH.ok_push; assumption) | exact cellV_int _ _ | exact cellV_bool _ | omega) only [go_sem, ↓reduceIte, Nat.reduceEqDiff, Nat.reduceAdd, Int.reduceToNat, he, hlb]
      refine out _ _ _ ⟨hlo, o, (by simp +decide (disch := first | assumption | (apply GH.ok_push; assumption) | exact cellV_int _ _ | exact cellV_bool _ | omega) only [go_sem, ↓reduceIte, Nat.reduceEqDiff, Nat.reduceAdd, Int.reduceToNat, h7]; first | done | exact rfl), ?_⟩
      rw [show i = B.length by omega] at hown
      exact hown.read
end Go.Proofs.Ytieliilnnfjijaa
set_option maxRecDepth 100000
set_option maxHeartbeats 8000000
set_option linter.unusedSimpArgs false
set_option linter.unusedVariables false
namespace Go.Proofs.Ytieliilnnfjijaa
open Go.Ds
theorem Own2.grewA {g g' : GH} {s' : Value} {LL MM : List (List Int)} {vs ws : List Value} {base : Nat} (h2 : vs.length = LL.length) (h3 : ∀ (i : Nat) v L, vs[i]? = some v → LL[i]? = some L → SlR g v (ints L))
    (k2 : ws.length = MM.length) (k3 : ∀ (i : Nat) v L, ws[i]? = some v → MM[i]? = some L → SlR g v (ints L)) (hgr : Grew2 g g' s' (vs ++ ws) 22 base) : Own2 g' s' (LL ++ MM) base := by
  refine ⟨vs ++ ws, hgr.own, by simp [h2, k2], fun i v L hv hL => hgr.read _ _ ?_⟩
  by_cases c : i < vs.length
  · rw [List.getElem?_append_left c] at hv
    rw [List.getElem?_append_left (by omega)] at hL
    exact h3 i v L hv hL
  · rw [List.getElem?_append_right (by omega)] at hv
    rw [List.getElem?_append_right (by omega), ← h2] at hL
    exact k3 _ v L hv hL
theorem shp_ne : ∀ (r b l : Nat), b ≤ r → 1 ≤ l → shp r b l ≠ []
  | 0, b, l, h, hl => by
    have : b = 0 := by omega
    subst this; simp [shp]
  | r + 1, b, l, h, hl => by
    by_cases hb : b = 0
    · subst hb; rw [shp_zero]; simp
    · rw [shp_succ hb]
      obtain ⟨m, hm⟩ : ∃ m, min b l = m + 1 := ⟨min b l - 1, by omega⟩
      rw [hm, shpK_succ]
      intro e
      have := List.append_eq_nil_iff.1 e
      exact shp_ne r (b - (m + 1)) (m + 1) (by omega) (by omega) (List.map_eq_nil_iff.1 this.2)
theorem shapes_rets67 {X : Caller} (hX : Xok X) : ∀ (r b l : Nat), b ≤ r → b ≤ 20 → l ≤ 20 → ∀ (L : List Int), L.length + b ≤ 40 → ∀ (v : Value) (base : Nat) (g : GH), Own g v (ints L) 3 base →
    Rets Try.prog X 67 [.int .i64 b, .int .i64 l, v] g (fun u g' lo => g.next ≤ lo ∧ Sl2 g' u ((shp r b l).map (L ++ ·))) := by
  intro r
  induction r with
  | zero =>
    intro b l hbr hb hl L hL v base g hown
    have hb0 : b = 0 := by omega
    subst hb0
    refine Rets.run hX.pres p67 (hX.free 67 (by decide) _ _) rfl fun ho => ?_
    have hr := hown.read
    have hcz := hr.cell
    simp +decide (disch := first | assumption | (apply GH.ok_push; assumption) | exact cellV_int _ _ | exact cellV_bool _ | omega) only [go_sem, ↓reduceIte, Nat.reduceEqDiff, Nat.reduceAdd, Int.reduceToNat, hcz]
    intro hx
    refine ⟨Nat.le_refl _, ?_⟩
    rw [shp_zero]
    exact ⟨[v], SlR.one ho _ _, rfl, fun i u M h1 h2 => by
        have : i = 0 := by have := (List.getElem?_eq_some_iff.1 h1).1; simp at this; omega
        subst this
        simp at h1 h2
        subst h1; subst h2; exact hr.push ho _⟩
  | succ r ihr =>
    intro b l hbr hb hl L hL v base g hown
    refine Rets.run hX.pres p67 (hX.free 67 (by decide) _ _) rfl fun ho => ?_
    have hr := hown.read
    have hcz := hr.cell
    by_cases c : b = 0
    · subst c
      simp +decide (disch := first | assumption | (apply GH.ok_push; assumption) | exact cellV_int _ _ | exact cellV_bool _ | omega) only [go_sem, ↓reduceIte, Nat.reduceEqDiff, Nat.reduceAdd, Int.reduceToNat, hcz]
      intro hx
      refine ⟨Nat.le_refl _, ?_⟩
      rw [shp_zero]
      exact ⟨[v], SlR.one ho _ _, rfl, fun i u M h1 h2 => by
        have : i = 0 := by have := (List.getElem?_eq_some_iff.1 h1).1; simp at this; omega
        subst this
        simp at h1 h2
        subst h1; subst h2; exact hr.push ho _⟩
    · have hp2 : 2 ^ b ≤ 2 ^ 20 := Nat.pow_le_pow_right (by decide) hb
      have hp20 : 2 ^ 20 = 1048576 := by decide
      simp +decide (disch := first | assumption | (apply GH.ok_push; assumption) | exact cellV_int _ _ | exact cellV_bool _ | omega) only [go_sem, ↓reduceIte, Nat.reduceEqDiff, Nat.reduceAdd, Int.reduceToNat]
      refine Wk.loops (fun m e g' lo => g.next ≤ lo ∧ Kept g g' ∧ ∃ k : Nat, k + m = min b l ∧ (ev e (.s 0) = .int .i64 b ∧ ev e (.s 1) = .int .i64 l ∧ ev e (.s 2) = v ∧ ev e (.s 8) = .int .i64 ((k : Int) + 1)) ∧ ∃ o, ev e (.s 7) = o ∧ Own2 g' o ((shpK r b k).map (L ++ ·)) g.next)
        (fun e g' lo => g.next ≤ lo ∧ ∃ o, ev e (.s 7) = o ∧ Sl2 g' o ((shp (r + 1) b l).map (L ++ ·))) (n := min b l) ?_ ?_ ?_
      · exact ⟨Nat.le_refl _, Kept.refl _, 0, by omega, (by simp +decide (disch := first | assumption | (apply GH.ok_push; assumption) | exact cellV_int _ _ | exact cellV_bool _ | omega) only [go_sem, ↓reduceIte, Nat.reduceEqDiff, Nat.reduceAdd, Int.reduceToNat]; first | done | exact rfl), .slice none 0 0, (by simp +decide (disch := first | assumption | (apply GH.ok_push; assumption) | exact cellV_int _ _ | exact cellV_bool _ | omega) only [go_sem, ↓reduceIte, Nat.reduceEqDiff, Nat.reduceAdd, Int.reduceToNat]; first | done | exact rfl), Own2.nil⟩
      · rintro e g' lo - - ⟨hlo, o, h7, hsl⟩
        simp +decide (disch := first | assumption | (apply GH.ok_push; assumption) | exact cellV_int _ _ | exact cellV_bool _ | omega) only [go_sem, ↓reduceIte, Nat.reduceEqDiff, Nat.reduceAdd, Int.reduceToNat, h7]
        exact fun hx => ⟨hlo, hsl⟩
      · rintro m e g' lo ho' hl' ih out ⟨hlo, hk, k, hkm, he, o, h7, hown2⟩
        have hgn := hk.next
        have hmn : mnF (.int .i64 (b : Int)) (.int .i64 (l : Int)) = some (.int .i64 ((min b l : Nat) : Int)) := by
          simp only [mnF]
          rw [lt_i]
          by_cases q : (l : Int) < b
          · rw [decide_eq_true q, Nat.min_eq_right (by omega)]; rfl
          · rw [decide_eq_false q, Nat.min_eq_left (by omega)]; rfl
        by_cases ck : k < min b l
        · have eb : (b : Int) - ((k : Int) + 1) = ((b - (k + 1) : Nat) : Int) := by omega
          have ek : (k : Int) + 1 = ((k + 1 : Nat) : Int) := by push_cast; rfl
          have hown1 := hown.kept hk
          have hlv := hown1.read.len
          have hcl := clip_own hown1 (by rw [ints_len]; omega)
          rw [ints_len] at hlv hcl
          simp +decide (disch := first | assumption | (apply GH.ok_push; assumption) | exact cellV_int _ _ | exact cellV_bool _ | omega) only [go_sem, ↓reduceIte, Nat.reduceEqDiff, Nat.reduceAdd, Int.reduceToNat, he, h7, hmn, hlv, hcl]
          refine AppD.clip (lw := g.next) (base := g'.next + 1) (hown1.kept ((Kept.refl g').push ho' _)) (SlR.one ho' _ _) (by simp) rfl (by simp [ints_len]; omega) (by simp [GH.push]) hlo (by omega) (GH.ok_push ho') (fun s' g2 lo2 sp wr hgr hlo2 => ?_)
          have hk2 : Kept g' g2 := ((Kept.refl g').push ho' _).grew2 hgr (by omega)
          have hgo : Own g2 s' (ints (L ++ [(k : Int) + 1])) 3 (g'.next + 1) := by
            have := hgr.own
            rw [ints_app]; exact this
          have hrec := ihr (b - (k + 1)) (k + 1) (by omega) (by omega) (by omega) (L ++ [(k : Int) + 1]) (by simp; omega) s' _ g2 hgo
          rw [← eb, ← ek] at hrec
          have hn2 := hk2.next
          simp +decide (disch := first | assumption | (apply GH.ok_push; assumption) | exact cellV_int _ _ | exact cellV_bool _ | omega) only [go_sem, ↓reduceIte, Nat.reduceEqDiff, Nat.reduceAdd, Int.reduceToNat, he, h7]
          refine CallD.calm hrec ?_
          rintro u G hx ⟨ws, w1, w2, w3⟩
          have hn := hx.next
          have hkG := hk2.ext hx
          have hoG := hx.ok hgr.ok
          obtain ⟨vs, q1, q2, q3⟩ := hown2.kept hkG
          have hsl := shp_len r (b - (k + 1)) (k + 1)
          have hne := shp_ne r (b - (k + 1)) (k + 1) (by omega) (by omega)
          have hp3 : 2 ^ (b - (k + 1)) ≤ 2 ^ 20 := Nat.pow_le_pow_right (by decide) (by omega)
          have hkl := shpK_len r b k (by omega)
          have hsucc := shpK_succ r b k
          have hvl : vs.length ≤ 2 ^ 20 := by rw [q2, List.length_map]; omega
          rw [List.length_map] at w2
          have hwne : ws ≠ [] := fun h => hne (List.eq_nil_of_length_eq_zero (by rw [← w2, h]; rfl))
          have hwc : ws.all cellV = true := by
            rw [List.all_eq_true]
            intro x hxm
            obtain ⟨i, hi, rfl⟩ := List.mem_iff_getElem.1 hxm
            have hM := List.getElem?_eq_getElem (l := (shp r (b - (k + 1)) (k + 1)).map ((L ++ [(k : Int) + 1]) ++ ·)) (show i < _ by rw [List.length_map]; omega)
            exact (w3 i _ _ (List.getElem?_eq_getElem hi) hM).cell
          simp +decide (disch := first | assumption | (apply GH.ok_push; assumption) | exact cellV_int _ _ | exact cellV_bool _ | omega) only [go_sem, ↓reduceIte, Nat.reduceEqDiff, Nat.reduceAdd, Int.reduceToNat, he, h7]
          refine AppD.own2 (lw := g.next) q1 w1 hwne hwc (by simp; omega) (by omega) (by omega) (Nat.le_refl _) hoG (fun s3 g3 lo3 sp wr hgr3 hlo3 => ?_)
          simp +decide (disch := first | assumption | (apply GH.ok_push; assumption) | exact cellV_int _ _ | exact cellV_bool _ | omega) only [go_sem, ↓reduceIte, Nat.reduceEqDiff, Nat.reduceAdd, Int.reduceToNat, he]
          refine ih (m - 1) _ _ _ (by omega) ⟨hlo3, (hk.trans hkG).grew2 hgr3 (Nat.le_refl _), k + 1, by omega, (by simp +decide (disch := first | assumption | (apply GH.ok_push; assumption) | exact cellV_int _ _ | exact cellV_bool _ | omega) only [go_sem, ↓reduceIte, Nat.reduceEqDiff, Nat.reduceAdd, Int.reduceToNat, he]; first | done | exact rfl), s3, (by simp +decide (disch := first | assumption | (apply GH.ok_push; assumption) | exact cellV_int _ _ | exact cellV_bool _ | omega) only [go_sem, ↓reduceIte, Nat.reduceEqDiff, Nat.reduceAdd, Int.reduceToNat]; first | done | exact rfl), ?_⟩
          have e : (shpK r b (k + 1)).map (L ++ ·) = (shpK r b k).map (L ++ ·) ++ (shp r (b - (k + 1)) (k + 1)).map ((L ++ [(k : Int) + 1]) ++ ·) := by
            rw [hsucc, List.map_append, List.map_map]
            congr 1
            apply List.map_congr_left
            intro M _
            simp
          rw [e]
          exact Own2.grewA q2 q3 (by rw [w2, List.length_map]) w3 hgr3
        · simp +decide (disch := first | assumption | (apply GH.ok_push; assumption) | exact cellV_int _ _ | exact cellV_bool _ | omega) only [go_sem, ↓reduceIte, Nat.reduceEqDiff, Nat.reduceAdd, Int.reduceToNat, he, hmn]
          refine out _ _ _ ⟨hlo, o, (by simp +decide (disch := first | assumption | (apply GH.ok_push; assumption) | exact cellV_int _ _ | exact cellV_bool _ | omega) only [go_sem, ↓reduceIte, Nat.reduceEqDiff, Nat.reduceAdd, Int.reduceToNat, h7]; first | done | exact rfl), ?_⟩
          rw [shp_succ c, ← show k = min b l by omega]
          exact hown2.read
end Go.Proofs.Ytieliilnnfjijaa
set_option maxRecDepth 100000
set_option maxHeartbeats 8000000
set_option linter.unusedSimpArgs false
set_option linter.unusedVariables false
namespace Go.Proofs.Ytieliilnnfjijaa
open Go.Ds
theorem refCores_rets {X : Caller} (hX : Xok X) (n t : Int) (g : GH) : Rets Try.prog X 38 [.int .i64 n, .int .i64 t] g (fun v g' lo => g.next ≤ lo ∧ Ret2 g' v (coresT n t)) := by
  refine Rets.run hX.pres p38 (hX.free 38 (by decide) _ _) rfl fun ho => ?_
  have bad : ¬ (0 ≤ n ∧ n ≤ 20 ∧ isWires t = true) → coresT n t = ([], 2) := fun h => by rw [coresT, if_neg h]
  by_cases c1 : n < 0
  · have hb := bad (fun h => by omega)
    simp +decide (disch := first | assumption | (apply GH.ok_push; assumption) | exact cellV_int _ _ | exact cellV_bool _ | omega) only [go_sem, ↓reduceIte, Nat.reduceEqDiff, Nat.reduceAdd, Int.reduceToNat]
    intro hx0
    exact ⟨Nat.le_refl _, _, by rw [hb], by rw [hb]; exact Sl2.nil⟩
  by_cases c2 : 20 < n
  · have hb := bad (fun h => by omega)
    simp +decide (disch := first | assumption | (apply GH.ok_push; assumption) | exact cellV_int _ _ | exact cellV_bool _ | omega) only [go_sem, ↓reduceIte, Nat.reduceEqDiff, Nat.reduceAdd, Int.reduceToNat]
    intro hx0
    exact ⟨Nat.le_refl _, _, by rw [hb], by rw [hb]; exact Sl2.nil⟩
  simp +decide (disch := first | assumption | (apply GH.ok_push; assumption) | exact cellV_int _ _ | exact cellV_bool _ | omega) only [go_sem, ↓reduceIte, Nat.reduceEqDiff, Nat.reduceAdd, Int.reduceToNat]
  refine CallD.calm (refWires_rets hX t g) ?_
  rintro v G hx rfl
  have hn := hx.next
  have hoG := hx.ok ho
  by_cases d : isWires t = true
  case neg =>
    have d' : isWires t = false := by simpa using d
    have hb := bad (fun h => d h.2.2)
    simp +decide (disch := first | assumption | (apply GH.ok_push; assumption) | exact cellV_int _ _ | exact cellV_bool _ | omega) only [go_sem, ↓reduceIte, Nat.reduceEqDiff, Nat.reduceAdd, Int.reduceToNat, d']
    intro hx0
    exact ⟨by omega, _, by rw [hb], by rw [hb]; exact Sl2.nil⟩
  obtain ⟨T, hT1, hT2, hT⟩ := wires_nat d
  obtain ⟨N, rfl⟩ := Int.eq_ofNat_of_zero_le (show 0 ≤ n by omega)
  have hC : coresT (N : Int) t = (coresF N T, 0) := by rw [coresT, if_pos ⟨by omega, by omega, d⟩, hT2]; rfl
  have hN : N ≤ 20 := by omega
  have hsh := shapes_rets67 hX 20 N N hN hN hN [] (by simp; omega) (.slice none 0 0) 0 G Own.nil
  rw [show (shp 20 N N).map (([] : List Int) ++ ·) = shp 20 N N by simp] at hsh
  simp +decide (disch := first | assumption | (apply GH.ok_push; assumption) | exact cellV_int _ _ | exact cellV_bool _ | omega) only [go_sem, ↓reduceIte, Nat.reduceEqDiff, Nat.reduceAdd, Int.reduceToNat, d]
  rw [hT1] at *
  refine CallD.calm hsh ?_
  rintro v G1 hx1 hv
  have hn1 := hx1.next
  have hoG1 := hx1.ok hoG
  have hlv := hv.len
  have hlen := shp_len 20 N N
  have hp2 : 2 ^ N ≤ 2 ^ 20 := Nat.pow_le_pow_right (by decide) hN
  have hp20 : 2 ^ 20 = 1048576 := by decide
  have hshape : ∀ M ∈ shp 20 N N, desc 40 M = true ∧ sumL M ≤ 20 ∧ M.length ≤ 20 := fun M hM => shp_desc hN hM
  have hcf := cores_all hT hN
  rw [hC, ← hcf]
  obtain ⟨S, hS⟩ : ∃ S, shp 20 N N = S := ⟨_, rfl⟩
  rw [hS] at hv hlv hlen hshape ⊢
  simp +decide (disch := first | assumption | (apply GH.ok_push; assumption) | exact cellV_int _ _ | exact cellV_bool _ | omega) only [go_sem, ↓reduceIte, Nat.reduceEqDiff, Nat.reduceAdd, Int.reduceToNat, hlv]
  refine Wk.loops (fun m e g2 lo2 => g.next ≤ lo2 ∧ Kept G1 g2 ∧ ∃ c : Nat, c + m = S.length ∧ (ev e (.s 1) = .int .i64 T ∧ ev e (.s 6) = v ∧ ev e (.s 8) = .int .i64 c) ∧ ∃ o, ev e (.s 7) = o ∧ Own2 g2 o ((S.take c).filter fun L => decide (stripsB (beadsR L L.length) T = [])) G1.next)
    (fun e g2 lo2 => g.next ≤ lo2 ∧ ∃ o, ev e (.s 7) = o ∧ Sl2 g2 o (S.filter fun L => decide (stripsB (beadsR L L.length) T = []))) (n := S.length) ?_ ?_ ?_
  · exact ⟨by omega, Kept.refl _, 0, by omega, (by simp +decide (disch := first | assumption | (apply GH.ok_push; assumption) | exact cellV_int _ _ | exact cellV_bool _ | omega) only [go_sem, ↓reduceIte, Nat.reduceEqDiff, Nat.reduceAdd, Int.reduceToNat]; first | done | exact rfl), .slice none 0 0, (by simp +decide (disch := first | assumption | (apply GH.ok_push; assumption) | exact cellV_int _ _ | exact cellV_bool _ | omega) only [go_sem, ↓reduceIte, Nat.reduceEqDiff, Nat.reduceAdd, Int.reduceToNat]; first | done | exact rfl), Own2.nil⟩
  · rintro e g2 lo2 - - ⟨hlo2, o, h7, hsl⟩
    simp +decide (disch := first | assumption | (apply GH.ok_push; assumption) | exact cellV_int _ _ | exact cellV_bool _ | omega) only [go_sem, ↓reduceIte, Nat.reduceEqDiff, Nat.reduceAdd, Int.reduceToNat, h7]
    intro hx0
    exact ⟨by omega, o, rfl, hsl⟩
  · rintro m e g2 lo2 ho2 hl2 ih out ⟨hlo2, hk2, c, hc, he, o, h7, hown⟩
    have hgn2 := hk2.next
    by_cases cc : c < S.length
    · obtain ⟨u, j1, o1, hj1, hp1, hp2', hu⟩ := (hv.kept hk2).ptr cc
      have hp1 := hp1 (c : Int) rfl
      have hSc := List.getElem?_eq_getElem cc
      have hgd : S.getD c [] = S[c] := by rw [List.getD_eq_getElem?_getD, hSc]; rfl
      rw [hgd] at hu
      have hMS := hshape _ (List.getElem_mem cc)
      obtain ⟨M, hM⟩ : ∃ M, S[c] = M := ⟨_, rfl⟩
      rw [hM] at hu hMS hSc
      have hfs := filter_snoc hSc (fun L => decide (stripsB (beadsR L L.length) T = []))
      have hcell := hu.cell
      simp +decide (disch := first | assumption | (apply GH.ok_push; assumption) | exact cellV_int _ _ | exact cellV_bool _ | omega) only [go_sem, ↓reduceIte, Nat.reduceEqDiff, Nat.reduceAdd, Int.reduceToNat, he, hlv, hp1, hp2']
      refine CallD.calm (refStripsW_rets hX M hMS.1 hMS.2.2 T (by omega) u g2 hu) ?_
      rintro z G3 hx3 hz
      have hn3 := hx3.next
      have hok3 := hx3.ok ho2
      have hlz := hz.len
      have hr2 : ∀ lo, loadF none (G3.at lo) (.pointer (some ⟨j1, o1, none⟩)) = some u := fun lo => by
        have := hp2' lo
        rw [load_eq] at this ⊢
        rw [hx3.gets _ hj1]; exact this
      by_cases z0 : stripsB (beadsR M M.length) T = []
      · rw [z0] at hlz
        rw [if_pos (decide_eq_true z0)] at hfs
        have hkp := hx3.kept.push hok3 (cellsOb [u] 22)
        obtain ⟨vs, q1, q2, q3⟩ := hown.kept hkp
        have hvl : vs.length ≤ 2 ^ 20 := by rw [q2]; exact Nat.le_trans (List.length_filter_le _ _) (by rw [List.length_take]; omega)
        simp +decide (disch := first | assumption | (apply GH.ok_push; assumption) | exact cellV_int _ _ | exact cellV_bool _ | omega) only [go_sem, ↓reduceIte, Nat.reduceEqDiff, Nat.reduceAdd, Int.reduceToNat, he, h7, hcell, hlz, hp1, hr2]
        refine AppD.own2 (lw := g.next) q1 (SlR.one hok3 _ _) (by simp) (by simp [hcell]) (by simp; omega) (by simp [GH.push]; omega) hlo2 (by omega) (GH.ok_push hok3) (fun s' g3 lo3 sp wr hgr hlo3 => ?_)
        simp +decide (disch := first | assumption | (apply GH.ok_push; assumption) | exact cellV_int _ _ | exact cellV_bool _ | omega) only [go_sem, ↓reduceIte, Nat.reduceEqDiff, Nat.reduceAdd, Int.reduceToNat, he]
        refine ih (m - 1) _ _ _ (by omega) ⟨hlo3, (hk2.trans hkp).grew2 hgr (Nat.le_refl _), c + 1, by omega, (by simp +decide (disch := first | assumption | (apply GH.ok_push; assumption) | exact cellV_int _ _ | exact cellV_bool _ | omega) only [go_sem, ↓reduceIte, Nat.reduceEqDiff, Nat.reduceAdd, Int.reduceToNat, he]; first | done | exact rfl), s', (by simp +decide (disch := first | assumption | (apply GH.ok_push; assumption) | exact cellV_int _ _ | exact cellV_bool _ | omega) only [go_sem, ↓reduceIte, Nat.reduceEqDiff, Nat.reduceAdd, Int.reduceToNat]; first | done | exact rfl), ?_⟩
        rw [hfs]
        exact Own2.grew q2 q3 (hu.kept hkp) hgr
      · rw [if_neg (by rw [decide_eq_false z0]; simp), List.append_nil] at hfs
        have hne : ¬ ((stripsB (beadsR M M.length) (T : Int)).length : Int) = 0 := fun h => z0 (List.eq_nil_of_length_eq_zero (by omega))
        simp +decide (disch := first | assumption | (apply GH.ok_push; assumption) | exact cellV_int _ _ | exact cellV_bool _ | omega) only [go_sem, ↓reduceIte, Nat.reduceEqDiff, Nat.reduceAdd, Int.reduceToNat, he, hlz, hne]
        refine ih (m - 1) _ _ _ (by omega) ⟨hlo2, hk2.ext hx3, c + 1, by omega, (by simp +decide (disch := first | assumption | (apply GH.ok_push; assumption) | exact cellV_int _ _ | exact cellV_bool _ | omega) only [go_sem, ↓reduceIte, Nat.reduceEqDiff, Nat.reduceAdd, Int.reduceToNat, he]; first | done | exact rfl), o, (by simp +decide (disch := first | assumption | (apply GH.ok_push; assumption) | exact cellV_int _ _ | exact cellV_bool _ | omega) only [go_sem, ↓reduceIte, Nat.reduceEqDiff, Nat.reduceAdd, Int.reduceToNat, h7]; first | done | exact rfl), ?_⟩
        rw [hfs]
        exact hown.kept hx3.kept
    · rw [List.take_of_length_le (by omega)] at hown
      simp +decide (disch := first | assumption | (apply GH.ok_push; assumption) | exact cellV_int _ _ | exact cellV_bool _ | omega) only [go_sem, ↓reduceIte, Nat.reduceEqDiff, Nat.reduceAdd, Int.reduceToNat, he, hlv]
      exact out _ _ _ ⟨hlo2, o, (by simp +decide (disch := first | assumption | (apply GH.ok_push; assumption) | exact cellV_int _ _ | exact cellV_bool _ | omega) only [go_sem, ↓reduceIte, Nat.reduceEqDiff, Nat.reduceAdd, Int.reduceToNat, h7]; first | done | exact rfl), hown.read⟩
theorem shp_cnt : ((List.range 21).all fun n => decide ((shp 12 n n).length ≤ 1000)) = true := by decide +kernel
theorem coresT_small (n t : Int) : (coresT n t).1.length ≤ 1000 ∧ ∀ M ∈ (coresT n t).1, M.length ≤ 12 := by
  unfold coresT
  split
  · rename_i h
    have h20 : n.toNat ≤ 20 := by omega
    have h21 := List.all_eq_true.1 shp_cnt n.toNat (List.mem_range.2 (by omega))
    rw [decide_eq_true_eq] at h21
    refine ⟨Nat.le_trans (List.length_filter_le _ _) h21, fun M hM => (shape_facts (coresF_mem h20 hM).1).1⟩
  · exact ⟨by simp, fun M hM => by cases hM⟩
/-- The law of the cores. -/
theorem coresLaw_rets {X : Caller} (hX : Xok X) (n t : Int) (g : GH) :
    Rets Try.prog X 6 [.int .i64 n, .int .i64 t] g (fun v g' lo => g.next ≤ lo ∧ v = .bool true) := by
  refine Rets.run hX.pres p6 (hX.free 6 (by decide) _ _) rfl fun ho => ?_
  simp +decide (disch := first | assumption | (apply GH.ok_push; assumption) | exact cellV_int _ _ | exact cellV_bool _ | omega) only [go_sem, ↓reduceIte, Nat.reduceEqDiff, Nat.reduceAdd, Int.reduceToNat]
  refine CallD.calm (coresT_rets hX n t g) ?_
  rintro v G1 hx1 ⟨a, rfl, ha⟩
  have hn1 := hx1.next
  simp +decide (disch := first | assumption | (apply GH.ok_push; assumption) | exact cellV_int _ _ | exact cellV_bool _ | omega) only [go_sem, ↓reduceIte, Nat.reduceEqDiff, Nat.reduceAdd, Int.reduceToNat, ext0, ext1]
  refine CallD.calm (refCores_rets hX n t G1) ?_
  rintro v G2 hx2 ⟨b, rfl, hb⟩
  have hn2 := hx2.next
  obtain ⟨m1, m2⟩ := coresT_small n t
  simp +decide (disch := first | assumption | (apply GH.ok_push; assumption) | exact cellV_int _ _ | exact cellV_bool _ | omega) only [go_sem, ↓reduceIte, Nat.reduceEqDiff, Nat.reduceAdd, Int.reduceToNat, ext0, ext1]
  refine CallD.calm (shapes_rets hX _ _ (by omega) (by omega) (fun M hM => by have := m2 M hM; omega) (fun M hM => by have := m2 M hM; omega) a b G2 (ha.kept hx2.kept) hb) ?_
  rintro v G3 hx3 rfl
  have hn3 := hx3.next
  rw [decide_eq_true rfl]
  simp +decide (disch := first | assumption | (apply GH.ok_push; assumption) | exact cellV_int _ _ | exact cellV_bool _ | omega) only [go_sem, ↓reduceIte, Nat.reduceEqDiff, Nat.reduceAdd, Int.reduceToNat]
  refine CallD.calm (hX.alive G3) ?_
  rintro v G9 hx9 rfl
  have hn9 := hx9.next
  simp +decide (disch := first | assumption | (apply GH.ok_push; assumption) | exact cellV_int _ _ | exact cellV_bool _ | omega) only [go_sem, ↓reduceIte, Nat.reduceEqDiff, Nat.reduceAdd, Int.reduceToNat]
  intro hx0
  exact ⟨by omega, rfl⟩
end Go.Proofs.Ytieliilnnfjijaa
