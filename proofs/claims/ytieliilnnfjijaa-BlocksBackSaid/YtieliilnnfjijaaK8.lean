import Derived.Test.YtieliilnnfjijaaK7
set_option linter.all false
set_option linter.unusedSimpArgs false
set_option linter.unnecessarySimpa false
set_option linter.unusedVariables false
set_option linter.unusedSectionVars false
set_option maxRecDepth 100000
set_option maxHeartbeats 4000000
set_option linter.unusedSimpArgs false
set_option linter.unusedVariables false
namespace Go.Proofs.Ytieliilnnfjijaa
open Go.Ds
/-! ## A core and a quotient, joined -/
def joinW (C : List Int) (Q : List (List Int)) (T : Nat) : List (List Int) := (List.range T).map fun k => beadsR (Q.getD k []) (wireL (beadsR C (24 * T)) T k).length
def joinV (C : List Int) (Q : List (List Int)) (T : Nat) : List Int := shapeL (sortD (onK (joinW C Q T) T T))
theorem joinW_len (C : List Int) (Q : List (List Int)) (T : Nat) : (joinW C Q T).length = T := by simp [joinW]
theorem joinW_getD (C : List Int) (Q : List (List Int)) {T k : Nat} (h : k < T) : (joinW C Q T).getD k [] = beadsR (Q.getD k []) (wireL (beadsR C (24 * T)) T k).length := by
  rw [List.getD_eq_getElem?_getD]
  simp [joinW, h]
def upJ (B : List Int) : Nat → List Int
  | 0 => B
  | j + 1 => upB (upJ B j)
section
variable {T : Nat} (hT : 2 ≤ T ∧ T ≤ 6)
include hT
theorem upJ_nonneg {B : List Int} (hB : ∀ x ∈ B, 0 ≤ x) : ∀ j, ∀ x ∈ upJ B j, 0 ≤ x
  | 0 => hB
  | j + 1 => by
    have ih := upJ_nonneg hB j
    intro x hx
    simp only [upJ, upB, List.mem_append, List.mem_map, List.mem_singleton] at hx
    rcases hx with ⟨y, hy, rfl⟩ | rfl
    · have := ih y hy; omega
    · omega
theorem upJ_wire {B : List Int} (hB : ∀ x ∈ B, 0 ≤ x) : ∀ j, j ≤ T → ∀ k, k < T → wireL (upJ B j) T k = if j ≤ k then wireL B T (k - j) else upB (wireL B T (k + T - j))
  | 0, _, k, _ => by rw [if_pos (Nat.zero_le _)]; rfl
  | j + 1, hj, k, hk => by
    have ih := upJ_wire hB j (by omega)
    have hn := upJ_nonneg hT hB j
    show wireL (upB (upJ B j)) T k = _
    cases k with
    | zero =>
      rw [upB_wire0 hT hn, ih (T - 1) (by omega), if_pos (by omega), if_neg (by omega), show 0 + T - (j + 1) = T - 1 - j by omega]
      rfl
    | succ k =>
      rw [upB_wire1 hT hn hk, ih k (by omega)]
      by_cases c : j ≤ k
      · rw [if_pos c, if_pos (by omega), show k + 1 - (j + 1) = k - j by omega]
      · rw [if_neg c, if_neg (by omega), show k + 1 + T - (j + 1) = k + T - j by omega]
theorem beads_upJ {L : List Int} {n : Nat} (h : L.length ≤ n) : ∀ j, beadsR L (n + j) = upJ (beadsR L n) j
  | 0 => rfl
  | j + 1 => by
    rw [← Nat.add_assoc, beadsR_up hT (by omega), beads_upJ h j]; rfl
theorem quot_up {L : List Int} {m : Int} (hd : desc m L = true) {n : Nat} (h : L.length ≤ n) {k : Nat} (hk : k < T) : ∀ d, shapeL (wireL (beadsR L (n + d * T)) T k) = shapeL (wireL (beadsR L n) T k)
  | 0 => by rw [Nat.zero_mul, Nat.add_zero]
  | d + 1 => by
    have hD := beadsR_dsc (n := n + d * T) hd
    rw [Nat.succ_mul, ← Nat.add_assoc, beads_upJ hT (by omega) T, upJ_wire hT hD.2 T (Nat.le_refl _) k hk, if_neg (by omega), show k + T - T = k by omega, upB_shape hT]
    exact quot_up hd h hk d
theorem onK_nodup {WL : List (List Int)} (h : ∀ k, k < T → Dsc (WL.getD k [])) : ∀ k, k ≤ T → (onK WL T k).Nodup
  | 0, _ => List.nodup_nil
  | k + 1, hk => by
    rw [onK_succ, List.nodup_append]
    refine ⟨onK_nodup h k (by omega), ?_, ?_⟩
    · unfold onW
      rw [List.nodup_iff_pairwise_ne, List.pairwise_map]
      refine (h k (by omega)).1.imp ?_
      intro a b hab e
      rcases five hT with rfl | rfl | rfl | rfl | rfl <;> omega
    · intro a ha b hb e
      obtain ⟨j, hj, h, hh, rfl⟩ := onK_mem.1 ha
      unfold onW at hb
      rw [List.mem_map] at hb
      obtain ⟨h', _, rfl⟩ := hb
      rcases five hT with rfl | rfl | rfl | rfl | rfl <;> omega
/-- What is taken off the wires again. -/
theorem onK_back {WL : List (List Int)} {D : List Int} (hD : Dsc D) (h : ∀ k, k < T → WL.getD k [] = wireL D T k) : sortD (onK WL T T) = D := by
  have hdsc : ∀ k, k < T → Dsc (WL.getD k []) := fun k hk => by rw [h k hk]; exact wireL_dsc hT hD k
  have hmem : ∀ x, x ∈ onK WL T T ↔ x ∈ D := by
    intro x
    rw [onK_mem]
    constructor
    · rintro ⟨j, hj, w, hw, rfl⟩
      rw [h j hj] at hw
      exact (mem_wire hT hD.2 hj ((wireL_dsc hT hD j).2 w hw)).1 hw
    · intro hx
      obtain ⟨k, e, hk, _⟩ := tmod_bnd (b := x) (T := T) (hD.2 x hx) (by omega)
      obtain ⟨q1, q2⟩ := ar_eq hT (hD.2 x hx) e
      exact ⟨k, hk, x.tdiv T, by rw [h k hk]; exact (mem_wire hT hD.2 hk q2).2 (by rw [← q1]; exact hx), q1⟩
  refine Dsc.ext (sortD_dsc (onK_nodup hT hdsc T (Nat.le_refl _)) fun x hx => hD.2 x ((hmem x).1 hx)) hD fun x => ?_
  rw [sortD_mem]
  exact hmem x
theorem join_wire {L : List Int} (hS : isShape L = true) {k : Nat} (hk : k < T) : (joinW (coreM L T) (quotM L T) T).getD k [] = wireL (beadsR L (24 * T)) T k := by
  obtain ⟨c1, c2, c3⟩ := shape_facts hS
  have hd := divU_facts hT L.length
  obtain ⟨q, hq⟩ := hd.2.2
  have hle : divU L.length T ≤ 24 * T := by omega
  have hqT : q ≤ 24 := by
    rw [hq] at hle
    exact Nat.le_of_mul_le_mul_right hle (by omega)
  have hN : 24 * T = divU L.length T + (24 - q) * T := by rw [hq, ← Nat.add_mul]; congr 1; omega
  have hDn := beadsR_dsc (n := 24 * T) c2
  have hcore : beadsR (coreM L T) (24 * T) = coreS (beadsR L (24 * T)) T := by
    have hp := (pad hT c2 (24 * T - L.length)).2
    rw [show L.length + (24 * T - L.length) = 24 * T by omega] at hp
    have hb := shapeL_back (coreS_dsc hT (beadsR L (24 * T)))
    rw [coreS_len hT hDn.2, beadsR_len, hp, ← coreM_eq] at hb
    exact hb
  rw [joinW_getD _ _ hk, hcore, coreS_wire hT _ hk, beadsR_len]
  have hquot : (quotM L T).getD k [] = shapeL (wireL (beadsR L (24 * T)) T k) := by
    unfold quotM
    rw [quotL_getD _ hk]
    have := quot_up hT c2 (n := divU L.length T) hd.1 hk (24 - q)
    rw [← hN] at this
    exact this.symm
  rw [hquot]
  exact shapeL_back (wireL_dsc hT hDn k)
theorem join_back {L : List Int} (hS : isShape L = true) : sortD (onK (joinW (coreM L T) (quotM L T) T) T T) = beadsR L (24 * T) ∧ joinV (coreM L T) (quotM L T) T = L := by
  obtain ⟨c1, c2, c3⟩ := shape_facts hS
  have h := onK_back hT (beadsR_dsc (n := 24 * T) c2) fun k hk => join_wire hT hS hk
  refine ⟨h, ?_⟩
  unfold joinV
  rw [h, shapeL_beads c2 (by omega)]
/-- The quotient's shapes, and how many blocks they have. -/
theorem quot_facts {L : List Int} (hS : isShape L = true) : (quotM L T).length = T ∧ (∀ k, k < T → isShape ((quotM L T).getD k []) = true) ∧ sumL (rng T (fun k => sumL ((quotM L T).getD k []))) = manyM L T := by
  obtain ⟨c1, c2, c3⟩ := shape_facts hS
  have hd := divU_facts hT L.length
  have hD := beadsR_dsc (n := divU L.length T) c2
  have hsum : sumL (rng T (fun k => sumL ((quotM L T).getD k []))) = valB (beadsR L (divU L.length T)) T := by
    unfold valB
    congr 1
    refine rng_congr fun k hk => ?_
    unfold quotM
    rw [quotL_getD _ hk, shapeL_sum (wireL_dsc hT hD k)]
    rfl
  have hmany : sumL (rng T (fun k => sumL ((quotM L T).getD k []))) = manyM L T := by
    rw [hsum, manyM_eq hT hS]
    have := (pad hT c2 (divU L.length T - L.length)).1
    rw [show L.length + (divU L.length T - L.length) = divU L.length T by omega] at this
    exact this
  have hnn : ∀ k, k < T → 0 ≤ sumL ((quotM L T).getD k []) := by
    intro k hk
    unfold quotM
    rw [quotL_getD _ hk, shapeL_sum (wireL_dsc hT hD k)]
    exact (termB_nonneg hT hD k).1
  refine ⟨quotL_len _ T, fun k hk => ?_, hmany⟩
  have hle : sumL ((quotM L T).getD k []) ≤ 40 := by
    have hm := many_le hT hS
    rw [← hmany] at hm
    have hsplit : ∀ (n : Nat) (f : Nat → Int), (∀ i, i < n → 0 ≤ f i) → ∀ k, k < n → f k ≤ sumL (rng n f) := by
      intro n f
      induction n with
      | zero => intro _ k h; omega
      | succ n ih =>
        intro h0 k hk
        rw [rng_succ, sumL_app]
        have h1 := (sum_zero_of (n := n) (f := f) fun i hi => h0 i (by omega)).1
        have h2 := h0 n (by omega)
        simp only [sumL, Int.add_zero]
        by_cases c : k = n
        · subst c; omega
        · have := ih (fun i hi => h0 i (by omega)) k (by omega)
          omega
    have h3 : sumL ((quotM L T).getD k []) ≤ sumL (rng T (fun k => sumL ((quotM L T).getD k []))) := hsplit T (fun k => sumL ((quotM L T).getD k [])) hnn k hk
    omega
  have hlen := quot_rows hT c2 (n := divU L.length T) hd.1 hk
  obtain ⟨M, hM⟩ := shapeL_desc' (wireL_dsc hT hD k)
  have hq : (quotM L T).getD k [] = shapeL (wireL (beadsR L (divU L.length T)) T k) := by unfold quotM; rw [quotL_getD _ hk]
  rw [hq] at hle ⊢
  have hd40 := desc_mono (m' := 40) hM fun x hx => by have := mem_le_sum hM x hx; omega
  unfold isShape
  rw [hd40, decide_eq_true (show (shapeL (wireL (beadsR L (divU L.length T)) T k)).length ≤ 12 by omega), decide_eq_true hle]; rfl
end
end Go.Proofs.Ytieliilnnfjijaa
set_option maxRecDepth 100000
set_option maxHeartbeats 8000000
set_option linter.unusedSimpArgs false
set_option linter.unusedVariables false
namespace Go.Proofs.Ytieliilnnfjijaa
open Go.Ds
theorem notShape_rets {X : Caller} (hX : Xok X) (L : List Int) (hL : L.length < 1000000) (s : Value) (g : GH) (hs : SlR g s (ints L)) :
    Rets Try.prog X 76 [s] g (fun v g' lo => Kept g g' ∧ g'.ok ∧ g.next ≤ lo ∧ v = .bool (!isShape L)) := by
  refine Rets.run hX.pres p76 (hX.free 76 (by decide) _ _) rfl fun ho => ?_
  simp +decide (disch := first | assumption | (apply GH.ok_push; assumption) | exact cellV_int _ _ | exact cellV_bool _ | omega) only [go_sem, ↓reduceIte, Nat.reduceEqDiff, Nat.reduceAdd, Int.reduceToNat]
  refine CallD.calm (isShape_rets hX L hL s _ hs) ?_
  rintro v G hx rfl
  have hn := hx.next
  have hok := hx.ok ho
  simp +decide (disch := first | assumption | (apply GH.ok_push; assumption) | exact cellV_int _ _ | exact cellV_bool _ | omega) only [go_sem, ↓reduceIte, Nat.reduceEqDiff, Nat.reduceAdd, Int.reduceToNat]
  intro hx0
  exact ⟨hx.kept, hok, Nat.le_refl _, rfl⟩
theorem indexF_rets {X : Caller} (hX : Xok X) (Q : List (List Int)) (hQ : ∀ q ∈ Q, isShape q = true) (hl : Q.length ≤ 1000) (s : Value) (g : GH) (hs : Sl2 g s Q) :
    Rets Try.prog X 81 [s, .func (.func 76) #[] #[]] g (fun v g' lo => g.next ≤ lo ∧ v = .int .i64 (-1)) := by
  refine Rets.run hX.pres p81 (hX.free 81 (by decide) _ _) rfl fun ho => ?_
  have hlen := hs.len
  simp +decide (disch := first | assumption | (apply GH.ok_push; assumption) | exact cellV_int _ _ | exact cellV_bool _ | omega) only [go_sem, ↓reduceIte, Nat.reduceEqDiff, Nat.reduceAdd, Int.reduceToNat, hlen]
  refine Wk.loops (fun m e g' lo => Kept g g' ∧ g.next ≤ lo ∧ ∃ i : Nat, i + m = Q.length ∧ (ev e (.s 0) = s ∧ ev e (.s 1) = .func (.func 76) #[] #[] ∧ ev e (.s 7) = .int .i64 Q.length ∧ ev e (.s 8) = .int .i64 i))
    (fun e g' lo => g.next ≤ lo) (n := Q.length) ?_ ?_ ?_
  · exact ⟨Kept.refl _, Nat.le_refl _, 0, by omega, (by simp +decide (disch := first | assumption | (apply GH.ok_push; assumption) | exact cellV_int _ _ | exact cellV_bool _ | omega) only [go_sem, ↓reduceIte, Nat.reduceEqDiff, Nat.reduceAdd, Int.reduceToNat]; first | done | exact rfl)⟩
  · rintro e g' lo hog - hlo
    simp +decide (disch := first | assumption | (apply GH.ok_push; assumption) | exact cellV_int _ _ | exact cellV_bool _ | omega) only [go_sem, ↓reduceIte, Nat.reduceEqDiff, Nat.reduceAdd, Int.reduceToNat]
    intro hx
    exact ⟨hlo, rfl⟩
  · rintro m e g' lo ho' hl' ih out ⟨hk, hlo, i, hi, he⟩
    by_cases c : i < Q.length
    · obtain ⟨u, j1, o1, hj1, hp1, hp2, hu⟩ := (hs.kept hk).ptr c
      have hp1 := hp1 (i : Int) rfl
      have hm : Q.getD i [] ∈ Q := by rw [List.getD_eq_getElem?_getD, List.getElem?_eq_getElem c]; exact List.getElem_mem _
      have hsh := hQ _ hm
      have hln := (shape_facts hsh).1
      have hgn := hk.next
      simp +decide (disch := first | assumption | (apply GH.ok_push; assumption) | exact cellV_int _ _ | exact cellV_bool _ | omega) only [go_sem, ↓reduceIte, Nat.reduceEqDiff, Nat.reduceAdd, Int.reduceToNat, he, hp1, hp2]
      refine CallV.go rfl (notShape_rets hX _ (by omega) u g' hu) ?_
      rintro v G lo2 wr hx ⟨hk2, hok2, h2, rfl⟩
      rw [hsh]
      simp +decide (disch := first | assumption | (apply GH.ok_push; assumption) | exact cellV_int _ _ | exact cellV_bool _ | omega) only [go_sem, ↓reduceIte, Nat.reduceEqDiff, Nat.reduceAdd, Int.reduceToNat, he]
      exact ih (m - 1) _ _ _ (by omega) ⟨hk.trans hk2, by omega, i + 1, by omega, (by simp +decide (disch := first | assumption | (apply GH.ok_push; assumption) | exact cellV_int _ _ | exact cellV_bool _ | omega) only [go_sem, ↓reduceIte, Nat.reduceEqDiff, Nat.reduceAdd, Int.reduceToNat, he]; first | done | exact rfl)⟩
    · simp +decide (disch := first | assumption | (apply GH.ok_push; assumption) | exact cellV_int _ _ | exact cellV_bool _ | omega) only [go_sem, ↓reduceIte, Nat.reduceEqDiff, Nat.reduceAdd, Int.reduceToNat, he]
      exact out _ _ _ hlo
theorem areShapes_rets {X : Caller} (hX : Xok X) (Q : List (List Int)) (hQ : ∀ q ∈ Q, isShape q = true) (hT : 2 ≤ Q.length ∧ Q.length ≤ 6) (s : Value) (g : GH) (hs : Sl2 g s Q) :
    Rets Try.prog X 63 [s] g (fun v g' lo => g.next ≤ lo ∧ v = .bool true) := by
  refine Rets.run hX.pres p63 (hX.free 63 (by decide) _ _) rfl fun ho => ?_
  have hlen := hs.len
  have hW : isWires (Q.length : Int) = true := by simp [isWires]; omega
  simp +decide (disch := first | assumption | (apply GH.ok_push; assumption) | exact cellV_int _ _ | exact cellV_bool _ | omega) only [go_sem, ↓reduceIte, Nat.reduceEqDiff, Nat.reduceAdd, Int.reduceToNat, hlen]
  refine CallD.calm (wires_rets hX _ _) ?_
  rintro v G1 hx1 rfl
  have hn1 := hx1.next
  simp +decide (disch := first | assumption | (apply GH.ok_push; assumption) | exact cellV_int _ _ | exact cellV_bool _ | omega) only [go_sem, ↓reduceIte, Nat.reduceEqDiff, Nat.reduceAdd, Int.reduceToNat, hW]
  have hcall : Rets Try.prog X 77 [s, .func (.func 76) #[] #[]] G1 (fun v g' lo => G1.next ≤ lo ∧ v = .bool false) := by
    refine Rets.run hX.pres p77 (hX.free 77 (by decide) _ _) rfl fun ho => ?_
    simp +decide (disch := first | assumption | (apply GH.ok_push; assumption) | exact cellV_int _ _ | exact cellV_bool _ | omega) only [go_sem, ↓reduceIte, Nat.reduceEqDiff, Nat.reduceAdd, Int.reduceToNat]
    refine CallD.calm (indexF_rets hX Q hQ (by omega) s _ (hs.kept hx1.kept)) ?_
    rintro v G hx rfl
    simp +decide (disch := first | assumption | (apply GH.ok_push; assumption) | exact cellV_int _ _ | exact cellV_bool _ | omega) only [go_sem, ↓reduceIte, Nat.reduceEqDiff, Nat.reduceAdd, Int.reduceToNat]
    intro hx0
    exact ⟨Nat.le_refl _, rfl⟩
  refine CallD.calm hcall ?_
  rintro v G2 hx2 rfl
  simp +decide (disch := first | assumption | (apply GH.ok_push; assumption) | exact cellV_int _ _ | exact cellV_bool _ | omega) only [go_sem, ↓reduceIte, Nat.reduceEqDiff, Nat.reduceAdd, Int.reduceToNat]
  intro hx0
  exact ⟨Nat.le_refl _, rfl⟩
/-- The program's join. -/
theorem joined_rets {X : Caller} (hX : Xok X) (C : List Int) (Q : List (List Int)) (T : Nat) (hT : 2 ≤ T ∧ T ≤ 6) (hQl : Q.length = T) (hC : isShape C = true) (hq : ∀ k, k < T → Fits (Q.getD k []) ∧ (Q.getD k []).length ≤ (wireL (beadsR C (24 * T)) T k).length)
    (hH : ∀ W ∈ joinW C Q T, Hts W) (hfit : Fits (sortD (onK (joinW C Q T) T T))) (hK : (onK (joinW C Q T) T T).length ≤ 10000) (s q : Value) (g : GH) (hs : SlR g s (ints C)) (hsq : Sl2 g q Q) :
    Rets Try.prog X 64 [s, q] g (fun v g' lo => g.next ≤ lo ∧ SlR g' v (ints (joinV C Q T))) := by
  have hlen := hsq.len
  rw [hQl] at hlen
  obtain ⟨c1, c2, c3⟩ := shape_facts hC
  refine Rets.run hX.pres p64 (hX.free 64 (by decide) _ _) rfl fun ho => ?_
  have hmul : (24 : Int) * T = ((24 * T : Nat) : Int) := by push_cast; rfl
  simp +decide (disch := first | assumption | (apply GH.ok_push; assumption) | exact cellV_int _ _ | exact cellV_bool _ | omega) only [go_sem, ↓reduceIte, Nat.reduceEqDiff, Nat.reduceAdd, Int.reduceToNat, hlen, hmul]
  refine CallD.calm (beads_rets hX C (desc_fits c2 (by omega)) (24 * T) (by omega) (by omega) s g hs) ?_
  rintro b G1 hx1 hb
  have hn1 := hx1.next
  have hlt := beadsR_lt (n := 24 * T) (by omega) c2
  have hBl := beadsR_len C (24 * T)
  have hsortl : (sortD (onK (joinW C Q T) T T)).length = (onK (joinW C Q T) T T).length := (sortD_perm _).length_eq
  have hfl := hfit.1
  have hjl := joinW_len C Q T
  have hjg : ∀ k, k < T → (joinW C Q T)[k]? = some (beadsR (Q.getD k []) (wireL (beadsR C (24 * T)) T k).length) := fun k hk => by simp [joinW, hk]
  obtain ⟨B, hBe⟩ : ∃ B, beadsR C (24 * T) = B := ⟨_, rfl⟩
  rw [hBe] at hb hlt hBl hjg
  simp only [hBe] at hq
  simp +decide (disch := first | assumption | (apply GH.ok_push; assumption) | exact cellV_int _ _ | exact cellV_bool _ | omega) only [go_sem, ↓reduceIte, Nat.reduceEqDiff, Nat.reduceAdd, Int.reduceToNat]
  refine CallD.calm (wires_rets2 hX B (by omega) (fun x hx => by have := hlt x hx; omega) T hT b G1 hb) ?_
  rintro w G2 hx2 ⟨hk2, hok2, rfl, vs, F, hW⟩
  have hn2 := hx2.next
  have hlt2 := hW.lt
  have hsq2 := (hsq.kept hx1.kept).kept hk2
  simp +decide (disch := first | assumption | (apply GH.ok_push; assumption) | exact cellV_int _ _ | exact cellV_bool _ | omega) only [go_sem, ↓reduceIte, Nat.reduceEqDiff, Nat.reduceAdd, Int.reduceToNat, hlen]
  refine Wk.loops (fun m e g' lo => g.next ≤ lo ∧ Kept G1 g' ∧ G2.next ≤ g'.next ∧ ∃ i : Nat, i + m = T ∧ (ev e (.s 6) = .slice (some ⟨G1.next, 0, none⟩) T T ∧ ev e (.s 17) = q ∧ ev e (.s 18) = .int .i64 T ∧ ev e (.s 19) = .int .i64 i) ∧
        ∃ vs, g'.get G1.next = cellsOb vs 22 ∧ vs.length = T ∧ ∀ k v, vs[k]? = some v → SlR g' v (ints (if k < i then beadsR (Q.getD k []) (wireL B T k).length else wireL B T k)) ∧ ∀ a l c, v = .slice (some a) l c → a.block ≠ G1.next)
    (fun e g' lo => g.next ≤ lo ∧ Kept G1 g' ∧ ev e (.s 6) = .slice (some ⟨G1.next, 0, none⟩) T T ∧ Sl2 g' (.slice (some ⟨G1.next, 0, none⟩) T T) (joinW C Q T)) (n := T) ?_ ?_ ?_
  · refine ⟨by omega, hk2, Nat.le_refl _, 0, by omega, (by simp +decide (disch := first | assumption | (apply GH.ok_push; assumption) | exact cellV_int _ _ | exact cellV_bool _ | omega) only [go_sem, ↓reduceIte, Nat.reduceEqDiff, Nat.reduceAdd, Int.reduceToNat, hlen]; first | done | exact rfl), vs, hW.get, hW.len, fun k v hv => ⟨?_, fun a l c e => ?_⟩⟩
    · rw [if_neg (by omega)]; exact (hW.own k v hv).read
    · rcases hW.own k v hv with ⟨q, _⟩ | ⟨j, q, _, _, _, q2, q3, _⟩
      · rw [q] at e; cases e
      · rw [q] at e; cases e; show j ≠ G1.next; omega
  · rintro e g' lo hog - ⟨hlo, hk, he, hsl⟩
    have hgk := hk.next
    have hon := beadsOn_rets hX (joinW C Q T) hH (by omega) (by rw [hjl]; omega) _ g' hsl
    rw [hjl] at hon
    simp +decide (disch := first | assumption | (apply GH.ok_push; assumption) | exact cellV_int _ _ | exact cellV_bool _ | omega) only [go_sem, ↓reduceIte, Nat.reduceEqDiff, Nat.reduceAdd, Int.reduceToNat, he]
    refine CallD.calm hon ?_
    rintro v G4 hx4 hv
    have hn4 := hx4.next
    simp +decide (disch := first | assumption | (apply GH.ok_push; assumption) | exact cellV_int _ _ | exact cellV_bool _ | omega) only [go_sem, ↓reduceIte, Nat.reduceEqDiff, Nat.reduceAdd, Int.reduceToNat, he]
    refine CallD.calm (shapeOf_rets hX _ hfit v G4 hv) ?_
    rintro v2 G5 hx5 hv2
    have hn5 := hx5.next
    simp +decide (disch := first | assumption | (apply GH.ok_push; assumption) | exact cellV_int _ _ | exact cellV_bool _ | omega) only [go_sem, ↓reduceIte, Nat.reduceEqDiff, Nat.reduceAdd, Int.reduceToNat, he]
    intro hx0
    exact ⟨by omega, hv2⟩
  · rintro m e g' lo ho' hl' ih out ⟨hlo, hk, hG3, i, hi, he, vs, hget, hvl, hvs⟩
    have hgk := hk.next
    by_cases ci : i < T
    · have hvk := List.getElem?_eq_getElem (show i < vs.length by omega)
      obtain ⟨u, hu⟩ : ∃ u, vs[i]'(by omega) = u := ⟨_, rfl⟩
      rw [hu] at hvk
      obtain ⟨hur, hub⟩ := hvs i u hvk
      rw [if_neg (by omega)] at hur
      have hlu := hur.len
      rw [ints_len] at hlu
      have hwl := wireL_len B T i
      have hia := iaddrS_at (j := G1.next) (n := T) (c := T) (m := i) (x := (i : Int)) rfl ci
      obtain ⟨z, jq, oq, hjq, hp1, hp2, hz⟩ := ((hsq.kept hx1.kept).kept hk).ptr (i := i) (by omega)
      have hp1 := hp1 (i : Int) rfl
      obtain ⟨hq1, hq2⟩ := hq i ci
      simp +decide (disch := first | assumption | (apply GH.ok_push; assumption) | exact cellV_int _ _ | exact cellV_bool _ | omega) only [go_sem, ↓reduceIte, Nat.reduceEqDiff, Nat.reduceAdd, Int.reduceToNat, he, hia, hget, hvk, hlu, hp1, hp2]
      refine CallD.calm (beadsAt_rets hX (Q.getD i []) hq1 (wireL B T i).length hq2 (by omega) z g' hz) ?_
      rintro w G4 hx4 ⟨rfl, hw4⟩
      have hn4 := hx4.next
      have hget4 : G4.get G1.next = cellsOb vs 22 := (hx4.gets _ (by omega)).trans hget
      have hlt4 : G1.next < G4.next := by omega
      simp +decide (disch := first | assumption | (apply GH.ok_push; assumption) | exact cellV_int _ _ | exact cellV_bool _ | omega) only [go_sem, ↓reduceIte, Nat.reduceEqDiff, Nat.reduceAdd, Int.reduceToNat, he, hia, hget4, hvl]
      have hw := Wrote.set (o := cellsOb (splice i vs [.slice (some ⟨g'.next, 0, none⟩) (wireL B T i).length (wireL B T i).length]) 22) hget4 Nat.one_ne_zero (hx4.ok ho')
      rw [splice_set _ _ _ (by omega)] at hw ⊢
      have hnx := hw.next
      refine ih (m - 1) _ _ _ (by omega) ⟨by omega, hw.kept (hk.ext hx4) (Nat.le_refl _), by omega, i + 1, by omega, (by simp +decide (disch := first | assumption | (apply GH.ok_push; assumption) | exact cellV_int _ _ | exact cellV_bool _ | omega) only [go_sem, ↓reduceIte, Nat.reduceEqDiff, Nat.reduceAdd, Int.reduceToNat, he]; first | done | exact rfl), _, hw.get, by simp [hvl], fun k v hv => ?_⟩
      by_cases c : k = i
      · subst c
        rw [List.getElem?_set_self (by omega)] at hv
        cases hv
        rw [if_pos (by omega)]
        refine ⟨hw4.wrote hw fun a l c e => ?_, fun a l c e => ?_⟩
        · cases e; show g'.next ≠ G1.next; omega
        · cases e; show g'.next ≠ G1.next; omega
      · rw [List.getElem?_set_ne (Ne.symm c)] at hv
        obtain ⟨q1, q2⟩ := hvs k v hv
        refine ⟨?_, q2⟩
        have := (q1.ext hx4).wrote hw q2
        by_cases c2 : k < i
        · rw [if_pos c2] at this; rw [if_pos (by omega)]; exact this
        · rw [if_neg c2] at this; rw [if_neg (by omega)]; exact this
    · have : i = T := by omega
      subst this
      simp +decide (disch := first | assumption | (apply GH.ok_push; assumption) | exact cellV_int _ _ | exact cellV_bool _ | omega) only [go_sem, ↓reduceIte, Nat.reduceEqDiff, Nat.reduceAdd, Int.reduceToNat, he]
      refine out _ _ _ ⟨hlo, hk, (by simp +decide (disch := first | assumption | (apply GH.ok_push; assumption) | exact cellV_int _ _ | exact cellV_bool _ | omega) only [go_sem, ↓reduceIte, Nat.reduceEqDiff, Nat.reduceAdd, Int.reduceToNat, he]; first | done | exact rfl), vs, SlR.whole hget (by omega) hvl.symm, by rw [hvl, hjl], fun k v L h1 h2 => ?_⟩
      have hkT : k < i := by have := (List.getElem?_eq_some_iff.1 h1).1; omega
      have := (hvs k v h1).1
      rw [if_pos hkT] at this
      rw [hjg k hkT] at h2
      cases h2
      exact this
end Go.Proofs.Ytieliilnnfjijaa
set_option maxRecDepth 100000
set_option maxHeartbeats 8000000
set_option linter.unusedSimpArgs false
set_option linter.unusedVariables false
namespace Go.Proofs.Ytieliilnnfjijaa
open Go.Ds
/-- Of, for a core and the quotient of a shape. -/
theorem ofBack_rets {X : Caller} (hX : Xok X) (L : List Int) (hS : isShape L = true) (T : Nat) (hT : 2 ≤ T ∧ T ≤ 6) (s q : Value) (g : GH) (hs : SlR g s (ints (coreM L T))) (hsq : Sl2 g q (quotM L T)) :
    Rets Try.prog X 35 [s, q] g (fun v g' lo => g.next ≤ lo ∧ ∃ u, v = .tuple #[u, .int .i64 0] ∧ SlR g' u (ints L)) := by
  obtain ⟨c1, c2, c3⟩ := shape_facts hS
  obtain ⟨k1, k2, k3⟩ := core_all hT hS
  obtain ⟨m1, m2, m3⟩ := quot_facts hT hS
  obtain ⟨j1, j2⟩ := join_back hT hS
  have hDn := beadsR_dsc (n := 24 * T) c2
  have hDlt := beadsR_lt (n := 24 * T) (by omega) c2
  have hDl := beadsR_len L (24 * T)
  have hcl := (shape_facts k1).1
  have hQ : ∀ x ∈ quotM L T, isShape x = true := by
    intro x hx
    obtain ⟨k, hk, rfl⟩ := List.mem_iff_getElem.1 hx
    have := m2 k (by omega)
    rwa [List.getD_eq_getElem?_getD, List.getElem?_eq_getElem hk] at this
  have hwl : ∀ k, k < T → (wireL (beadsR (coreM L T) (24 * T)) T k).length = (wireL (beadsR L (24 * T)) T k).length := by
    intro k hk
    have h1 := join_wire hT hS hk
    rw [joinW_getD _ _ hk] at h1
    have h2 := congrArg List.length h1
    rwa [beadsR_len] at h2
  have hqk : ∀ k, k < T → (quotM L T).getD k [] = shapeL (wireL (beadsR L (24 * T)) T k) := by
    intro k hk
    have hd := divU_facts hT L.length
    obtain ⟨q', hq'⟩ := hd.2.2
    have hle : divU L.length T ≤ 24 * T := by omega
    have hqT : q' ≤ 24 := by
      rw [hq'] at hle
      exact Nat.le_of_mul_le_mul_right hle (by omega)
    have hN : 24 * T = divU L.length T + (24 - q') * T := by rw [hq', ← Nat.add_mul]; congr 1; omega
    unfold quotM
    rw [quotL_getD _ hk]
    have := quot_up hT c2 (n := divU L.length T) hd.1 hk (24 - q')
    rw [← hN] at this
    exact this.symm
  have hq : ∀ k, k < T → Fits ((quotM L T).getD k []) ∧ ((quotM L T).getD k []).length ≤ (wireL (beadsR (coreM L T) (24 * T)) T k).length := by
    intro k hk
    refine ⟨sumL_shape (m2 k hk), ?_⟩
    rw [hwl k hk, hqk k hk]
    exact shapeK_len _ _
  have hDh : Hts (beadsR L (24 * T)) := ⟨by omega, fun x hx => by have := hDlt x hx; omega⟩
  have hH : ∀ W ∈ joinW (coreM L T) (quotM L T) T, Hts W := by
    intro W hW
    obtain ⟨k, hk, rfl⟩ := List.mem_iff_getElem.1 hW
    have hkT : k < T := by rw [joinW_len] at hk; exact hk
    have h1 := join_wire hT hS hkT
    rw [List.getD_eq_getElem?_getD, List.getElem?_eq_getElem hk] at h1
    simp only [Option.getD_some] at h1
    rw [h1]
    have h2 := wireL_len (beadsR L (24 * T)) T k
    refine ⟨by omega, fun x hx => ?_⟩
    have h0 := (wireL_dsc hT hDn k).2 x hx
    simp only [wireL, List.mem_map, List.mem_filter] at hx
    obtain ⟨y, ⟨hy, _⟩, rfl⟩ := hx
    have hyb := hDlt y hy
    obtain ⟨k', _, _, z, hz, hle⟩ := tmod_bnd (b := y) (T := T) hyb.1 (by omega)
    omega
  have hfit : Fits (sortD (onK (joinW (coreM L T) (quotM L T) T) T T)) := by rw [j1]; exact hDh.fits
  have hK : (onK (joinW (coreM L T) (quotM L T) T) T T).length ≤ 10000 := by
    have := (sortD_perm (onK (joinW (coreM L T) (quotM L T) T) T T)).length_eq
    rw [j1, hDl] at this
    omega
  have hlen := hsq.len
  rw [m1] at hlen
  refine Rets.run hX.pres p35 (hX.free 35 (by decide) _ _) rfl fun ho => ?_
  simp +decide (disch := first | assumption | (apply GH.ok_push; assumption) | exact cellV_int _ _ | exact cellV_bool _ | omega) only [go_sem, ↓reduceIte, Nat.reduceEqDiff, Nat.reduceAdd, Int.reduceToNat]
  refine CallD.calm (isShape_rets hX _ (by omega) s g hs) ?_
  rintro v G1 hx1 rfl
  have hn1 := hx1.next
  have hs1 := hs.ext hx1
  have hq1 := hsq.kept hx1.kept
  simp +decide (disch := first | assumption | (apply GH.ok_push; assumption) | exact cellV_int _ _ | exact cellV_bool _ | omega) only [go_sem, ↓reduceIte, Nat.reduceEqDiff, Nat.reduceAdd, Int.reduceToNat, k1]
  refine CallD.calm (areShapes_rets hX _ hQ (by omega) q G1 hq1) ?_
  rintro v G2 hx2 rfl
  have hn2 := hx2.next
  have hs2 := hs1.ext hx2
  have hq2 := hq1.kept hx2.kept
  simp +decide (disch := first | assumption | (apply GH.ok_push; assumption) | exact cellV_int _ _ | exact cellV_bool _ | omega) only [go_sem, ↓reduceIte, Nat.reduceEqDiff, Nat.reduceAdd, Int.reduceToNat, hlen]
  refine CallD.calm (isCore_rets hX _ k1 T hT s G2 hs2) ?_
  rintro v G3 hx3 rfl
  have hn3 := hx3.next
  have hs3 := hs2.ext hx3
  have hq3 := hq2.kept hx3.kept
  have hcz : decide (manyM (coreM L T) T = 0) = true := decide_eq_true k2
  simp +decide (disch := first | assumption | (apply GH.ok_push; assumption) | exact cellV_int _ _ | exact cellV_bool _ | omega) only [go_sem, ↓reduceIte, Nat.reduceEqDiff, Nat.reduceAdd, Int.reduceToNat, hcz]
  have hj := joined_rets hX (coreM L T) (quotM L T) T hT m1 k1 hq hH hfit hK s q G3 hs3 hq3
  rw [j2] at hj
  refine CallD.calm hj ?_
  rintro u G4 hx4 hu
  have hn4 := hx4.next
  simp +decide (disch := first | assumption | (apply GH.ok_push; assumption) | exact cellV_int _ _ | exact cellV_bool _ | omega) only [go_sem, ↓reduceIte, Nat.reduceEqDiff, Nat.reduceAdd, Int.reduceToNat]
  refine CallD.calm (isShape_rets hX L (by omega) u G4 hu) ?_
  rintro v G5 hx5 rfl
  have hn5 := hx5.next
  have hu5 := hu.ext hx5
  simp +decide (disch := first | assumption | (apply GH.ok_push; assumption) | exact cellV_int _ _ | exact cellV_bool _ | omega) only [go_sem, ↓reduceIte, Nat.reduceEqDiff, Nat.reduceAdd, Int.reduceToNat, hS]
  intro hx0
  exact ⟨Nat.le_refl _, u, rfl, hu5⟩
end Go.Proofs.Ytieliilnnfjijaa
set_option maxRecDepth 100000
set_option maxHeartbeats 8000000
set_option linter.unusedSimpArgs false
set_option linter.unusedVariables false
namespace Go.Proofs.Ytieliilnnfjijaa
open Go.Ds
theorem sum_bnd {f : Nat → Int} : ∀ n, (∀ i, i < n → 0 ≤ f i ∧ f i ≤ 40) → 0 ≤ sumL (rng n f) ∧ sumL (rng n f) ≤ 40 * n
  | 0, _ => by simp [rng, sumL]
  | n + 1, h => by
    have ih := sum_bnd n fun i hi => h i (by omega)
    have := h n (by omega)
    rw [rng_succ, sumL_app]
    simp only [sumL, Int.add_zero]
    omega
theorem shape_sum {L : List Int} (h : isShape L = true) : 0 ≤ sumL L ∧ sumL L ≤ 40 := by
  obtain ⟨c1, c2, c3⟩ := shape_facts h
  refine ⟨?_, c3⟩
  cases L with
  | nil => exact Int.le_refl _
  | cons a l =>
    have h1 := mem_le_sum c2 a List.mem_cons_self
    have h2 := desc_le c2 a List.mem_cons_self
    omega
/-- The law of the way back. -/
theorem backLaw_rets {X : Caller} (hX : Xok X) (L : List Int) (w : Int) (w0 : 0 ≤ w) (w1 : w < 256) (s : Value) (g : GH) (hs : SlR g s (ints L)) :
    Rets Try.prog X 9 [s, .int .u8 w] g (fun v g' lo => g.next ≤ lo ∧ v = .bool true) := by
  have e0 : ∀ a b : Value, extF (.tuple #[a, b]) 0 = some a := fun _ _ => rfl
  have e1 : ∀ a b : Value, extF (.tuple #[a, b]) 1 = some b := fun _ _ => rfl
  refine Rets.run hX.pres p9 (hX.free 9 (by decide) _ _) rfl fun ho => ?_
  simp +decide (disch := first | assumption | (apply GH.ok_push; assumption) | exact cellV_int _ _ | exact cellV_bool _ | omega) only [go_sem, ↓reduceIte, Nat.reduceEqDiff, Nat.reduceAdd, Int.reduceToNat]
  refine CallD.calm (few_rets hX L [] s _ g hs Sl2.nil) ?_
  rintro v G hx rfl
  have hn := hx.next
  have hs1 := hs.ext hx
  by_cases c : L.length ≤ 60
  case neg =>
    have hf : fewB L [] = false := by simp [fewB, c]
    simp +decide (disch := first | assumption | (apply GH.ok_push; assumption) | exact cellV_int _ _ | exact cellV_bool _ | omega) only [go_sem, ↓reduceIte, Nat.reduceEqDiff, Nat.reduceAdd, Int.reduceToNat, hf]
    refine CallD.calm (hX.alive G) ?_
    rintro v G1 hx1 rfl
    have hn1 := hx1.next
    simp +decide (disch := first | assumption | (apply GH.ok_push; assumption) | exact cellV_int _ _ | exact cellV_bool _ | omega) only [go_sem, ↓reduceIte, Nat.reduceEqDiff, Nat.reduceAdd, Int.reduceToNat]
    intro hx0
    exact ⟨by omega, rfl⟩
  have hf : fewB L [] = true := by simp [fewB, c]
  simp +decide (disch := first | assumption | (apply GH.ok_push; assumption) | exact cellV_int _ _ | exact cellV_bool _ | omega) only [go_sem, ↓reduceIte, Nat.reduceEqDiff, Nat.reduceAdd, Int.reduceToNat, hf]
  refine CallD.calm (refIsShape_rets hX L (by omega) s G hs1) ?_
  rintro v G1 hx1 rfl
  have hn1 := hx1.next
  have hs2 := hs1.ext hx1
  by_cases cS : isShape L = true
  case neg =>
    have cS' : isShape L = false := by simpa using cS
    simp +decide (disch := first | assumption | (apply GH.ok_push; assumption) | exact cellV_int _ _ | exact cellV_bool _ | omega) only [go_sem, ↓reduceIte, Nat.reduceEqDiff, Nat.reduceAdd, Int.reduceToNat, cS']
    refine CallD.calm (hX.alive G1) ?_
    rintro v G2 hx2 rfl
    have hn2 := hx2.next
    simp +decide (disch := first | assumption | (apply GH.ok_push; assumption) | exact cellV_int _ _ | exact cellV_bool _ | omega) only [go_sem, ↓reduceIte, Nat.reduceEqDiff, Nat.reduceAdd, Int.reduceToNat]
    intro hx0
    exact ⟨by omega, rfl⟩
  simp +decide (disch := first | assumption | (apply GH.ok_push; assumption) | exact cellV_int _ _ | exact cellV_bool _ | omega) only [go_sem, ↓reduceIte, Nat.reduceEqDiff, Nat.reduceAdd, Int.reduceToNat, cS]
  refine CallD.calm (wireNo_rets hX w w0 w1 G1) ?_
  rintro v G2 hx2 ⟨T, rfl, hT1, hT2⟩
  have hn2 := hx2.next
  have hs3 := hs2.ext hx2
  have hT : 2 ≤ T ∧ T ≤ 6 := ⟨hT1, hT2⟩
  have hW : isWires (T : Int) = true := by simp [isWires]; omega
  have hTn : ((T : Nat) : Int).toNat = T := Int.toNat_natCast T
  obtain ⟨k1, k2, k3⟩ := core_all hT cS
  have k40 := many_le hT cS
  have k0 := many_nonneg hT cS
  obtain ⟨m1, m2, m3⟩ := quot_facts hT cS
  have eC : coreT L T = (coreM L T, manyM L T, 0) := by rw [coreT, if_pos ⟨cS, hW⟩, hTn]
  have eQ : quotT L T = (quotM L T, 0) := by rw [quotT, if_pos ⟨cS, hW⟩, hTn]
  have hLs := shape_sum cS
  have hCs := shape_sum k1
  have hCl := (shape_facts k1).1
  have hback := fun s' q' g' => ofBack_rets hX L cS T hT s' q' g'
  obtain ⟨C, hC⟩ : ∃ C, coreM L T = C := ⟨_, rfl⟩
  obtain ⟨Q, hQ⟩ : ∃ Q, quotM L T = Q := ⟨_, rfl⟩
  obtain ⟨M, hM⟩ : ∃ M, manyM L T = M := ⟨_, rfl⟩
  have hCore := fun s' g' h => coreT_rets hX L (by omega) T s' g' h
  have hQuot := fun s' g' h => quotT_rets hX L (by omega) T s' g' h
  rw [eC] at hCore
  rw [eQ] at hQuot
  simp only [hC, hM] at hCore
  simp only [hQ] at hQuot
  simp only [hC, hQ] at hback
  rw [hC] at k1 k3 hCs hCl
  rw [hM] at k3 k40 k0
  rw [hQ] at m1 m2
  rw [hQ, hM] at m3
  obtain ⟨P, hP⟩ : ∃ P, (T : Int) * M = P := ⟨_, rfl⟩
  rw [hP] at k3
  have hf1 := fun (i : Nat) (hi : i < T) => shape_sum (m2 i hi)
  simp +decide (disch := first | assumption | (apply GH.ok_push; assumption) | exact cellV_int _ _ | exact cellV_bool _ | omega) only [go_sem, ↓reduceIte, Nat.reduceEqDiff, Nat.reduceAdd, Int.reduceToNat]
  refine CallD.calm (hCore s _ hs3) ?_
  rintro v G3 hx3 ⟨cv, rfl, hcv⟩
  have hn3 := hx3.next
  have hs4 := hs3.ext hx3
  have hcv : SlR G3 cv (ints C) := hcv
  simp +decide (disch := first | assumption | (apply GH.ok_push; assumption) | exact cellV_int _ _ | exact cellV_bool _ | omega) only [go_sem, ↓reduceIte, Nat.reduceEqDiff, Nat.reduceAdd, Int.reduceToNat, ext30, ext31, ext32]
  refine CallD.calm (hQuot s _ hs4) ?_
  rintro v G4 hx4 ⟨qv, rfl, hqv⟩
  have hn4 := hx4.next
  have hs5 := hs4.ext hx4
  have hqv : Sl2 G4 qv Q := hqv
  have hcv5 := hcv.ext hx4
  have hql := hqv.len
  rw [m1] at hql
  simp +decide (disch := first | assumption | (apply GH.ok_push; assumption) | exact cellV_int _ _ | exact cellV_bool _ | omega) only [go_sem, ↓reduceIte, Nat.reduceEqDiff, Nat.reduceAdd, Int.reduceToNat, e0, e1, hql]
  refine Wk.loops (fun m e g' lo => g.next ≤ lo ∧ Kept G4 g' ∧ ∃ i : Nat, i + m = T ∧ (ev e (.s 0) = s ∧ ev e (.s 5) = .int .i64 T ∧ ev e (.s 6) = cv ∧ ev e (.s 7) = .int .i64 M ∧ ev e (.s 9) = qv ∧ ev e (.s 11) = .int .i64 (sumL (rng i (fun j => sumL (Q.getD j [])))) ∧ ev e (.s 12) = .int .i64 i))
    (fun e g' lo => g.next ≤ lo ∧ Kept G4 g' ∧ (ev e (.s 0) = s ∧ ev e (.s 5) = .int .i64 T ∧ ev e (.s 6) = cv ∧ ev e (.s 7) = .int .i64 M ∧ ev e (.s 9) = qv ∧ ev e (.s 11) = .int .i64 M)) (n := T) ?_ ?_ ?_
  · have z0 : sumL (rng 0 (fun j => sumL (Q.getD j []))) = 0 := rfl
    exact ⟨by omega, Kept.refl _, 0, by omega, (by simp +decide (disch := first | assumption | (apply GH.ok_push; assumption) | exact cellV_int _ _ | exact cellV_bool _ | omega) only [go_sem, ↓reduceIte, Nat.reduceEqDiff, Nat.reduceAdd, Int.reduceToNat, z0]; first | done | exact rfl)⟩
  · rintro e g' lo hog - ⟨hlo, hk, he⟩
    have hgk := hk.next
    have hs6 := hs5.kept hk
    have hcv6 := hcv5.kept hk
    have hqv6 := hqv.kept hk
    simp +decide (disch := first | assumption | (apply GH.ok_push; assumption) | exact cellV_int _ _ | exact cellV_bool _ | omega) only [go_sem, ↓reduceIte, Nat.reduceEqDiff, Nat.reduceAdd, Int.reduceToNat, he]
    refine CallD.calm (refSum_rets hX C (sumL_shape k1) cv g' hcv6) ?_
    rintro v G5 hx5 rfl
    have hn5 := hx5.next
    have hPb : 0 ≤ P ∧ P ≤ 240 := by
      rw [← hP]
      refine ⟨Int.mul_nonneg (by omega) k0, ?_⟩
      have := Int.mul_le_mul (a := (T : Int)) (b := M) (c := 6) (d := 40) (by omega) k40 k0 (by omega)
      omega
    simp +decide (disch := first | assumption | (apply GH.ok_push; assumption) | exact cellV_int _ _ | exact cellV_bool _ | omega) only [go_sem, ↓reduceIte, Nat.reduceEqDiff, Nat.reduceAdd, Int.reduceToNat, he, hP]
    refine CallD.calm (refSum_rets hX L (sumL_shape cS) s G5 (hs6.ext hx5)) ?_
    rintro v G6 hx6 rfl
    have hn6 := hx6.next
    have hsum : sumL C + P = sumL L := by omega
    simp +decide (disch := first | assumption | (apply GH.ok_push; assumption) | exact cellV_int _ _ | exact cellV_bool _ | omega) only [go_sem, ↓reduceIte, Nat.reduceEqDiff, Nat.reduceAdd, Int.reduceToNat, he, hsum]
    refine CallD.calm (hback cv qv G6 ((hcv6.ext hx5).ext hx6) ((hqv6.kept hx5.kept).kept hx6.kept)) ?_
    rintro v G7 hx7 ⟨u, rfl, hu⟩
    have hn7 := hx7.next
    simp +decide (disch := first | assumption | (apply GH.ok_push; assumption) | exact cellV_int _ _ | exact cellV_bool _ | omega) only [go_sem, ↓reduceIte, Nat.reduceEqDiff, Nat.reduceAdd, Int.reduceToNat, he, e0, e1]
    refine CallD.calm (same_rets hX L L (by omega) (by omega) u s G7 hu (((hs6.ext hx5).ext hx6).ext hx7)) ?_
    rintro v G8 hx8 rfl
    have hn8 := hx8.next
    have hself : decide (L = L) = true := decide_eq_true rfl
    rw [hself]
    simp +decide (disch := first | assumption | (apply GH.ok_push; assumption) | exact cellV_int _ _ | exact cellV_bool _ | omega) only [go_sem, ↓reduceIte, Nat.reduceEqDiff, Nat.reduceAdd, Int.reduceToNat, he]
    refine CallD.calm (hX.alive G8) ?_
    rintro v G9 hx9 rfl
    simp +decide (disch := first | assumption | (apply GH.ok_push; assumption) | exact cellV_int _ _ | exact cellV_bool _ | omega) only [go_sem, ↓reduceIte, Nat.reduceEqDiff, Nat.reduceAdd, Int.reduceToNat]
    intro hx0
    exact ⟨by omega, rfl⟩
  · rintro m e g' lo ho' hl' ih out ⟨hlo, hk, i, hi, he⟩
    have hgk := hk.next
    by_cases ci : i < T
    · obtain ⟨u, j1, o1, hj1, hp1, hp2, hu⟩ := (hqv.kept hk).ptr (i := i) (by omega)
      have hp1 := hp1 (i : Int) rfl
      have hsh := m2 i ci
      have hln := (shape_facts hsh).1
      have hsb := hf1 i ci
      have hpb := sum_bnd (f := fun j => sumL (Q.getD j [])) i fun j hj => hf1 j (by omega)
      have hsucc : sumL (rng (i + 1) (fun j => sumL (Q.getD j []))) = sumL (rng i (fun j => sumL (Q.getD j []))) + sumL (Q.getD i []) := by
        rw [rng_succ, sumL_app]; simp [sumL]
      obtain ⟨S, hS⟩ : ∃ S, sumL (rng i (fun j => sumL (Q.getD j []))) = S := ⟨_, rfl⟩
      rw [hS] at he hpb hsucc
      obtain ⟨qi, hqi⟩ : ∃ qi, Q.getD i [] = qi := ⟨_, rfl⟩
      rw [hqi] at hu hsh hln hsb hsucc
      simp +decide (disch := first | assumption | (apply GH.ok_push; assumption) | exact cellV_int _ _ | exact cellV_bool _ | omega) only [go_sem, ↓reduceIte, Nat.reduceEqDiff, Nat.reduceAdd, Int.reduceToNat, he, hp1, hp2]
      refine CallD.calm (refIsShape_rets hX qi (by omega) u g' hu) ?_
      rintro v G5 hx5 rfl
      have hn5 := hx5.next
      obtain ⟨u2, j2, o2, hj2, hq1, hq2, hu2⟩ := ((hqv.kept hk).kept hx5.kept).ptr (i := i) (by omega)
      have hq1 := hq1 (i : Int) rfl
      rw [hqi] at hu2
      simp +decide (disch := first | assumption | (apply GH.ok_push; assumption) | exact cellV_int _ _ | exact cellV_bool _ | omega) only [go_sem, ↓reduceIte, Nat.reduceEqDiff, Nat.reduceAdd, Int.reduceToNat, he, hsh, hq1, hq2]
      refine CallD.calm (refSum_rets hX qi (sumL_shape hsh) u2 G5 hu2) ?_
      rintro v G6 hx6 rfl
      have hn6 := hx6.next
      simp +decide (disch := first | assumption | (apply GH.ok_push; assumption) | exact cellV_int _ _ | exact cellV_bool _ | omega) only [go_sem, ↓reduceIte, Nat.reduceEqDiff, Nat.reduceAdd, Int.reduceToNat, he]
      exact ih (m - 1) _ _ _ (by omega) ⟨by omega, (hk.ext hx5).ext hx6, i + 1, by omega, by rw [hsucc]; exact (by simp +decide (disch := first | assumption | (apply GH.ok_push; assumption) | exact cellV_int _ _ | exact cellV_bool _ | omega) only [go_sem, ↓reduceIte, Nat.reduceEqDiff, Nat.reduceAdd, Int.reduceToNat, he]; first | done | exact rfl)⟩
    · have : i = T := by omega
      subst this
      rw [m3] at he
      simp +decide (disch := first | assumption | (apply GH.ok_push; assumption) | exact cellV_int _ _ | exact cellV_bool _ | omega) only [go_sem, ↓reduceIte, Nat.reduceEqDiff, Nat.reduceAdd, Int.reduceToNat, he]
      exact out _ _ _ ⟨hlo, hk, (by simp +decide (disch := first | assumption | (apply GH.ok_push; assumption) | exact cellV_int _ _ | exact cellV_bool _ | omega) only [go_sem, ↓reduceIte, Nat.reduceEqDiff, Nat.reduceAdd, Int.reduceToNat, he]; first | done | exact rfl)⟩
end Go.Proofs.Ytieliilnnfjijaa
