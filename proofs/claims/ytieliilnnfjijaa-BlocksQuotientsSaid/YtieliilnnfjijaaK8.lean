import Derived.Test.YtieliilnnfjijaaK7
set_option linter.all false
set_option linter.unusedSimpArgs false
set_option linter.unnecessarySimpa false
set_option linter.unusedVariables false
set_option linter.unusedSectionVars false
set_option maxRecDepth 100000
set_option maxHeartbeats 4000000
set_option linter.unusedSimpArgs false
set_option linter.unusedVariables false
namespace Go.Proofs.Ytieliilnnfjijaa
open Go.Ds
/-! ## A core and a quotient, joined -/
def joinW (C : List Int) (Q : List (List Int)) (T : Nat) : List (List Int) := (List.range T).map fun k => beadsR (Q.getD k []) (wireL (beadsR C (24 * T)) T k).length
def joinV (C : List Int) (Q : List (List Int)) (T : Nat) : List Int := shapeL (sortD (onK (joinW C Q T) T T))
theorem joinW_len (C : List Int) (Q : List (List Int)) (T : Nat) : (joinW C Q T).length = T := by simp [joinW]
theorem joinW_getD (C : List Int) (Q : List (List Int)) {T k : Nat} (h : k < T) : (joinW C Q T).getD k [] = beadsR (Q.getD k []) (wireL (beadsR C (24 * T)) T k).length := by
  rw [List.getD_eq_getElem?_getD]
  simp [joinW, h]
def upJ (B : List Int) : Nat → List Int
  | 0 => B
  | j + 1 => upB (upJ B j)
section
variable {T : Nat} (hT : 2 ≤ T ∧ T ≤ 6)
include hT
theorem upJ_nonneg {B : List Int} (hB : ∀ x ∈ B, 0 ≤ x) : ∀ j, ∀ x ∈ upJ B j, 0 ≤ x
  | 0 => hB
  | j + 1 => by
    have ih := upJ_nonneg hB j
    intro x hx
    simp only [upJ, upB, List.mem_append, List.mem_map, List.mem_singleton] at hx
    rcases hx with ⟨y, hy, rfl⟩ | rfl
    · have := ih y hy; omega
    · omega
theorem upJ_wire {B : List Int} (hB : ∀ x ∈ B, 0 ≤ x) : ∀ j, j ≤ T → ∀ k, k < T → wireL (upJ B j) T k = if j ≤ k then wireL B T (k - j) else upB (wireL B T (k + T - j))
  | 0, _, k, _ => by rw [if_pos (Nat.zero_le _)]; rfl
  | j + 1, hj, k, hk => by
    have ih := upJ_wire hB j (by omega)
    have hn := upJ_nonneg hT hB j
    show wireL (upB (upJ B j)) T k = _
    cases k with
    | zero =>
      rw [upB_wire0 hT hn, ih (T - 1) (by omega), if_pos (by omega), if_neg (by omega), show 0 + T - (j + 1) = T - 1 - j by omega]
      rfl
    | succ k =>
      rw [upB_wire1 hT hn hk, ih k (by omega)]
      by_cases c : j ≤ k
      · rw [if_pos c, if_pos (by omega), show k + 1 - (j + 1) = k - j by omega]
      · rw [if_neg c, if_neg (by omega), show k + 1 + T - (j + 1) = k + T - j by omega]
theorem beads_upJ {L : List Int} {n : Nat} (h : L.length ≤ n) : ∀ j, beadsR L (n + j) = upJ (beadsR L n) j
  | 0 => rfl
  | j + 1 => by
    rw [← Nat.add_assoc, beadsR_up hT (by omega), beads_upJ h j]; rfl
theorem quot_up {L : List Int} {m : Int} (hd : desc m L = true) {n : Nat} (h : L.length ≤ n) {k : Nat} (hk : k < T) : ∀ d, shapeL (wireL (beadsR L (n + d * T)) T k) = shapeL (wireL (beadsR L n) T k)
  | 0 => by rw [Nat.zero_mul, Nat.add_zero]
  | d + 1 => by
    have hD := beadsR_dsc (n := n + d * T) hd
    rw [Nat.succ_mul, ← Nat.add_assoc, beads_upJ hT (by omega) T, upJ_wire hT hD.2 T (Nat.le_refl _) k hk, if_neg (by omega), show k + T - T = k by omega, upB_shape hT]
    exact quot_up hd h hk d
theorem onK_nodup {WL : List (List Int)} (h : ∀ k, k < T → Dsc (WL.getD k [])) : ∀ k, k ≤ T → (onK WL T k).Nodup
  | 0, _ => List.nodup_nil
  | k + 1, hk => by
    rw [onK_succ, List.nodup_append]
    refine ⟨onK_nodup h k (by omega), ?_, ?_⟩
    · unfold onW
      rw [List.nodup_iff_pairwise_ne, List.pairwise_map]
      refine (h k (by omega)).1.imp ?_
      intro a b hab e
      rcases five hT with rfl | rfl | rfl | rfl | rfl <;> omega
    · intro a ha b hb e
      obtain ⟨j, hj, h, hh, rfl⟩ := onK_mem.1 ha
      unfold onW at hb
      rw [List.mem_map] at hb
      obtain ⟨h', _, rfl⟩ := hb
      rcases five hT with rfl | rfl | rfl | rfl | rfl <;> omega
/-- What is taken off the wires again. -/
theorem onK_back {WL : List (List Int)} {D : List Int} (hD : Dsc D) (h : ∀ k, k < T → WL.getD k [] = wireL D T k) : sortD (onK WL T T) = D := by
  have hdsc : ∀ k, k < T → Dsc (WL.getD k []) := fun k hk => by rw [h k hk]; exact wireL_dsc hT hD k
  have hmem : ∀ x, x ∈ onK WL T T ↔ x ∈ D := by
    intro x
    rw [onK_mem]
    constructor
    · rintro ⟨j, hj, w, hw, rfl⟩
      rw [h j hj] at hw
      exact (mem_wire hT hD.2 hj ((wireL_dsc hT hD j).2 w hw)).1 hw
    · intro hx
      obtain ⟨k, e, hk, _⟩ := tmod_bnd (b := x) (T := T) (hD.2 x hx) (by omega)
      obtain ⟨q1, q2⟩ := ar_eq hT (hD.2 x hx) e
      exact ⟨k, hk, x.tdiv T, by rw [h k hk]; exact (mem_wire hT hD.2 hk q2).2 (by rw [← q1]; exact hx), q1⟩
  refine Dsc.ext (sortD_dsc (onK_nodup hT hdsc T (Nat.le_refl _)) fun x hx => hD.2 x ((hmem x).1 hx)) hD fun x => ?_
  rw [sortD_mem]
  exact hmem x
theorem join_wire {L : List Int} (hS : isShape L = true) {k : Nat} (hk : k < T) : (joinW (coreM L T) (quotM L T) T).getD k [] = wireL (beadsR L (24 * T)) T k := by
  obtain ⟨c1, c2, c3⟩ := shape_facts hS
  have hd := divU_facts hT L.length
  obtain ⟨q, hq⟩ := hd.2.2
  have hle : divU L.length T ≤ 24 * T := by omega
  have hqT : q ≤ 24 := by
    rw [hq] at hle
    exact Nat.le_of_mul_le_mul_right hle (by omega)
  have hN : 24 * T = divU L.length T + (24 - q) * T := by rw [hq, ← Nat.add_mul]; congr 1; omega
  have hDn := beadsR_dsc (n := 24 * T) c2
  have hcore : beadsR (coreM L T) (24 * T) = coreS (beadsR L (24 * T)) T := by
    have hp := (pad hT c2 (24 * T - L.length)).2
    rw [show L.length + (24 * T - L.length) = 24 * T by omega] at hp
    have hb := shapeL_back (coreS_dsc hT (beadsR L (24 * T)))
    rw [coreS_len hT hDn.2, beadsR_len, hp, ← coreM_eq] at hb
    exact hb
  rw [joinW_getD _ _ hk, hcore, coreS_wire hT _ hk, beadsR_len]
  have hquot : (quotM L T).getD k [] = shapeL (wireL (beadsR L (24 * T)) T k) := by
    unfold quotM
    rw [quotL_getD _ hk]
    have := quot_up hT c2 (n := divU L.length T) hd.1 hk (24 - q)
    rw [← hN] at this
    exact this.symm
  rw [hquot]
  exact shapeL_back (wireL_dsc hT hDn k)
theorem join_back {L : List Int} (hS : isShape L = true) : sortD (onK (joinW (coreM L T) (quotM L T) T) T T) = beadsR L (24 * T) ∧ joinV (coreM L T) (quotM L T) T = L := by
  obtain ⟨c1, c2, c3⟩ := shape_facts hS
  have h := onK_back hT (beadsR_dsc (n := 24 * T) c2) fun k hk => join_wire hT hS hk
  refine ⟨h, ?_⟩
  unfold joinV
  rw [h, shapeL_beads c2 (by omega)]
/-- The quotient's shapes, and how many blocks they have. -/
theorem quot_facts {L : List Int} (hS : isShape L = true) : (quotM L T).length = T ∧ (∀ k, k < T → isShape ((quotM L T).getD k []) = true) ∧ sumL (rng T (fun k => sumL ((quotM L T).getD k []))) = manyM L T := by
  obtain ⟨c1, c2, c3⟩ := shape_facts hS
  have hd := divU_facts hT L.length
  have hD := beadsR_dsc (n := divU L.length T) c2
  have hsum : sumL (rng T (fun k => sumL ((quotM L T).getD k []))) = valB (beadsR L (divU L.length T)) T := by
    unfold valB
    congr 1
    refine rng_congr fun k hk => ?_
    unfold quotM
    rw [quotL_getD _ hk, shapeL_sum (wireL_dsc hT hD k)]
    rfl
  have hmany : sumL (rng T (fun k => sumL ((quotM L T).getD k []))) = manyM L T := by
    rw [hsum, manyM_eq hT hS]
    have := (pad hT c2 (divU L.length T - L.length)).1
    rw [show L.length + (divU L.length T - L.length) = divU L.length T by omega] at this
    exact this
  have hnn : ∀ k, k < T → 0 ≤ sumL ((quotM L T).getD k []) := by
    intro k hk
    unfold quotM
    rw [quotL_getD _ hk, shapeL_sum (wireL_dsc hT hD k)]
    exact (termB_nonneg hT hD k).1
  refine ⟨quotL_len _ T, fun k hk => ?_, hmany⟩
  have hle : sumL ((quotM L T).getD k []) ≤ 40 := by
    have hm := many_le hT hS
    rw [← hmany] at hm
    have hsplit : ∀ (n : Nat) (f : Nat → Int), (∀ i, i < n → 0 ≤ f i) → ∀ k, k < n → f k ≤ sumL (rng n f) := by
      intro n f
      induction n with
      | zero => intro _ k h; omega
      | succ n ih =>
        intro h0 k hk
        rw [rng_succ, sumL_app]
        have h1 := (sum_zero_of (n := n) (f := f) fun i hi => h0 i (by omega)).1
        have h2 := h0 n (by omega)
        simp only [sumL, Int.add_zero]
        by_cases c : k = n
        · subst c; omega
        · have := ih (fun i hi => h0 i (by omega)) k (by omega)
          omega
    have h3 : sumL ((quotM L T).getD k []) ≤ sumL (rng T (fun k => sumL ((quotM L T).getD k []))) := hsplit T (fun k => sumL ((quotM L T).getD k [])) hnn k hk
    omega
  have hlen := quot_rows hT c2 (n := divU L.length T) hd.1 hk
  obtain ⟨M, hM⟩ := shapeL_desc' (wireL_dsc hT hD k)
  have hq : (quotM L T).getD k [] = shapeL (wireL (beadsR L (divU L.length T)) T k) := by unfold quotM; rw [quotL_getD _ hk]
  rw [hq] at hle ⊢
  have hd40 := desc_mono (m' := 40) hM fun x hx => by have := mem_le_sum hM x hx; omega
  unfold isShape
  rw [hd40, decide_eq_true (show (shapeL (wireL (beadsR L (divU L.length T)) T k)).length ≤ 12 by omega), decide_eq_true hle]; rfl
end
end Go.Proofs.Ytieliilnnfjijaa
set_option maxRecDepth 100000
set_option maxHeartbeats 8000000
set_option linter.unusedSimpArgs false
set_option linter.unusedVariables false
namespace Go.Proofs.Ytieliilnnfjijaa
open Go.Ds
theorem notShape_rets {X : Caller} (hX : Xok X) (L : List Int) (hL : L.length < 1000000) (s : Value) (g : GH) (hs : SlR g s (ints L)) :
    Rets Try.prog X 76 [s] g (fun v g' lo => Kept g g' ∧ g'.ok ∧ g.next ≤ lo ∧ v = .bool (!isShape L)) := by
  refine Rets.run hX.pres p76 (hX.free 76 (by decide) _ _) rfl fun ho => ?_
  simp +decide (disch := first | assumption | (apply GH.ok_push; assumption) | exact cellV_int _ _ | exact cellV_bool _ | omega) only [go_sem, ↓reduceIte, Nat.reduceEqDiff, Nat.reduceAdd, Int.reduceToNat]
  refine CallD.calm (isShape_rets hX L hL s _ hs) ?_
  rintro v G hx rfl
  have hn := hx.next
  have hok := hx.ok ho
  simp +decide (disch := first | assumption | (apply GH.ok_push; assumption) | exact cellV_int _ _ | exact cellV_bool _ | omega) only [go_sem, ↓reduceIte, Nat.reduceEqDiff, Nat.reduceAdd, Int.reduceToNat]
  intro hx0
  exact ⟨hx.kept, hok, Nat.le_refl _, rfl⟩
theorem indexF_rets {X : Caller} (hX : Xok X) (Q : List (List Int)) (hQ : ∀ q ∈ Q, isShape q = true) (hl : Q.length ≤ 1000) (s : Value) (g : GH) (hs : Sl2 g s Q) :
    Rets Try.prog X 81 [s, .func (.func 76) #[] #[]] g (fun v g' lo => g.next ≤ lo ∧ v = .int .i64 (-1)) := by
  refine Rets.run hX.pres p81 (hX.free 81 (by decide) _ _) rfl fun ho => ?_
  have hlen := hs.len
  simp +decide (disch := first | assumption | (apply GH.ok_push; assumption) | exact cellV_int _ _ | exact cellV_bool _ | omega) only [go_sem, ↓reduceIte, Nat.reduceEqDiff, Nat.reduceAdd, Int.reduceToNat, hlen]
  refine Wk.loops (fun m e g' lo => Kept g g' ∧ g.next ≤ lo ∧ ∃ i : Nat, i + m = Q.length ∧ (ev e (.s 0) = s ∧ ev e (.s 1) = .func (.func 76) #[] #[] ∧ ev e (.s 7) = .int .i64 Q.length ∧ ev e (.s 8) = .int .i64 i))
    (fun e g' lo => g.next ≤ lo) (n := Q.length) ?_ ?_ ?_
  · exact ⟨Kept.refl _, Nat.le_refl _, 0, by omega, (by simp +decide (disch := first | assumption | (apply GH.ok_push; assumption) | exact cellV_int _ _ | exact cellV_bool _ | omega) only [go_sem, ↓reduceIte, Nat.reduceEqDiff, Nat.reduceAdd, Int.reduceToNat]; first | done | exact rfl)⟩
  · rintro e g' lo hog - hlo
    simp +decide (disch := first | assumption | (apply GH.ok_push; assumption) | exact cellV_int _ _ | exact cellV_bool _ | omega) only [go_sem, ↓reduceIte, Nat.reduceEqDiff, Nat.reduceAdd, Int.reduceToNat]
    intro hx
    exact ⟨hlo, rfl⟩
  · rintro m e g' lo ho' hl' ih out ⟨hk, hlo, i, hi, he⟩
    by_cases c : i < Q.length
    · obtain ⟨u, j1, o1, hj1, hp1, hp2, hu⟩ := (hs.kept hk).ptr c
      have hp1 := hp1 (i : Int) rfl
      have hm : Q.getD i [] ∈ Q := by rw [List.getD_eq_getElem?_getD, List.getElem?_eq_getElem c]; exact List.getElem_mem _
      have hsh := hQ _ hm
      have hln := (shape_facts hsh).1
      have hgn := hk.next
      simp +decide (disch := first | assumption | (apply GH.ok_push; assumption) | exact cellV_int _ _ | exact cellV_bool _ | omega) only [go_sem, ↓reduceIte, Nat.reduceEqDiff, Nat.reduceAdd, Int.reduceToNat, he, hp1, hp2]
      refine CallV.go rfl (notShape_rets hX _ (by omega) u g' hu) ?_
      rintro v G lo2 wr hx ⟨hk2, hok2, h2, rfl⟩
      rw [hsh]
      simp +decide (disch := first | assumption | (apply GH.ok_push; assumption) | exact cellV_int _ _ | exact cellV_bool _ | omega) only [go_sem, ↓reduceIte, Nat.reduceEqDiff, Nat.reduceAdd, Int.reduceToNat, he]
      exact ih (m - 1) _ _ _ (by omega) ⟨hk.trans hk2, by omega, i + 1, by omega, (by simp +decide (disch := first | assumption | (apply GH.ok_push; assumption) | exact cellV_int _ _ | exact cellV_bool _ | omega) only [go_sem, ↓reduceIte, Nat.reduceEqDiff, Nat.reduceAdd, Int.reduceToNat, he]; first | done | exact rfl)⟩
    · simp +decide (disch := first | assumption | (apply GH.ok_push; assumption) | exact cellV_int _ _ | exact cellV_bool _ | omega) only [go_sem, ↓reduceIte, Nat.reduceEqDiff, Nat.reduceAdd, Int.reduceToNat, he]
      exact out _ _ _ hlo
theorem areShapes_rets {X : Caller} (hX : Xok X) (Q : List (List Int)) (hQ : ∀ q ∈ Q, isShape q = true) (hT : 2 ≤ Q.length ∧ Q.length ≤ 6) (s : Value) (g : GH) (hs : Sl2 g s Q) :
    Rets Try.prog X 63 [s] g (fun v g' lo => g.next ≤ lo ∧ v = .bool true) := by
  refine Rets.run hX.pres p63 (hX.free 63 (by decide) _ _) rfl fun ho => ?_
  have hlen := hs.len
  have hW : isWires (Q.length : Int) = true := by simp [isWires]; omega
  simp +decide (disch := first | assumption | (apply GH.ok_push; assumption) | exact cellV_int _ _ | exact cellV_bool _ | omega) only [go_sem, ↓reduceIte, Nat.reduceEqDiff, Nat.reduceAdd, Int.reduceToNat, hlen]
  refine CallD.calm (wires_rets hX _ _) ?_
  rintro v G1 hx1 rfl
  have hn1 := hx1.next
  simp +decide (disch := first | assumption | (apply GH.ok_push; assumption) | exact cellV_int _ _ | exact cellV_bool _ | omega) only [go_sem, ↓reduceIte, Nat.reduceEqDiff, Nat.reduceAdd, Int.reduceToNat, hW]
  have hcall : Rets Try.prog X 77 [s, .func (.func 76) #[] #[]] G1 (fun v g' lo => G1.next ≤ lo ∧ v = .bool false) := by
    refine Rets.run hX.pres p77 (hX.free 77 (by decide) _ _) rfl fun ho => ?_
    simp +decide (disch := first | assumption | (apply GH.ok_push; assumption) | exact cellV_int _ _ | exact cellV_bool _ | omega) only [go_sem, ↓reduceIte, Nat.reduceEqDiff, Nat.reduceAdd, Int.reduceToNat]
    refine CallD.calm (indexF_rets hX Q hQ (by omega) s _ (hs.kept hx1.kept)) ?_
    rintro v G hx rfl
    simp +decide (disch := first | assumption | (apply GH.ok_push; assumption) | exact cellV_int _ _ | exact cellV_bool _ | omega) only [go_sem, ↓reduceIte, Nat.reduceEqDiff, Nat.reduceAdd, Int.reduceToNat]
    intro hx0
    exact ⟨Nat.le_refl _, rfl⟩
  refine CallD.calm hcall ?_
  rintro v G2 hx2 rfl
  simp +decide (disch := first | assumption | (apply GH.ok_push; assumption) | exact cellV_int _ _ | exact cellV_bool _ | omega) only [go_sem, ↓reduceIte, Nat.reduceEqDiff, Nat.reduceAdd, Int.reduceToNat]
  intro hx0
  exact ⟨Nat.le_refl _, rfl⟩
/-- The program's join. -/
theorem joined_rets {X : Caller} (hX : Xok X) (C : List Int) (Q : List (List Int)) (T : Nat) (hT : 2 ≤ T ∧ T ≤ 6) (hQl : Q.length = T) (hC : isShape C = true) (hq : ∀ k, k < T → Fits (Q.getD k []) ∧ (Q.getD k []).length ≤ (wireL (beadsR C (24 * T)) T k).length)
    (hH : ∀ W ∈ joinW C Q T, Hts W) (hfit : Fits (sortD (onK (joinW C Q T) T T))) (hK : (onK (joinW C Q T) T T).length ≤ 10000) (s q : Value) (g : GH) (hs : SlR g s (ints C)) (hsq : Sl2 g q Q) :
    Rets Try.prog X 64 [s, q] g (fun v g' lo => g.next ≤ lo ∧ SlR g' v (ints (joinV C Q T))) := by
  have hlen := hsq.len
  rw [hQl] at hlen
  obtain ⟨c1, c2, c3⟩ := shape_facts hC
  refine Rets.run hX.pres p64 (hX.free 64 (by decide) _ _) rfl fun ho => ?_
  have hmul : (24 : Int) * T = ((24 * T : Nat) : Int) := by push_cast; rfl
  simp +decide (disch := first | assumption | (apply GH.ok_push; assumption) | exact cellV_int _ _ | exact cellV_bool _ | omega) only [go_sem, ↓reduceIte, Nat.reduceEqDiff, Nat.reduceAdd, Int.reduceToNat, hlen, hmul]
  refine CallD.calm (beads_rets hX C (desc_fits c2 (by omega)) (24 * T) (by omega) (by omega) s g hs) ?_
  rintro b G1 hx1 hb
  have hn1 := hx1.next
  have hlt := beadsR_lt (n := 24 * T) (by omega) c2
  have hBl := beadsR_len C (24 * T)
  have hsortl : (sortD (onK (joinW C Q T) T T)).length = (onK (joinW C Q T) T T).length := (sortD_perm _).length_eq
  have hfl := hfit.1
  have hjl := joinW_len C Q T
  have hjg : ∀ k, k < T → (joinW C Q T)[k]? = some (beadsR (Q.getD k []) (wireL (beadsR C (24 * T)) T k).length) := fun k hk => by simp [joinW, hk]
  obtain ⟨B, hBe⟩ : ∃ B, beadsR C (24 * T) = B := ⟨_, rfl⟩
  rw [hBe] at hb hlt hBl hjg
  simp only [hBe] at hq
  simp +decide (disch := first | assumption | (apply GH.ok_push; assumption) | exact cellV_int _ _ | exact cellV_bool _ | omega) only [go_sem, ↓reduceIte, Nat.reduceEqDiff, Nat.reduceAdd, Int.reduceToNat]
  refine CallD.calm (wires_rets2 hX B (by omega) (fun x hx => by have := hlt x hx; omega) T hT b G1 hb) ?_
  rintro w G2 hx2 ⟨hk2, hok2, rfl, vs, F, hW⟩
  have hn2 := hx2.next
  have hlt2 := hW.lt
  have hsq2 := (hsq.kept hx1.kept).kept hk2
  simp +decide (disch := first | assumption | (apply GH.ok_push; assumption) | exact cellV_int _ _ | exact cellV_bool _ | omega) only [go_sem, ↓reduceIte, Nat.reduceEqDiff, Nat.reduceAdd, Int.reduceToNat, hlen]
  refine Wk.loops (fun m e g' lo => g.next ≤ lo ∧ Kept G1 g' ∧ G2.next ≤ g'.next ∧ ∃ i : Nat, i + m = T ∧ (ev e (.s 6) = .slice (some ⟨G1.next, 0, none⟩) T T ∧ ev e (.s 17) = q ∧ ev e (.s 18) = .int .i64 T ∧ ev e (.s 19) = .int .i64 i) ∧
        ∃ vs, g'.get G1.next = cellsOb vs 22 ∧ vs.length = T ∧ ∀ k v, vs[k]? = some v → SlR g' v (ints (if k < i then beadsR (Q.getD k []) (wireL B T k).length else wireL B T k)) ∧ ∀ a l c, v = .slice (some a) l c → a.block ≠ G1.next)
    (fun e g' lo => g.next ≤ lo ∧ Kept G1 g' ∧ ev e (.s 6) = .slice (some ⟨G1.next, 0, none⟩) T T ∧ Sl2 g' (.slice (some ⟨G1.next, 0, none⟩) T T) (joinW C Q T)) (n := T) ?_ ?_ ?_
  · refine ⟨by omega, hk2, Nat.le_refl _, 0, by omega, (by simp +decide (disch := first | assumption | (apply GH.ok_push; assumption) | exact cellV_int _ _ | exact cellV_bool _ | omega) only [go_sem, ↓reduceIte, Nat.reduceEqDiff, Nat.reduceAdd, Int.reduceToNat, hlen]; first | done | exact rfl), vs, hW.get, hW.len, fun k v hv => ⟨?_, fun a l c e => ?_⟩⟩
    · rw [if_neg (by omega)]; exact (hW.own k v hv).read
    · rcases hW.own k v hv with ⟨q, _⟩ | ⟨j, q, _, _, _, q2, q3, _⟩
      · rw [q] at e; cases e
      · rw [q] at e; cases e; show j ≠ G1.next; omega
  · rintro e g' lo hog - ⟨hlo, hk, he, hsl⟩
    have hgk := hk.next
    have hon := beadsOn_rets hX (joinW C Q T) hH (by omega) (by rw [hjl]; omega) _ g' hsl
    rw [hjl] at hon
    simp +decide (disch := first | assumption | (apply GH.ok_push; assumption) | exact cellV_int _ _ | exact cellV_bool _ | omega) only [go_sem, ↓reduceIte, Nat.reduceEqDiff, Nat.reduceAdd, Int.reduceToNat, he]
    refine CallD.calm hon ?_
    rintro v G4 hx4 hv
    have hn4 := hx4.next
    simp +decide (disch := first | assumption | (apply GH.ok_push; assumption) | exact cellV_int _ _ | exact cellV_bool _ | omega) only [go_sem, ↓reduceIte, Nat.reduceEqDiff, Nat.reduceAdd, Int.reduceToNat, he]
    refine CallD.calm (shapeOf_rets hX _ hfit v G4 hv) ?_
    rintro v2 G5 hx5 hv2
    have hn5 := hx5.next
    simp +decide (disch := first | assumption | (apply GH.ok_push; assumption) | exact cellV_int _ _ | exact cellV_bool _ | omega) only [go_sem, ↓reduceIte, Nat.reduceEqDiff, Nat.reduceAdd, Int.reduceToNat, he]
    intro hx0
    exact ⟨by omega, hv2⟩
  · rintro m e g' lo ho' hl' ih out ⟨hlo, hk, hG3, i, hi, he, vs, hget, hvl, hvs⟩
    have hgk := hk.next
    by_cases ci : i < T
    · have hvk := List.getElem?_eq_getElem (show i < vs.length by omega)
      obtain ⟨u, hu⟩ : ∃ u, vs[i]'(by omega) = u := ⟨_, rfl⟩
      rw [hu] at hvk
      obtain ⟨hur, hub⟩ := hvs i u hvk
      rw [if_neg (by omega)] at hur
      have hlu := hur.len
      rw [ints_len] at hlu
      have hwl := wireL_len B T i
      have hia := iaddrS_at (j := G1.next) (n := T) (c := T) (m := i) (x := (i : Int)) rfl ci
      obtain ⟨z, jq, oq, hjq, hp1, hp2, hz⟩ := ((hsq.kept hx1.kept).kept hk).ptr (i := i) (by omega)
      have hp1 := hp1 (i : Int) rfl
      obtain ⟨hq1, hq2⟩ := hq i ci
      simp +decide (disch := first | assumption | (apply GH.ok_push; assumption) | exact cellV_int _ _ | exact cellV_bool _ | omega) only [go_sem, ↓reduceIte, Nat.reduceEqDiff, Nat.reduceAdd, Int.reduceToNat, he, hia, hget, hvk, hlu, hp1, hp2]
      refine CallD.calm (beadsAt_rets hX (Q.getD i []) hq1 (wireL B T i).length hq2 (by omega) z g' hz) ?_
      rintro w G4 hx4 ⟨rfl, hw4⟩
      have hn4 := hx4.next
      have hget4 : G4.get G1.next = cellsOb vs 22 := (hx4.gets _ (by omega)).trans hget
      have hlt4 : G1.next < G4.next := by omega
      simp +decide (disch := first | assumption | (apply GH.ok_push; assumption) | exact cellV_int _ _ | exact cellV_bool _ | omega) only [go_sem, ↓reduceIte, Nat.reduceEqDiff, Nat.reduceAdd, Int.reduceToNat, he, hia, hget4, hvl]
      have hw := Wrote.set (o := cellsOb (splice i vs [.slice (some ⟨g'.next, 0, none⟩) (wireL B T i).length (wireL B T i).length]) 22) hget4 Nat.one_ne_zero (hx4.ok ho')
      rw [splice_set _ _ _ (by omega)] at hw ⊢
      have hnx := hw.next
      refine ih (m - 1) _ _ _ (by omega) ⟨by omega, hw.kept (hk.ext hx4) (Nat.le_refl _), by omega, i + 1, by omega, (by simp +decide (disch := first | assumption | (apply GH.ok_push; assumption) | exact cellV_int _ _ | exact cellV_bool _ | omega) only [go_sem, ↓reduceIte, Nat.reduceEqDiff, Nat.reduceAdd, Int.reduceToNat, he]; first | done | exact rfl), _, hw.get, by simp [hvl], fun k v hv => ?_⟩
      by_cases c : k = i
      · subst c
        rw [List.getElem?_set_self (by omega)] at hv
        cases hv
        rw [if_pos (by omega)]
        refine ⟨hw4.wrote hw fun a l c e => ?_, fun a l c e => ?_⟩
        · cases e; show g'.next ≠ G1.next; omega
        · cases e; show g'.next ≠ G1.next; omega
      · rw [List.getElem?_set_ne (Ne.symm c)] at hv
        obtain ⟨q1, q2⟩ := hvs k v hv
        refine ⟨?_, q2⟩
        have := (q1.ext hx4).wrote hw q2
        by_cases c2 : k < i
        · rw [if_pos c2] at this; rw [if_pos (by omega)]; exact this
        · rw [if_neg c2] at this; rw [if_neg (by omega)]; exact this
    · have : i = T := by omega
      subst this
      simp +decide (disch := first | assumption | (apply GH.ok_push; assumption) | exact cellV_int _ _ | exact cellV_bool _ | omega) only [go_sem, ↓reduceIte, Nat.reduceEqDiff, Nat.reduceAdd, Int.reduceToNat, he]
      refine out _ _ _ ⟨hlo, hk, (by simp +decide (disch := first | assumption | (apply GH.ok_push; assumption) | exact cellV_int _ _ | exact cellV_bool _ | omega) only [go_sem, ↓reduceIte, Nat.reduceEqDiff, Nat.reduceAdd, Int.reduceToNat, he]; first | done | exact rfl), vs, SlR.whole hget (by omega) hvl.symm, by rw [hvl, hjl], fun k v L h1 h2 => ?_⟩
      have hkT : k < i := by have := (List.getElem?_eq_some_iff.1 h1).1; omega
      have := (hvs k v h1).1
      rw [if_pos hkT] at this
      rw [hjg k hkT] at h2
      cases h2
      exact this
end Go.Proofs.Ytieliilnnfjijaa
