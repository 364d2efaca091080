import Derived.Test.YtngmaccaldhjcaaDoorJ2
import Derived.Test.YtngmaccaldhjcaaDoorKc
import Derived.Test.YtngmaccaldhjcaaDoorDtO
set_option linter.all false
set_option linter.unusedSimpArgs false
set_option linter.unnecessarySimpa false
set_option linter.unusedVariables false
set_option linter.unusedSectionVars false
set_option maxRecDepth 100000
set_option maxHeartbeats 4000000
set_option linter.unusedSimpArgs false
set_option linter.unusedVariables false
namespace Go.Proofs.YtngmaccaldhjcaaDoor
open Go.Ds
/-! ## The table's numbers, with 0 beyond -/
def te (T : List (List Int)) (i k : Nat) : Int := (T.getD i []).getD k 0
def ne (L : List Int) (i : Nat) : Int := L.getD i 0
def mkT (T : List (List Int)) : Value := mkV T.length (te T 0 0) (te T 0 1) (te T 0 2) (te T 1 0) (te T 1 1) (te T 1 2) (te T 2 0) (te T 2 1) (te T 2 2)
theorem okG_sm {x : Int} (h : okG x = true) : Sm 20 x := by
  unfold okG at h
  simp only [Bool.and_eq_true, decide_eq_true_eq] at h
  exact h
theorem tab_len {T : List (List Int)} (h : tabB T = true) : 1 ≤ T.length ∧ T.length ≤ 3 ∧ (∀ R ∈ T, R.length = T.length ∧ ∀ x ∈ R, Sm 20 x) := by
  unfold tabB at h
  simp only [Bool.and_eq_true, decide_eq_true_eq, List.all_eq_true] at h
  obtain ⟨⟨h1, h2⟩, h3⟩ := h
  refine ⟨h1, h2, fun R hR => ?_⟩
  have := h3 R hR
  unfold rowB at this
  simp only [Bool.and_eq_true, decide_eq_true_eq, List.all_eq_true] at this
  exact ⟨this.1, fun x hx => okG_sm (this.2 x hx)⟩
theorem te_sm {T : List (List Int)} (h : tabB T = true) (i k : Nat) : Sm 20 (te T i k) := by
  obtain ⟨_, _, h3⟩ := tab_len h
  unfold te
  by_cases ci : i < T.length
  · have hR := List.getElem_mem ci
    have e : T.getD i [] = T[i] := by rw [List.getD_eq_getElem?_getD, List.getElem?_eq_getElem ci]; rfl
    rw [e]
    by_cases ck : k < T[i].length
    · have e2 : T[i].getD k 0 = T[i][k] := by rw [List.getD_eq_getElem?_getD, List.getElem?_eq_getElem ck]; rfl
      rw [e2]
      exact (h3 _ hR).2 _ (List.getElem_mem ck)
    · have e2 : T[i].getD k 0 = 0 := by rw [List.getD_eq_getElem?_getD, List.getElem?_eq_none (by omega)]; rfl
      rw [e2]; unfold Sm; omega
  · have e : T.getD i [] = [] := by rw [List.getD_eq_getElem?_getD, List.getElem?_eq_none (by omega)]; rfl
    rw [e]
    show Sm 20 0
    unfold Sm; omega
theorem tab_sm9 {T : List (List Int)} (h : tabB T = true) : Sm9 (te T 0 0) (te T 0 1) (te T 0 2) (te T 1 0) (te T 1 1) (te T 1 2) (te T 2 0) (te T 2 1) (te T 2 2) :=
  ⟨te_sm h _ _, te_sm h _ _, te_sm h _ _, te_sm h _ _, te_sm h _ _, te_sm h _ _, te_sm h _ _, te_sm h _ _, te_sm h _ _⟩
theorem tab_cases {T : List (List Int)} (h : tabB T = true) : (∃ a, T = [[a]]) ∨ (∃ a b c d, T = [[a, b], [c, d]]) ∨ (∃ a b c d e f p q r, T = [[a, b, c], [d, e, f], [p, q, r]]) := by
  obtain ⟨h1, h2, h3⟩ := tab_len h
  match T, h1, h2, h3 with
  | [R], _, _, h3 =>
    have := (h3 R (by simp)).1
    match R, this with
    | [a], _ => exact .inl ⟨a, rfl⟩
  | [R, S], _, _, h3 =>
    have r1 := (h3 R (by simp)).1
    have r2 := (h3 S (by simp)).1
    match R, S, r1, r2 with
    | [a, b], [c, d], _, _ => exact .inr (.inl ⟨a, b, c, d, rfl⟩)
  | [R, S, U], _, _, h3 =>
    have r1 := (h3 R (by simp)).1
    have r2 := (h3 S (by simp)).1
    have r3 := (h3 U (by simp)).1
    match R, S, U, r1, r2, r3 with
    | [a, b, c], [d, e, f], [p, q, r], _, _, _ => exact .inr (.inr ⟨a, b, c, d, e, f, p, q, r, rfl⟩)
theorem market_rets {X : Caller} (hX : Xok X) (T : List (List Int)) (hT : tabB T = true) (t : Value) (g : GH) (ht : Sl2 g t T) :
    Rets Tryd.prog X 51 [t] g (fun v g' lo => g.next ≤ lo ∧ v = mkT T) := by
  rcases tab_cases hT with ⟨a, rfl⟩ | ⟨a, b, c, d, rfl⟩ | ⟨a, b, c, d, e, f, p, q, r, rfl⟩
  · exact market1_rets hX a t g ht
  · exact market2_rets hX a b c d t g ht
  · exact market3_rets hX a b c d e f p q r t g ht
theorem mix_facts {n : Nat} {L : List Int} {d : Int} (h : mixB n L d = true) : 1 ≤ n ∧ n ≤ 3 ∧ L.length = n ∧ 1 ≤ d ∧ d ≤ 10000 ∧ (∀ i, 0 ≤ ne L i ∧ ne L i ≤ d) ∧ sumL L = d ∧ gcdL d.natAbs L = 1 := by
  unfold mixB headB at h
  simp only [Bool.and_eq_true, decide_eq_true_eq, List.all_eq_true] at h
  obtain ⟨⟨⟨⟨⟨⟨⟨h1, h2⟩, h3⟩, h4⟩, h5⟩, h6⟩, h7⟩, h8⟩ := h
  refine ⟨by omega, by omega, by omega, h4, h5, fun i => ?_, h7, h8⟩
  unfold ne
  by_cases c : i < L.length
  · have e : L.getD i 0 = L[i] := by rw [List.getD_eq_getElem?_getD, List.getElem?_eq_getElem c]; rfl
    rw [e]
    have := h6 _ (List.getElem_mem c)
    unfold inD at this
    simpa using this
  · have e : L.getD i 0 = 0 := by rw [List.getD_eq_getElem?_getD, List.getElem?_eq_none (by omega)]; rfl
    rw [e]; omega
/-! ## The gain of the specification -/
def sumZ (f : Nat → Int) : Nat → Int
  | 0 => 0
  | i + 1 => sumZ f i + f i
/-- The two sums are the same. -/
def gT (T : List (List Int)) (x0 x1 x2 y0 y1 y2 : Int) : Int := gainZ (te T 0 0) (te T 0 1) (te T 0 2) (te T 1 0) (te T 1 1) (te T 1 2) (te T 2 0) (te T 2 1) (te T 2 2) x0 x1 x2 y0 y1 y2
end Go.Proofs.YtngmaccaldhjcaaDoor
set_option maxRecDepth 100000
set_option maxHeartbeats 4000000
set_option linter.unusedSimpArgs false
set_option linter.unusedVariables false
namespace Go.Proofs.YtngmaccaldhjcaaDoor
open Go.Ds
theorem bslP2 (a b c d x y z w : Value) : bsl 2 #[a, b, c, d] [(0, .agg #[x, y]), (1, .agg #[z, w])] = some #[x, y, z, w] := rfl
theorem bslP1 (a b x y : Value) : bsl 2 #[a, b] [(0, .agg #[x, y])] = some #[x, y] := rfl
theorem bldP0 (a b : Value) : buildF [(0, 1), (1, 1)] none #[a, b] [] = some (.agg #[a, b]) := rfl
attribute [go_sem] bslP2 bslP1 bldP0
theorem two_pow3 {n : Nat} (h : n ≤ 3) : 2 ^ n ≤ 8 := by
  obtain rfl | rfl | rfl | rfl : n = 0 ∨ n = 1 ∨ n = 2 ∨ n = 3 := by omega
  all_goals decide
end Go.Proofs.YtngmaccaldhjcaaDoor
set_option maxRecDepth 100000
set_option maxHeartbeats 4000000
set_option linter.unusedSimpArgs false
set_option linter.unusedVariables false
namespace Go.Proofs.YtngmaccaldhjcaaDoor
open Go.Ds
def fewT (T : List (List Int)) : Bool := decide (T.length ≤ 20) && T.all (fun R => decide (R.length ≤ 20))
theorem fewT_Few {T : List (List Int)} (h : fewT T = true) : Few T := by
  unfold fewT at h
  simp only [Bool.and_eq_true, decide_eq_true_eq, List.all_eq_true] at h
  exact ⟨by omega, fun R hR => by have := h.2 R hR; omega⟩
theorem few2_rets {X : Caller} (hX : Xok X) (T : List (List Int)) (L : List Int) (s : Value) (d : Int) (M : List Int) (r : Value) (f : Int) (t : Value) (g : GH) (ht : Sl2 g t T) (hs : SlR g s (ints L)) (hr : SlR g r (ints M)) (j : Nat) (ty : TypeId) (hj : j < g.next) (hg : g.get j = cellsOb [s, .int .i64 d, r, .int .i64 f] ty) :
    Rets Tryd.prog X 15 [t, .slice (some ⟨j, 0, none⟩) 2 2] g (fun v g' lo => g.next ≤ lo ∧ v = .bool (fewT T && decide (L.length ≤ 20) && decide (M.length ≤ 20))) := by
  have hia : iaddrSF 2 (.slice (some ⟨j, 0, none⟩) 2 2) (.int .i64 0) = some (.pointer (some ⟨j, 0, none⟩)) := rfl
  have hib : iaddrSF 2 (.slice (some ⟨j, 0, none⟩) 2 2) (.int .i64 1) = some (.pointer (some ⟨j, 2, none⟩)) := by
    show some (Value.pointer (some ((⟨j, 0, none⟩ : Addr).add 2))) = _
    unfold Addr.add; rfl
  have hls := hs.len
  rw [ints_len] at hls
  have hlr := hr.len
  rw [ints_len] at hlr
  have hl := ht.len
  refine Rets.run hX.pres p15 (hX.free 15 (by decide) _ _) rfl fun ho => ?_
  by_cases c0 : (20 : Int) < T.length
  · simp +decide (disch := first | assumption | (apply GH.ok_push; assumption) | exact cellV_int _ _ | exact cellV_bool _ | omega) only [go_sem, ↓reduceIte, Nat.reduceEqDiff, Nat.reduceAdd, Int.reduceToNat, hl, c0]
    intro hx
    refine ⟨Nat.le_refl _, ?_⟩
    have : fewT T = false := by unfold fewT; rw [decide_eq_false (by omega)]; rfl
    simp [this]
  · simp +decide (disch := first | assumption | (apply GH.ok_push; assumption) | exact cellV_int _ _ | exact cellV_bool _ | omega) only [go_sem, ↓reduceIte, Nat.reduceEqDiff, Nat.reduceAdd, Int.reduceToNat, hl, c0]
    refine Wk.loops (fun m e g' lo => g' = g ∧ g.next ≤ lo ∧ ∃ i : Nat, i + m = T.length ∧ (ev e (.s 0) = t ∧ ev e (.s 1) = .slice (some ⟨j, 0, none⟩) 2 2 ∧ ev e (.s 5) = .int .i64 i) ∧ (T.take i).all (fun R => decide (R.length ≤ 20)) = true)
      (fun e g' lo => g' = g ∧ g.next ≤ lo ∧ ev e (.s 1) = .slice (some ⟨j, 0, none⟩) 2 2 ∧ fewT T = true) (n := T.length) ?_ ?_ ?_
    · exact ⟨rfl, Nat.le_refl _, 0, by omega, (by simp +decide (disch := first | assumption | (apply GH.ok_push; assumption) | exact cellV_int _ _ | exact cellV_bool _ | omega) only [go_sem, ↓reduceIte, Nat.reduceEqDiff, Nat.reduceAdd, Int.reduceToNat]; first | done | exact rfl), rfl⟩
    · rintro e g' lo - - ⟨rfl, hlo, he, h⟩
      rw [h, Bool.true_and]
      by_cases q1 : (20 : Int) < L.length
      · simp +decide (disch := first | assumption | exact cellV_int _ _ | exact cellV_bool _ | omega | (simp only [GH.pn, GH.sn] <;> omega) | (with_reducible ((repeat (first | apply GH.ok_push | apply GH.ok_set)); assumption)) | ((try simp only [GH.push_hid, GH.set_hid]); first | assumption | (refine GH.vis ?_ ?_ <;> first | assumption | ((try simp only [GH.pn, GH.sn]) <;> omega)))) only [go_sem, ↓reduceIte, Nat.reduceEqDiff, Nat.reduceAdd, Int.reduceToNat, Int.reduceAdd, Int.reduceNeg, Int.reduceSub, Int.reduceMul, Int.reduceLT, Int.reduceLE, Int.reduceEq, ↓GH.gp_eq, ↓GH.gp_ne, ↓GH.gs_eq, ↓GH.gs_ne, GH.push_next, GH.set_next, he]
        repeat ((first | refine Wk.once ?_ | refine Wk.more (Wk.once ?_) | refine Wk.leave ?_); simp +decide (disch := first | assumption | exact cellV_int _ _ | exact cellV_bool _ | omega | (simp only [GH.pn, GH.sn] <;> omega) | (with_reducible ((repeat (first | apply GH.ok_push | apply GH.ok_set)); assumption)) | ((try simp only [GH.push_hid, GH.set_hid]); first | assumption | (refine GH.vis ?_ ?_ <;> first | assumption | ((try simp only [GH.pn, GH.sn]) <;> omega)))) only [go_sem, ↓reduceIte, Nat.reduceEqDiff, Nat.reduceAdd, Int.reduceToNat, Int.reduceAdd, Int.reduceNeg, Int.reduceSub, Int.reduceMul, Int.reduceLT, Int.reduceLE, Int.reduceEq, ↓GH.gp_eq, ↓GH.gp_ne, ↓GH.gs_eq, ↓GH.gs_ne, GH.push_next, GH.set_next, he, hia, hib, hg, hls, q1])
        intro hx
        refine ⟨hlo, ?_⟩
        first | rfl | (rw [decide_eq_false (show ¬ L.length ≤ 20 by omega)]; rfl)
      · by_cases q2 : (20 : Int) < M.length
        · simp +decide (disch := first | assumption | exact cellV_int _ _ | exact cellV_bool _ | omega | (simp only [GH.pn, GH.sn] <;> omega) | (with_reducible ((repeat (first | apply GH.ok_push | apply GH.ok_set)); assumption)) | ((try simp only [GH.push_hid, GH.set_hid]); first | assumption | (refine GH.vis ?_ ?_ <;> first | assumption | ((try simp only [GH.pn, GH.sn]) <;> omega)))) only [go_sem, ↓reduceIte, Nat.reduceEqDiff, Nat.reduceAdd, Int.reduceToNat, Int.reduceAdd, Int.reduceNeg, Int.reduceSub, Int.reduceMul, Int.reduceLT, Int.reduceLE, Int.reduceEq, ↓GH.gp_eq, ↓GH.gp_ne, ↓GH.gs_eq, ↓GH.gs_ne, GH.push_next, GH.set_next, he]
          repeat ((first | refine Wk.once ?_ | refine Wk.more (Wk.once ?_) | refine Wk.leave ?_); simp +decide (disch := first | assumption | exact cellV_int _ _ | exact cellV_bool _ | omega | (simp only [GH.pn, GH.sn] <;> omega) | (with_reducible ((repeat (first | apply GH.ok_push | apply GH.ok_set)); assumption)) | ((try simp only [GH.push_hid, GH.set_hid]); first | assumption | (refine GH.vis ?_ ?_ <;> first | assumption | ((try simp only [GH.pn, GH.sn]) <;> omega)))) only [go_sem, ↓reduceIte, Nat.reduceEqDiff, Nat.reduceAdd, Int.reduceToNat, Int.reduceAdd, Int.reduceNeg, Int.reduceSub, Int.reduceMul, Int.reduceLT, Int.reduceLE, Int.reduceEq, ↓GH.gp_eq, ↓GH.gp_ne, ↓GH.gs_eq, ↓GH.gs_ne, GH.push_next, GH.set_next, he, hia, hib, hg, hls, hlr, q1, q2])
          intro hx
          refine ⟨hlo, ?_⟩
          first | rfl | (rw [decide_eq_false (show ¬ M.length ≤ 20 by omega)]; simp)
        · simp +decide (disch := first | assumption | exact cellV_int _ _ | exact cellV_bool _ | omega | (simp only [GH.pn, GH.sn] <;> omega) | (with_reducible ((repeat (first | apply GH.ok_push | apply GH.ok_set)); assumption)) | ((try simp only [GH.push_hid, GH.set_hid]); first | assumption | (refine GH.vis ?_ ?_ <;> first | assumption | ((try simp only [GH.pn, GH.sn]) <;> omega)))) only [go_sem, ↓reduceIte, Nat.reduceEqDiff, Nat.reduceAdd, Int.reduceToNat, Int.reduceAdd, Int.reduceNeg, Int.reduceSub, Int.reduceMul, Int.reduceLT, Int.reduceLE, Int.reduceEq, ↓GH.gp_eq, ↓GH.gp_ne, ↓GH.gs_eq, ↓GH.gs_ne, GH.push_next, GH.set_next, he]
          repeat ((first | refine Wk.once ?_ | refine Wk.more (Wk.once ?_) | refine Wk.leave ?_); simp +decide (disch := first | assumption | exact cellV_int _ _ | exact cellV_bool _ | omega | (simp only [GH.pn, GH.sn] <;> omega) | (with_reducible ((repeat (first | apply GH.ok_push | apply GH.ok_set)); assumption)) | ((try simp only [GH.push_hid, GH.set_hid]); first | assumption | (refine GH.vis ?_ ?_ <;> first | assumption | ((try simp only [GH.pn, GH.sn]) <;> omega)))) only [go_sem, ↓reduceIte, Nat.reduceEqDiff, Nat.reduceAdd, Int.reduceToNat, Int.reduceAdd, Int.reduceNeg, Int.reduceSub, Int.reduceMul, Int.reduceLT, Int.reduceLE, Int.reduceEq, ↓GH.gp_eq, ↓GH.gp_ne, ↓GH.gs_eq, ↓GH.gs_ne, GH.push_next, GH.set_next, he, hia, hib, hg, hls, hlr, q1, q2])
          intro hx
          refine ⟨hlo, ?_⟩
          first | rfl | (rw [decide_eq_true (show L.length ≤ 20 by omega), decide_eq_true (show M.length ≤ 20 by omega)]; rfl)
    · rintro m e g' lo ho' hl' ih out ⟨rfl, hlo, i, hi, he, hp⟩
      by_cases ci : i < T.length
      · have ci' : (i : Int) < T.length := by omega
        obtain ⟨v, j1, o1, hj1, hp1, hp2, hv⟩ := ht.ptr ci
        have hp1 := hp1 (i : Int) rfl
        have hTi := getD_get [] ci
        obtain ⟨R, hR'⟩ : ∃ R, T.getD i [] = R := ⟨_, rfl⟩
        rw [hR'] at hv hTi
        have hvl := hv.len
        rw [ints_len] at hvl
        by_cases cl : (20 : Int) < R.length
        · simp +decide (disch := first | assumption | (apply GH.ok_push; assumption) | exact cellV_int _ _ | exact cellV_bool _ | omega) only [go_sem, ↓reduceIte, Nat.reduceEqDiff, Nat.reduceAdd, Int.reduceToNat, he, hl, hp1, hp2, hvl, cl, ci']
          intro hx
          refine ⟨hlo, ?_⟩
          have : fewT T = false := by
            unfold fewT
            rw [all_bad hTi (by simp; omega), Bool.and_false]
          simp [this]
        · simp +decide (disch := first | assumption | (apply GH.ok_push; assumption) | exact cellV_int _ _ | exact cellV_bool _ | omega) only [go_sem, ↓reduceIte, Nat.reduceEqDiff, Nat.reduceAdd, Int.reduceToNat, he, hl, hp1, hp2, hvl, cl, ci']
          refine ih (m - 1) _ _ _ (by omega) ⟨rfl, hlo, i + 1, by omega, (by simp +decide (disch := first | assumption | (apply GH.ok_push; assumption) | exact cellV_int _ _ | exact cellV_bool _ | omega) only [go_sem, ↓reduceIte, Nat.reduceEqDiff, Nat.reduceAdd, Int.reduceToNat, he]; first | done | exact rfl), ?_⟩
          rw [all_snoc _ T i R hTi, hp]
          first | (simp; done) | (simp; omega)
      · have ci' : ¬ (i : Int) < T.length := by omega
        simp +decide (disch := first | assumption | (apply GH.ok_push; assumption) | exact cellV_int _ _ | exact cellV_bool _ | omega) only [go_sem, ↓reduceIte, Nat.reduceEqDiff, Nat.reduceAdd, Int.reduceToNat, he, hl, ci']
        rw [List.take_of_length_le (by omega)] at hp
        refine out _ _ _ ⟨rfl, hlo, (by simp +decide (disch := first | assumption | (apply GH.ok_push; assumption) | exact cellV_int _ _ | exact cellV_bool _ | omega) only [go_sem, ↓reduceIte, Nat.reduceEqDiff, Nat.reduceAdd, Int.reduceToNat, he]; first | done | exact rfl), ?_⟩
        unfold fewT
        rw [decide_eq_true (by omega), hp]; rfl
end Go.Proofs.YtngmaccaldhjcaaDoor
set_option maxRecDepth 100000
set_option maxHeartbeats 4000000
set_option linter.unusedSimpArgs false
set_option linter.unusedVariables false
namespace Go.Proofs.YtngmaccaldhjcaaDoor
open Go.Ds
theorem Same_rets {X : Caller} (hX : Xok X) (L : List Int) (d : Int) (M : List Int) (f : Int) (hl : L.length < 1000000) (s r : Value) (g : GH) (hs : SlR g s (ints L)) (hr : SlR g r (ints M)) :
    Rets Tryd.prog X 29 [paV s d, paV r f] g (fun v g' lo => g.next ≤ lo ∧ v = .bool (decide (L = M ∧ d = f))) := by
  have hc := hs.cell
  have hcr := hr.cell
  have hls := hs.len
  have hlr := hr.len
  rw [ints_len] at hls hlr
  unfold paV
  obtain ⟨B, hB⟩ : ∃ B, decide (L = M ∧ d = f) = B := ⟨_, rfl⟩
  rw [hB]
  refine Rets.run hX.pres p29 (hX.free 29 (by decide) _ _) rfl fun ho => ?_
  by_cases q1 : d = f
  case neg =>
    simp +decide (disch := first | assumption | exact cellV_int _ _ | exact cellV_bool _ | omega | (simp only [GH.pn, GH.sn] <;> omega) | (with_reducible ((repeat (first | apply GH.ok_push | apply GH.ok_set)); assumption)) | ((try simp only [GH.push_hid, GH.set_hid]); first | assumption | (refine GH.vis ?_ ?_ <;> first | assumption | ((try simp only [GH.pn, GH.sn]) <;> omega)))) only [go_sem, ↓reduceIte, Nat.reduceEqDiff, Nat.reduceAdd, Int.reduceToNat, Int.reduceAdd, Int.reduceNeg, Int.reduceSub, Int.reduceMul, Int.reduceLT, Int.reduceLE, Int.reduceEq, ↓GH.gp_eq, ↓GH.gp_ne, ↓GH.gs_eq, ↓GH.gs_ne, GH.push_next, GH.set_next, hc, hcr, q1]
    intro hx0
    exact ⟨by omega, by rw [← hB, decide_eq_false fun h => q1 h.2]⟩
  subst q1
  by_cases q2 : (L.length : Int) = M.length
  case neg =>
    simp +decide (disch := first | assumption | exact cellV_int _ _ | exact cellV_bool _ | omega | (simp only [GH.pn, GH.sn] <;> omega) | (with_reducible ((repeat (first | apply GH.ok_push | apply GH.ok_set)); assumption)) | ((try simp only [GH.push_hid, GH.set_hid]); first | assumption | (refine GH.vis ?_ ?_ <;> first | assumption | ((try simp only [GH.pn, GH.sn]) <;> omega)))) only [go_sem, ↓reduceIte, Nat.reduceEqDiff, Nat.reduceAdd, Int.reduceToNat, Int.reduceAdd, Int.reduceNeg, Int.reduceSub, Int.reduceMul, Int.reduceLT, Int.reduceLE, Int.reduceEq, ↓GH.gp_eq, ↓GH.gp_ne, ↓GH.gs_eq, ↓GH.gs_ne, GH.push_next, GH.set_next, hc, hcr, q2, hls, hlr]
    intro hx0
    exact ⟨by omega, by rw [← hB, decide_eq_false fun h => q2 (by rw [h.1])]⟩
  have hkS : Kept g ((g.push (cellsOb [s, .int .i64 d] 25)).push (cellsOb [r, .int .i64 d] 25)) := (by (repeat' first | exact Kept.refl _ | assumption | refine Kept.push ?_ ?_ _ | refine Kept.setV ?_ ?_ ?_ _) <;> (first | assumption | exact cellV_int _ _ | exact cellV_bool _ | omega | (simp only [GH.pn, GH.sn] <;> omega) | (with_reducible ((repeat (first | apply GH.ok_push | apply GH.ok_set)); assumption)) | ((try simp only [GH.push_hid, GH.set_hid]); first | assumption | (refine GH.vis ?_ ?_ <;> first | assumption | ((try simp only [GH.pn, GH.sn]) <;> omega)))))
  have hAS : ((g.push (cellsOb [s, .int .i64 d] 25)).push (cellsOb [r, .int .i64 d] 25)).get g.next = cellsOb [s, .int .i64 d] 25 := (by simp (disch := first | assumption | exact cellV_int _ _ | exact cellV_bool _ | omega | (simp only [GH.pn, GH.sn] <;> omega) | (with_reducible ((repeat (first | apply GH.ok_push | apply GH.ok_set)); assumption)) | ((try simp only [GH.push_hid, GH.set_hid]); first | assumption | (refine GH.vis ?_ ?_ <;> first | assumption | ((try simp only [GH.pn, GH.sn]) <;> omega)))) only [↓GH.gp_eq, ↓GH.gp_ne, ↓GH.gs_eq, ↓GH.gs_ne, GH.push_next, GH.set_next]; first | done | exact rfl)
  have hBS : ((g.push (cellsOb [s, .int .i64 d] 25)).push (cellsOb [r, .int .i64 d] 25)).get (g.next + 1) = cellsOb [r, .int .i64 d] 25 := (by simp (disch := first | assumption | exact cellV_int _ _ | exact cellV_bool _ | omega | (simp only [GH.pn, GH.sn] <;> omega) | (with_reducible ((repeat (first | apply GH.ok_push | apply GH.ok_set)); assumption)) | ((try simp only [GH.push_hid, GH.set_hid]); first | assumption | (refine GH.vis ?_ ?_ <;> first | assumption | ((try simp only [GH.pn, GH.sn]) <;> omega)))) only [↓GH.gp_eq, ↓GH.gp_ne, ↓GH.gs_eq, ↓GH.gs_ne, GH.push_next, GH.set_next]; first | done | exact rfl)
  simp +decide (disch := first | assumption | exact cellV_int _ _ | exact cellV_bool _ | omega | (simp only [GH.pn, GH.sn] <;> omega) | (with_reducible ((repeat (first | apply GH.ok_push | apply GH.ok_set)); assumption)) | ((try simp only [GH.push_hid, GH.set_hid]); first | assumption | (refine GH.vis ?_ ?_ <;> first | assumption | ((try simp only [GH.pn, GH.sn]) <;> omega)))) only [go_sem, ↓reduceIte, Nat.reduceEqDiff, Nat.reduceAdd, Int.reduceToNat, Int.reduceAdd, Int.reduceNeg, Int.reduceSub, Int.reduceMul, Int.reduceLT, Int.reduceLE, Int.reduceEq, ↓GH.gp_eq, ↓GH.gp_ne, ↓GH.gs_eq, ↓GH.gs_ne, GH.push_next, GH.set_next, hc, hcr, q2, hls, hlr]
  refine Wk.loops (fun m e g' lo => g' = ((g.push (cellsOb [s, .int .i64 d] 25)).push (cellsOb [r, .int .i64 d] 25)) ∧ g.next ≤ lo ∧ ∃ i : Nat, i + m = L.length ∧ (ev e (.s 2) = ptrTo g.next ∧ ev e (.s 3) = ptrTo (g.next + 1) ∧ ev e (.s 5) = .int .i64 i) ∧ L.take i = M.take i)
    (fun e g' lo => g.next ≤ lo ∧ L = M) (n := L.length) ?_ ?_ ?_
  · exact ⟨rfl, Nat.le_refl _, 0, by omega, (by simp +decide (disch := first | assumption | (apply GH.ok_push; assumption) | exact cellV_int _ _ | exact cellV_bool _ | omega) only [go_sem, ↓reduceIte, Nat.reduceEqDiff, Nat.reduceAdd, Int.reduceToNat]; first | done | exact rfl), rfl⟩
  · rintro e g' lo - - ⟨hlo, h⟩
    simp +decide (disch := first | assumption | exact cellV_int _ _ | exact cellV_bool _ | omega | (simp only [GH.pn, GH.sn] <;> omega) | (with_reducible ((repeat (first | apply GH.ok_push | apply GH.ok_set)); assumption)) | ((try simp only [GH.push_hid, GH.set_hid]); first | assumption | (refine GH.vis ?_ ?_ <;> first | assumption | ((try simp only [GH.pn, GH.sn]) <;> omega)))) only [go_sem, ↓reduceIte, Nat.reduceEqDiff, Nat.reduceAdd, Int.reduceToNat, Int.reduceAdd, Int.reduceNeg, Int.reduceSub, Int.reduceMul, Int.reduceLT, Int.reduceLE, Int.reduceEq, ↓GH.gp_eq, ↓GH.gp_ne, ↓GH.gs_eq, ↓GH.gs_ne, GH.push_next, GH.set_next]
    intro hx0
    exact ⟨hlo, by rw [← hB]; simp [h]⟩
  · rintro m e g' lo ho' hl' ih out ⟨hg', hlo, i, hi, he, hp⟩
    have hgn : g'.next = g.next + 1 + 1 := by rw [hg']; rfl
    rw [← hg'] at hkS hAS hBS
    by_cases ci : i < L.length
    · have ci' : (i : Int) < L.length := by omega
      obtain ⟨j1, o1, hj1, hp1, hp2⟩ := (hs.kept hkS).ptr (ints_get (D := L) (i := i) ci)
      have hp1 := hp1 (i : Int) rfl
      obtain ⟨j2, o2, hj2, hq1, hq2⟩ := (hr.kept hkS).ptr (ints_get (D := M) (i := i) (by omega))
      have hq1 := hq1 (i : Int) rfl
      have hLi := getD_get (0 : Int) ci
      have hMi := getD_get (0 : Int) (show i < M.length by omega)
      by_cases q3 : L.getD i 0 = M.getD i 0
      · simp +decide (disch := first | assumption | exact cellV_int _ _ | exact cellV_bool _ | omega | (simp only [GH.pn, GH.sn] <;> omega) | (with_reducible ((repeat (first | apply GH.ok_push | apply GH.ok_set)); assumption)) | ((try simp only [GH.push_hid, GH.set_hid]); first | assumption | (refine GH.vis ?_ ?_ <;> first | assumption | ((try simp only [GH.pn, GH.sn]) <;> omega)))) only [go_sem, ↓reduceIte, Nat.reduceEqDiff, Nat.reduceAdd, Int.reduceToNat, Int.reduceAdd, Int.reduceNeg, Int.reduceSub, Int.reduceMul, Int.reduceLT, Int.reduceLE, Int.reduceEq, ↓GH.gp_eq, ↓GH.gp_ne, ↓GH.gs_eq, ↓GH.gs_ne, GH.push_next, GH.set_next, he, hAS, hBS, hls, ci', hp1, hp2, hq1, hq2, q3]
        refine ih (m - 1) _ _ _ (by omega) ⟨hg', hlo, i + 1, by omega, (by simp +decide (disch := first | assumption | (apply GH.ok_push; assumption) | exact cellV_int _ _ | exact cellV_bool _ | omega) only [go_sem, ↓reduceIte, Nat.reduceEqDiff, Nat.reduceAdd, Int.reduceToNat, he]; first | done | exact rfl), ?_⟩
        rw [take_snoc' L i _ hLi, take_snoc' M i _ hMi, hp, q3]
      · simp +decide (disch := first | assumption | exact cellV_int _ _ | exact cellV_bool _ | omega | (simp only [GH.pn, GH.sn] <;> omega) | (with_reducible ((repeat (first | apply GH.ok_push | apply GH.ok_set)); assumption)) | ((try simp only [GH.push_hid, GH.set_hid]); first | assumption | (refine GH.vis ?_ ?_ <;> first | assumption | ((try simp only [GH.pn, GH.sn]) <;> omega)))) only [go_sem, ↓reduceIte, Nat.reduceEqDiff, Nat.reduceAdd, Int.reduceToNat, Int.reduceAdd, Int.reduceNeg, Int.reduceSub, Int.reduceMul, Int.reduceLT, Int.reduceLE, Int.reduceEq, ↓GH.gp_eq, ↓GH.gp_ne, ↓GH.gs_eq, ↓GH.gs_ne, GH.push_next, GH.set_next, he, hAS, hBS, hls, ci', hp1, hp2, hq1, hq2, q3]
        intro hx0
        exact ⟨hlo, by rw [← hB, decide_eq_false fun h => q3 (by rw [h.1])]⟩
    · have ci' : ¬ (i : Int) < L.length := by omega
      simp +decide (disch := first | assumption | exact cellV_int _ _ | exact cellV_bool _ | omega | (simp only [GH.pn, GH.sn] <;> omega) | (with_reducible ((repeat (first | apply GH.ok_push | apply GH.ok_set)); assumption)) | ((try simp only [GH.push_hid, GH.set_hid]); first | assumption | (refine GH.vis ?_ ?_ <;> first | assumption | ((try simp only [GH.pn, GH.sn]) <;> omega)))) only [go_sem, ↓reduceIte, Nat.reduceEqDiff, Nat.reduceAdd, Int.reduceToNat, Int.reduceAdd, Int.reduceNeg, Int.reduceSub, Int.reduceMul, Int.reduceLT, Int.reduceLE, Int.reduceEq, ↓GH.gp_eq, ↓GH.gp_ne, ↓GH.gs_eq, ↓GH.gs_ne, GH.push_next, GH.set_next, he, hAS, hBS, hls, ci']
      rw [List.take_of_length_le (by omega), List.take_of_length_le (by omega)] at hp
      exact out _ _ _ ⟨hlo, hp⟩
end Go.Proofs.YtngmaccaldhjcaaDoor
set_option maxRecDepth 100000
set_option maxHeartbeats 4000000
set_option linter.unusedSimpArgs false
set_option linter.unusedVariables false
namespace Go.Proofs.YtngmaccaldhjcaaDoor
open Go.Ds
def bestT (T : List (List Int)) (L : List Int) : Nat := (bestS (rowG (te T 0 0) (te T 0 1) (te T 0 2) (te T 1 0) (te T 1 1) (te T 1 2) (te T 2 0) (te T 2 1) (te T 2 2) (ne L 0) (ne L 1) (ne L 2)) T.length).1
theorem gain_sm {m00 m01 m02 m10 m11 m12 m20 m21 m22 x0 x1 x2 y0 y1 y2 a b c : Int} (hm : Sm c m00 ∧ Sm c m01 ∧ Sm c m02 ∧ Sm c m10 ∧ Sm c m11 ∧ Sm c m12 ∧ Sm c m20 ∧ Sm c m21 ∧ Sm c m22) (hx : Sm a x0 ∧ Sm a x1 ∧ Sm a x2) (hy : Sm b y0 ∧ Sm b y1 ∧ Sm b y2) : Sm (9 * (a * b * c)) (gainZ m00 m01 m02 m10 m11 m12 m20 m21 m22 x0 x1 x2 y0 y1 y2) := by
  obtain ⟨h00, h01, h02, h10, h11, h12, h20, h21, h22⟩ := hm
  obtain ⟨hx0, hx1, hx2⟩ := hx
  obtain ⟨hy0, hy1, hy2⟩ := hy
  have q00 := (hx0.mul hy0).mul h00
  have q01 := (hx0.mul hy1).mul h01
  have q02 := (hx0.mul hy2).mul h02
  have q10 := (hx1.mul hy0).mul h10
  have q11 := (hx1.mul hy1).mul h11
  have q12 := (hx1.mul hy2).mul h12
  have q20 := (hx2.mul hy0).mul h20
  have q21 := (hx2.mul hy1).mul h21
  have q22 := (hx2.mul hy2).mul h22
  unfold Sm gainZ at *
  omega
/-- What Gain returns. -/
def gainR (T : List (List Int)) (L : List Int) (d : Int) (M : List Int) (f : Int) : Value :=
  if err2 T L d M f = 0 then .tuple #[raV (lowN (gT T (ne L 0) (ne L 1) (ne L 2) (ne M 0) (ne M 1) (ne M 2)) (d * f)) (lowD (gT T (ne L 0) (ne L 1) (ne L 2) (ne M 0) (ne M 1) (ne M 2)) (d * f)), .int .i64 0]
  else .tuple #[raV 0 0, .int .i64 2]
theorem err2_cases (T : List (List Int)) (L : List Int) (d : Int) (M : List Int) (f : Int) : (err2 T L d M f = 2) ∨ (err2 T L d M f = 0 ∧ tabB T = true ∧ mixB T.length L d = true ∧ mixB T.length M f = true) := by
  unfold err2
  split
  · rename_i h; exact .inr ⟨rfl, h⟩
  · exact .inl rfl
theorem err1_cases (T : List (List Int)) (L : List Int) (d : Int) : (err1 T L d = 2) ∨ (err1 T L d = 0 ∧ tabB T = true ∧ mixB T.length L d = true) := by
  unfold err1
  split
  · rename_i h; exact .inr ⟨rfl, h⟩
  · exact .inl rfl
theorem mix_sm {n : Nat} {L : List Int} {d : Int} (h : mixB n L d = true) (i : Nat) : Sm 10000 (ne L i) := by
  have := mix_facts h
  have h6 := this.2.2.2.2.2.1 i
  unfold Sm
  omega
theorem Gain_rets {X : Caller} (hX : Xok X) (T : List (List Int)) (hF : Few T) (L : List Int) (d : Int) (M : List Int) (f : Int) (t s r : Value) (g : GH) (ht : Sl2 g t T) (hs : SlR g s (ints L)) (hr : SlR g r (ints M)) :
    Rets Tryd.prog X 20 [t, paV s d, paV r f] g (fun v g' lo => g.next ≤ lo ∧ v = gainR T L d M f) := by
  have hc := hs.cell
  have hcr := hr.cell
  unfold paV
  refine Rets.run hX.pres p20 (hX.free 20 (by decide) _ _) rfl fun ho => ?_
  have hk : Kept g ((((g.push (cellsOb [s, .int .i64 d] 25)).push (cellsOb [r, .int .i64 f] 25)).push (cellsOb [.int .i64 0, .int .i64 0] 32)).push (cellsOb [s, .int .i64 d, r, .int .i64 f] 25)) := (by (repeat' first | exact Kept.refl _ | assumption | refine Kept.push ?_ ?_ _ | refine Kept.setV ?_ ?_ ?_ _) <;> (first | assumption | exact cellV_int _ _ | exact cellV_bool _ | omega | (simp only [GH.pn, GH.sn] <;> omega) | (with_reducible ((repeat (first | apply GH.ok_push | apply GH.ok_set)); assumption)) | ((try simp only [GH.push_hid, GH.set_hid]); first | assumption | (refine GH.vis ?_ ?_ <;> first | assumption | ((try simp only [GH.pn, GH.sn]) <;> omega)))))
  have hg : ((((g.push (cellsOb [s, .int .i64 d] 25)).push (cellsOb [r, .int .i64 f] 25)).push (cellsOb [.int .i64 0, .int .i64 0] 32)).push (cellsOb [s, .int .i64 d, r, .int .i64 f] 25)).get (g.next + 1 + 1 + 1) = cellsOb [s, .int .i64 d, r, .int .i64 f] 25 := (by simp (disch := first | assumption | exact cellV_int _ _ | exact cellV_bool _ | omega | (simp only [GH.pn, GH.sn] <;> omega) | (with_reducible ((repeat (first | apply GH.ok_push | apply GH.ok_set)); assumption)) | ((try simp only [GH.push_hid, GH.set_hid]); first | assumption | (refine GH.vis ?_ ?_ <;> first | assumption | ((try simp only [GH.pn, GH.sn]) <;> omega)))) only [↓GH.gp_eq, ↓GH.gp_ne, ↓GH.gs_eq, ↓GH.gs_ne, GH.push_next, GH.set_next]; first | done | exact rfl)
  have hA : ((((g.push (cellsOb [s, .int .i64 d] 25)).push (cellsOb [r, .int .i64 f] 25)).push (cellsOb [.int .i64 0, .int .i64 0] 32)).push (cellsOb [s, .int .i64 d, r, .int .i64 f] 25)).get g.next = cellsOb [s, .int .i64 d] 25 := (by simp (disch := first | assumption | exact cellV_int _ _ | exact cellV_bool _ | omega | (simp only [GH.pn, GH.sn] <;> omega) | (with_reducible ((repeat (first | apply GH.ok_push | apply GH.ok_set)); assumption)) | ((try simp only [GH.push_hid, GH.set_hid]); first | assumption | (refine GH.vis ?_ ?_ <;> first | assumption | ((try simp only [GH.pn, GH.sn]) <;> omega)))) only [↓GH.gp_eq, ↓GH.gp_ne, ↓GH.gs_eq, ↓GH.gs_ne, GH.push_next, GH.set_next]; first | done | exact rfl)
  have hB : ((((g.push (cellsOb [s, .int .i64 d] 25)).push (cellsOb [r, .int .i64 f] 25)).push (cellsOb [.int .i64 0, .int .i64 0] 32)).push (cellsOb [s, .int .i64 d, r, .int .i64 f] 25)).get (g.next + 1) = cellsOb [r, .int .i64 f] 25 := (by simp (disch := first | assumption | exact cellV_int _ _ | exact cellV_bool _ | omega | (simp only [GH.pn, GH.sn] <;> omega) | (with_reducible ((repeat (first | apply GH.ok_push | apply GH.ok_set)); assumption)) | ((try simp only [GH.push_hid, GH.set_hid]); first | assumption | (refine GH.vis ?_ ?_ <;> first | assumption | ((try simp only [GH.pn, GH.sn]) <;> omega)))) only [↓GH.gp_eq, ↓GH.gp_ne, ↓GH.gs_eq, ↓GH.gs_ne, GH.push_next, GH.set_next]; first | done | exact rfl)
  have hC : ((((g.push (cellsOb [s, .int .i64 d] 25)).push (cellsOb [r, .int .i64 f] 25)).push (cellsOb [.int .i64 0, .int .i64 0] 32)).push (cellsOb [s, .int .i64 d, r, .int .i64 f] 25)).get (g.next + 1 + 1) = cellsOb [.int .i64 0, .int .i64 0] 32 := (by simp (disch := first | assumption | exact cellV_int _ _ | exact cellV_bool _ | omega | (simp only [GH.pn, GH.sn] <;> omega) | (with_reducible ((repeat (first | apply GH.ok_push | apply GH.ok_set)); assumption)) | ((try simp only [GH.push_hid, GH.set_hid]); first | assumption | (refine GH.vis ?_ ?_ <;> first | assumption | ((try simp only [GH.pn, GH.sn]) <;> omega)))) only [↓GH.gp_eq, ↓GH.gp_ne, ↓GH.gs_eq, ↓GH.gs_ne, GH.push_next, GH.set_next]; first | done | exact rfl)
  have hokH : ((((g.push (cellsOb [s, .int .i64 d] 25)).push (cellsOb [r, .int .i64 f] 25)).push (cellsOb [.int .i64 0, .int .i64 0] 32)).push (cellsOb [s, .int .i64 d, r, .int .i64 f] 25)).ok := GH.ok_push (GH.ok_push (GH.ok_push (GH.ok_push ho)))
  simp +decide (disch := first | assumption | exact cellV_int _ _ | exact cellV_bool _ | omega | (simp only [GH.pn, GH.sn] <;> omega) | (with_reducible ((repeat (first | apply GH.ok_push | apply GH.ok_set)); assumption)) | ((try simp only [GH.push_hid, GH.set_hid]); first | assumption | (refine GH.vis ?_ ?_ <;> first | assumption | ((try simp only [GH.pn, GH.sn]) <;> omega)))) only [go_sem, ↓reduceIte, Nat.reduceEqDiff, Nat.reduceAdd, Int.reduceToNat, Int.reduceAdd, Int.reduceNeg, Int.reduceSub, Int.reduceMul, Int.reduceLT, Int.reduceLE, Int.reduceEq, ↓GH.gp_eq, ↓GH.gp_ne, ↓GH.gs_eq, ↓GH.gs_ne, GH.push_next, GH.set_next, hc, hcr]
  obtain ⟨H, hH⟩ : ∃ H, ((((g.push (cellsOb [s, .int .i64 d] 25)).push (cellsOb [r, .int .i64 f] 25)).push (cellsOb [.int .i64 0, .int .i64 0] 32)).push (cellsOb [s, .int .i64 d, r, .int .i64 f] 25)) = H := ⟨_, rfl⟩
  have hnH : H.next = g.next + 1 + 1 + 1 + 1 := by rw [← hH]; rfl
  rw [hH] at hk hg hA hB hC hokH
  have hck := check2_rets hX T hF L d M f t s r (g.next + 1 + 1 + 1) 25 H (ht.kept hk) (hs.kept hk) (hr.kept hk) (by omega) hg
  rw [← hH] at hck
  refine CallD.calm hck ?_
  rw [hH]
  rintro v g1 hx1 rfl
  have hn1 := hx1.next
  have hok1 := hx1.ok hokH
  have hA1 := (hx1.gets g.next (by omega)).trans hA
  have hB1 := (hx1.gets (g.next + 1) (by omega)).trans hB
  have hC1 := (hx1.gets (g.next + 1 + 1) (by omega)).trans hC
  have hvC := GH.seen hC1 Nat.one_ne_zero
  have hk1 := hk.ext hx1
  unfold gainR
  rcases err2_cases T L d M f with hE | ⟨hE, hT, hm1, hm2⟩
  · rw [hE]
    simp +decide (disch := first | assumption | exact cellV_int _ _ | exact cellV_bool _ | omega | (simp only [GH.pn, GH.sn] <;> omega) | (with_reducible ((repeat (first | apply GH.ok_push | apply GH.ok_set)); assumption)) | ((try simp only [GH.push_hid, GH.set_hid]); first | assumption | (refine GH.vis ?_ ?_ <;> first | assumption | ((try simp only [GH.pn, GH.sn]) <;> omega)))) only [go_sem, ↓reduceIte, Nat.reduceEqDiff, Nat.reduceAdd, Int.reduceToNat, Int.reduceAdd, Int.reduceNeg, Int.reduceSub, Int.reduceMul, Int.reduceLT, Int.reduceLE, Int.reduceEq, ↓GH.gp_eq, ↓GH.gp_ne, ↓GH.gs_eq, ↓GH.gs_ne, GH.push_next, GH.set_next, hC1]
    intro hx0
    exact ⟨by omega, rfl⟩
  · rw [hE]
    obtain ⟨a1, a2, a3, a4, a5, a6, a7, a8⟩ := mix_facts hm1
    obtain ⟨b1, b2, b3, b4, b5, b6, b7, b8⟩ := mix_facts hm2
    have hmo := mixtureOf_rets hX L (by omega) (by omega) d s
    have hmo2 := mixtureOf_rets hX M (by omega) (by omega) f r
    unfold paV mxV at hmo hmo2
    simp +decide (disch := first | assumption | exact cellV_int _ _ | exact cellV_bool _ | omega | (simp only [GH.pn, GH.sn] <;> omega) | (with_reducible ((repeat (first | apply GH.ok_push | apply GH.ok_set)); assumption)) | ((try simp only [GH.push_hid, GH.set_hid]); first | assumption | (refine GH.vis ?_ ?_ <;> first | assumption | ((try simp only [GH.pn, GH.sn]) <;> omega)))) only [go_sem, ↓reduceIte, Nat.reduceEqDiff, Nat.reduceAdd, Int.reduceToNat, Int.reduceAdd, Int.reduceNeg, Int.reduceSub, Int.reduceMul, Int.reduceLT, Int.reduceLE, Int.reduceEq, ↓GH.gp_eq, ↓GH.gp_ne, ↓GH.gs_eq, ↓GH.gs_ne, GH.push_next, GH.set_next, hA1, hB1]
    refine CallD.calm (hmo g1 (hs.kept hk1)) ?_
    rintro v g2 hx2 rfl
    have hn2 := hx2.next
    have hok2 := hx2.ok hok1
    have hB2 := (hx2.gets (g.next + 1) (by omega)).trans hB1
    have hC2 := (hx2.gets (g.next + 1 + 1) (by omega)).trans hC1
    have hk2 := hk1.ext hx2
    simp +decide (disch := first | assumption | exact cellV_int _ _ | exact cellV_bool _ | omega | (simp only [GH.pn, GH.sn] <;> omega) | (with_reducible ((repeat (first | apply GH.ok_push | apply GH.ok_set)); assumption)) | ((try simp only [GH.push_hid, GH.set_hid]); first | assumption | (refine GH.vis ?_ ?_ <;> first | assumption | ((try simp only [GH.pn, GH.sn]) <;> omega)))) only [go_sem, ↓reduceIte, Nat.reduceEqDiff, Nat.reduceAdd, Int.reduceToNat, Int.reduceAdd, Int.reduceNeg, Int.reduceSub, Int.reduceMul, Int.reduceLT, Int.reduceLE, Int.reduceEq, ↓GH.gp_eq, ↓GH.gp_ne, ↓GH.gs_eq, ↓GH.gs_ne, GH.push_next, GH.set_next, hB2]
    refine CallD.calm (hmo2 g2 (hr.kept hk2)) ?_
    rintro v g3 hx3 rfl
    have hn3 := hx3.next
    have hok3 := hx3.ok hok2
    have hC3 := (hx3.gets (g.next + 1 + 1) (by omega)).trans hC2
    have hk3 := hk2.ext hx3
    simp +decide (disch := first | assumption | exact cellV_int _ _ | exact cellV_bool _ | omega | (simp only [GH.pn, GH.sn] <;> omega) | (with_reducible ((repeat (first | apply GH.ok_push | apply GH.ok_set)); assumption)) | ((try simp only [GH.push_hid, GH.set_hid]); first | assumption | (refine GH.vis ?_ ?_ <;> first | assumption | ((try simp only [GH.pn, GH.sn]) <;> omega)))) only [go_sem, ↓reduceIte, Nat.reduceEqDiff, Nat.reduceAdd, Int.reduceToNat, Int.reduceAdd, Int.reduceNeg, Int.reduceSub, Int.reduceMul, Int.reduceLT, Int.reduceLE, Int.reduceEq, ↓GH.gp_eq, ↓GH.gp_ne, ↓GH.gs_eq, ↓GH.gs_ne, GH.push_next, GH.set_next]
    have hma := market_rets hX T hT t
    unfold mkT mkV at hma
    refine CallD.name fun G hG => ?_
    have hnG : G.next = g3.next + 1 + 1 := by rw [hG]; rfl
    have hokG : G.ok := by rw [hG]; exact GH.ok_set (GH.ok_set (GH.ok_push (GH.ok_push hok3)))
    have hP : G.get g3.next = cellsOb [.int .i64 (L.getD 0 0), .int .i64 (L.getD 1 0), .int .i64 (L.getD 2 0), .int .i64 d] 69 := by rw [hG]; exact (by simp (disch := first | assumption | exact cellV_int _ _ | exact cellV_bool _ | omega | (simp only [GH.pn, GH.sn] <;> omega) | (with_reducible ((repeat (first | apply GH.ok_push | apply GH.ok_set)); assumption)) | ((try simp only [GH.push_hid, GH.set_hid]); first | assumption | (refine GH.vis ?_ ?_ <;> first | assumption | ((try simp only [GH.pn, GH.sn]) <;> omega)))) only [↓GH.gp_eq, ↓GH.gp_ne, ↓GH.gs_eq, ↓GH.gs_ne, GH.push_next, GH.set_next]; first | done | exact rfl)
    have hQ : G.get (g3.next + 1) = cellsOb [.int .i64 (M.getD 0 0), .int .i64 (M.getD 1 0), .int .i64 (M.getD 2 0), .int .i64 f] 69 := by rw [hG]; exact (by simp (disch := first | assumption | exact cellV_int _ _ | exact cellV_bool _ | omega | (simp only [GH.pn, GH.sn] <;> omega) | (with_reducible ((repeat (first | apply GH.ok_push | apply GH.ok_set)); assumption)) | ((try simp only [GH.push_hid, GH.set_hid]); first | assumption | (refine GH.vis ?_ ?_ <;> first | assumption | ((try simp only [GH.pn, GH.sn]) <;> omega)))) only [↓GH.gp_eq, ↓GH.gp_ne, ↓GH.gs_eq, ↓GH.gs_ne, GH.push_next, GH.set_next]; first | done | exact rfl)
    have hkG : Kept g3 G := by rw [hG]; exact (by (repeat' first | exact Kept.refl _ | assumption | refine Kept.push ?_ ?_ _ | refine Kept.setV ?_ ?_ ?_ _) <;> (first | assumption | exact cellV_int _ _ | exact cellV_bool _ | omega | (simp only [GH.pn, GH.sn] <;> omega) | (with_reducible ((repeat (first | apply GH.ok_push | apply GH.ok_set)); assumption)) | ((try simp only [GH.push_hid, GH.set_hid]); first | assumption | (refine GH.vis ?_ ?_ <;> first | assumption | ((try simp only [GH.pn, GH.sn]) <;> omega)))))
    have hCG := (hkG.gets (g.next + 1 + 1) (by omega)).trans hC3
    refine CallD.calm (hma G (ht.kept (hk3.trans hkG))) ?_
    rintro v g5 hx5 rfl
    have hn5 := hx5.next
    have hok5 := hx5.ok hokG
    have hP5 := (hx5.gets g3.next (by omega)).trans hP
    have hQ5 := (hx5.gets (g3.next + 1) (by omega)).trans hQ
    have hC5 := (hx5.gets (g.next + 1 + 1) (by omega)).trans hCG
    have hvC5 := GH.seen hC5 Nat.one_ne_zero
    have hsx : Sm 10000 (L.getD 0 0) ∧ Sm 10000 (L.getD 1 0) ∧ Sm 10000 (L.getD 2 0) := ⟨mix_sm hm1 0, mix_sm hm1 1, mix_sm hm1 2⟩
    have hsy : Sm 10000 (M.getD 0 0) ∧ Sm 10000 (M.getD 1 0) ∧ Sm 10000 (M.getD 2 0) := ⟨mix_sm hm2 0, mix_sm hm2 1, mix_sm hm2 2⟩
    have hga := gain_rets hX T.length (te T 0 0) (te T 0 1) (te T 0 2) (te T 1 0) (te T 1 1) (te T 1 2) (te T 2 0) (te T 2 1) (te T 2 2) (L.getD 0 0) (L.getD 1 0) (L.getD 2 0) (M.getD 0 0) (M.getD 1 0) (M.getD 2 0) 10000 10000 20 (tab_sm9 hT) hsx hsy (by decide) (by decide)
    have hgs := gain_sm (tab_sm9 hT) hsx hsy
    obtain ⟨Z, hZ⟩ : ∃ Z, gainZ (te T 0 0) (te T 0 1) (te T 0 2) (te T 1 0) (te T 1 1) (te T 1 2) (te T 2 0) (te T 2 1) (te T 2 2) (L.getD 0 0) (L.getD 1 0) (L.getD 2 0) (M.getD 0 0) (M.getD 1 0) (M.getD 2 0) = Z := ⟨_, rfl⟩
    have hZ2 : gT T (ne L 0) (ne L 1) (ne L 2) (ne M 0) (ne M 1) (ne M 2) = Z := hZ
    rw [hZ2]
    rw [hZ] at hga hgs
    unfold mkV vcV at hga
    simp +decide (disch := first | assumption | exact cellV_int _ _ | exact cellV_bool _ | omega | (simp only [GH.pn, GH.sn] <;> omega) | (with_reducible ((repeat (first | apply GH.ok_push | apply GH.ok_set)); assumption)) | ((try simp only [GH.push_hid, GH.set_hid]); first | assumption | (refine GH.vis ?_ ?_ <;> first | assumption | ((try simp only [GH.pn, GH.sn]) <;> omega)))) only [go_sem, ↓reduceIte, Nat.reduceEqDiff, Nat.reduceAdd, Int.reduceToNat, Int.reduceAdd, Int.reduceNeg, Int.reduceSub, Int.reduceMul, Int.reduceLT, Int.reduceLE, Int.reduceEq, ↓GH.gp_eq, ↓GH.gp_ne, ↓GH.gs_eq, ↓GH.gs_ne, GH.push_next, GH.set_next, hP5, hQ5]
    refine CallD.calm (hga _) ?_
    rintro v g6 hx6 rfl
    have hn6 := hx6.next
    have hok6 := hx6.ok hok5
    have hP6 := (hx6.gets g3.next (by omega)).trans hP5
    have hQ6 := (hx6.gets (g3.next + 1) (by omega)).trans hQ5
    have hC6 := (hx6.gets (g.next + 1 + 1) (by omega)).trans hC5
    have hdf : 0 < d * f ∧ d * f ≤ 100000000 := by
      have h1 := Int.mul_pos (show 0 < d by omega) (show 0 < f by omega)
      have h2 := Int.mul_le_mul a5 b5 (by omega) (by omega)
      exact ⟨h1, h2⟩
    simp +decide (disch := first | assumption | exact cellV_int _ _ | exact cellV_bool _ | omega | (simp only [GH.pn, GH.sn] <;> omega) | (with_reducible ((repeat (first | apply GH.ok_push | apply GH.ok_set)); assumption)) | ((try simp only [GH.push_hid, GH.set_hid]); first | assumption | (refine GH.vis ?_ ?_ <;> first | assumption | ((try simp only [GH.pn, GH.sn]) <;> omega)))) only [go_sem, ↓reduceIte, Nat.reduceEqDiff, Nat.reduceAdd, Int.reduceToNat, Int.reduceAdd, Int.reduceNeg, Int.reduceSub, Int.reduceMul, Int.reduceLT, Int.reduceLE, Int.reduceEq, ↓GH.gp_eq, ↓GH.gp_ne, ↓GH.gs_eq, ↓GH.gs_ne, GH.push_next, GH.set_next, hP6, hQ6]
    refine CallD.calm (lowest_rets hX Z (d * f) (hgs.up (by decide)) (by omega) _) ?_
    rintro v g7 hx7 rfl
    have hn7 := hx7.next
    have hC7 := (hx7.gets (g.next + 1 + 1) (by omega)).trans hC6
    have hvC7 := GH.seen hC7 Nat.one_ne_zero
    unfold raV
    simp +decide (disch := first | assumption | exact cellV_int _ _ | exact cellV_bool _ | omega | (simp only [GH.pn, GH.sn] <;> omega) | (with_reducible ((repeat (first | apply GH.ok_push | apply GH.ok_set)); assumption)) | ((try simp only [GH.push_hid, GH.set_hid]); first | assumption | (refine GH.vis ?_ ?_ <;> first | assumption | ((try simp only [GH.pn, GH.sn]) <;> omega)))) only [go_sem, ↓reduceIte, Nat.reduceEqDiff, Nat.reduceAdd, Int.reduceToNat, Int.reduceAdd, Int.reduceNeg, Int.reduceSub, Int.reduceMul, Int.reduceLT, Int.reduceLE, Int.reduceEq, ↓GH.gp_eq, ↓GH.gp_ne, ↓GH.gs_eq, ↓GH.gs_ne, GH.push_next, GH.set_next, hC7]
    intro hx0
    exact ⟨by omega, rfl⟩
def restB (T : List (List Int)) (L : List Int) : Bool := decide (andn (fashF (v3 (ne L 0) (ne L 1) (ne L 2)) 3) (bestT T L) = 0)
def atRestR (T : List (List Int)) (L : List Int) (d : Int) : Value := if err1 T L d = 0 then .tuple #[.bool (restB T L), .int .i64 0] else .tuple #[.bool false, .int .i64 2]
theorem AtRest_rets {X : Caller} (hX : Xok X) (T : List (List Int)) (hF : Few T) (L : List Int) (d : Int) (t s : Value) (g : GH) (ht : Sl2 g t T) (hs : SlR g s (ints L)) :
    Rets Tryd.prog X 22 [t, paV s d] g (fun v g' lo => g.next ≤ lo ∧ v = atRestR T L d) := by
  have hc := hs.cell
  unfold paV
  refine Rets.run hX.pres p22 (hX.free 22 (by decide) _ _) rfl fun ho => ?_
  have hk : Kept g ((g.push (cellsOb [s, .int .i64 d] 25)).push (cellsOb [s, .int .i64 d] 25)) := (by (repeat' first | exact Kept.refl _ | assumption | refine Kept.push ?_ ?_ _ | refine Kept.setV ?_ ?_ ?_ _) <;> (first | assumption | exact cellV_int _ _ | exact cellV_bool _ | omega | (simp only [GH.pn, GH.sn] <;> omega) | (with_reducible ((repeat (first | apply GH.ok_push | apply GH.ok_set)); assumption)) | ((try simp only [GH.push_hid, GH.set_hid]); first | assumption | (refine GH.vis ?_ ?_ <;> first | assumption | ((try simp only [GH.pn, GH.sn]) <;> omega)))))
  have hg : ((g.push (cellsOb [s, .int .i64 d] 25)).push (cellsOb [s, .int .i64 d] 25)).get (g.next + 1) = cellsOb [s, .int .i64 d] 25 := (by simp (disch := first | assumption | exact cellV_int _ _ | exact cellV_bool _ | omega | (simp only [GH.pn, GH.sn] <;> omega) | (with_reducible ((repeat (first | apply GH.ok_push | apply GH.ok_set)); assumption)) | ((try simp only [GH.push_hid, GH.set_hid]); first | assumption | (refine GH.vis ?_ ?_ <;> first | assumption | ((try simp only [GH.pn, GH.sn]) <;> omega)))) only [↓GH.gp_eq, ↓GH.gp_ne, ↓GH.gs_eq, ↓GH.gs_ne, GH.push_next, GH.set_next]; first | done | exact rfl)
  have hA : ((g.push (cellsOb [s, .int .i64 d] 25)).push (cellsOb [s, .int .i64 d] 25)).get g.next = cellsOb [s, .int .i64 d] 25 := (by simp (disch := first | assumption | exact cellV_int _ _ | exact cellV_bool _ | omega | (simp only [GH.pn, GH.sn] <;> omega) | (with_reducible ((repeat (first | apply GH.ok_push | apply GH.ok_set)); assumption)) | ((try simp only [GH.push_hid, GH.set_hid]); first | assumption | (refine GH.vis ?_ ?_ <;> first | assumption | ((try simp only [GH.pn, GH.sn]) <;> omega)))) only [↓GH.gp_eq, ↓GH.gp_ne, ↓GH.gs_eq, ↓GH.gs_ne, GH.push_next, GH.set_next]; first | done | exact rfl)
  have hokH : ((g.push (cellsOb [s, .int .i64 d] 25)).push (cellsOb [s, .int .i64 d] 25)).ok := GH.ok_push (GH.ok_push ho)
  simp +decide (disch := first | assumption | exact cellV_int _ _ | exact cellV_bool _ | omega | (simp only [GH.pn, GH.sn] <;> omega) | (with_reducible ((repeat (first | apply GH.ok_push | apply GH.ok_set)); assumption)) | ((try simp only [GH.push_hid, GH.set_hid]); first | assumption | (refine GH.vis ?_ ?_ <;> first | assumption | ((try simp only [GH.pn, GH.sn]) <;> omega)))) only [go_sem, ↓reduceIte, Nat.reduceEqDiff, Nat.reduceAdd, Int.reduceToNat, Int.reduceAdd, Int.reduceNeg, Int.reduceSub, Int.reduceMul, Int.reduceLT, Int.reduceLE, Int.reduceEq, ↓GH.gp_eq, ↓GH.gp_ne, ↓GH.gs_eq, ↓GH.gs_ne, GH.push_next, GH.set_next, hc]
  obtain ⟨H, hH⟩ : ∃ H, ((g.push (cellsOb [s, .int .i64 d] 25)).push (cellsOb [s, .int .i64 d] 25)) = H := ⟨_, rfl⟩
  have hnH : H.next = g.next + 1 + 1 := by rw [← hH]; rfl
  rw [hH] at hk hg hA hokH
  have hck := check1_rets hX T hF L d t s (g.next + 1) 25 H (ht.kept hk) (hs.kept hk) (by omega) hg
  rw [← hH] at hck
  refine CallD.calm hck ?_
  rw [hH]
  rintro v g1 hx1 rfl
  have hn1 := hx1.next
  have hok1 := hx1.ok hokH
  have hA1 := (hx1.gets g.next (by omega)).trans hA
  have hk1 := hk.ext hx1
  rcases err1_cases T L d with hE | ⟨hE, hT, hm1⟩
  · unfold atRestR
    rw [hE]
    simp +decide (disch := first | assumption | exact cellV_int _ _ | exact cellV_bool _ | omega | (simp only [GH.pn, GH.sn] <;> omega) | (with_reducible ((repeat (first | apply GH.ok_push | apply GH.ok_set)); assumption)) | ((try simp only [GH.push_hid, GH.set_hid]); first | assumption | (refine GH.vis ?_ ?_ <;> first | assumption | ((try simp only [GH.pn, GH.sn]) <;> omega)))) only [go_sem, ↓reduceIte, Nat.reduceEqDiff, Nat.reduceAdd, Int.reduceToNat, Int.reduceAdd, Int.reduceNeg, Int.reduceSub, Int.reduceMul, Int.reduceLT, Int.reduceLE, Int.reduceEq, ↓GH.gp_eq, ↓GH.gp_ne, ↓GH.gs_eq, ↓GH.gs_ne, GH.push_next, GH.set_next]
    intro hx0
    exact ⟨by omega, rfl⟩
  · obtain ⟨a1, a2, a3, a4, a5, a6, a7, a8⟩ := mix_facts hm1
    have hmo := mixtureOf_rets hX L (by omega) (by omega) d s
    unfold paV mxV at hmo
    have hma := market_rets hX T hT t
    unfold mkT mkV at hma
    unfold atRestR
    rw [hE]
    simp +decide (disch := first | assumption | exact cellV_int _ _ | exact cellV_bool _ | omega | (simp only [GH.pn, GH.sn] <;> omega) | (with_reducible ((repeat (first | apply GH.ok_push | apply GH.ok_set)); assumption)) | ((try simp only [GH.push_hid, GH.set_hid]); first | assumption | (refine GH.vis ?_ ?_ <;> first | assumption | ((try simp only [GH.pn, GH.sn]) <;> omega)))) only [go_sem, ↓reduceIte, Nat.reduceEqDiff, Nat.reduceAdd, Int.reduceToNat, Int.reduceAdd, Int.reduceNeg, Int.reduceSub, Int.reduceMul, Int.reduceLT, Int.reduceLE, Int.reduceEq, ↓GH.gp_eq, ↓GH.gp_ne, ↓GH.gs_eq, ↓GH.gs_ne, GH.push_next, GH.set_next]
    refine CallD.calm (hma g1 (ht.kept hk1)) ?_
    rintro v g2 hx2 rfl
    have hn2 := hx2.next
    have hok2 := hx2.ok hok1
    have hA2 := (hx2.gets g.next (by omega)).trans hA1
    have hk2 := hk1.ext hx2
    simp +decide (disch := first | assumption | exact cellV_int _ _ | exact cellV_bool _ | omega | (simp only [GH.pn, GH.sn] <;> omega) | (with_reducible ((repeat (first | apply GH.ok_push | apply GH.ok_set)); assumption)) | ((try simp only [GH.push_hid, GH.set_hid]); first | assumption | (refine GH.vis ?_ ?_ <;> first | assumption | ((try simp only [GH.pn, GH.sn]) <;> omega)))) only [go_sem, ↓reduceIte, Nat.reduceEqDiff, Nat.reduceAdd, Int.reduceToNat, Int.reduceAdd, Int.reduceNeg, Int.reduceSub, Int.reduceMul, Int.reduceLT, Int.reduceLE, Int.reduceEq, ↓GH.gp_eq, ↓GH.gp_ne, ↓GH.gs_eq, ↓GH.gs_ne, GH.push_next, GH.set_next, hA2]
    refine CallD.calm (hmo g2 (hs.kept hk2)) ?_
    rintro v g3 hx3 rfl
    have hn3 := hx3.next
    have hsx : Sm 10000 (L.getD 0 0) ∧ Sm 10000 (L.getD 1 0) ∧ Sm 10000 (L.getD 2 0) := ⟨mix_sm hm1 0, mix_sm hm1 1, mix_sm hm1 2⟩
    have hat := atRest_rets hX T.length (by omega) (te T 0 0) (te T 0 1) (te T 0 2) (te T 1 0) (te T 1 1) (te T 1 2) (te T 2 0) (te T 2 1) (te T 2 2) (L.getD 0 0) (L.getD 1 0) (L.getD 2 0) d (tab_sm9 hT) hsx
    unfold mkV mxV at hat
    simp +decide (disch := first | assumption | exact cellV_int _ _ | exact cellV_bool _ | omega | (simp only [GH.pn, GH.sn] <;> omega) | (with_reducible ((repeat (first | apply GH.ok_push | apply GH.ok_set)); assumption)) | ((try simp only [GH.push_hid, GH.set_hid]); first | assumption | (refine GH.vis ?_ ?_ <;> first | assumption | ((try simp only [GH.pn, GH.sn]) <;> omega)))) only [go_sem, ↓reduceIte, Nat.reduceEqDiff, Nat.reduceAdd, Int.reduceToNat, Int.reduceAdd, Int.reduceNeg, Int.reduceSub, Int.reduceMul, Int.reduceLT, Int.reduceLE, Int.reduceEq, ↓GH.gp_eq, ↓GH.gp_ne, ↓GH.gs_eq, ↓GH.gs_ne, GH.push_next, GH.set_next]
    refine CallD.calm (hat _) ?_
    rintro v g4 hx4 rfl
    have hn4 := hx4.next
    simp +decide (disch := first | assumption | exact cellV_int _ _ | exact cellV_bool _ | omega | (simp only [GH.pn, GH.sn] <;> omega) | (with_reducible ((repeat (first | apply GH.ok_push | apply GH.ok_set)); assumption)) | ((try simp only [GH.push_hid, GH.set_hid]); first | assumption | (refine GH.vis ?_ ?_ <;> first | assumption | ((try simp only [GH.pn, GH.sn]) <;> omega)))) only [go_sem, ↓reduceIte, Nat.reduceEqDiff, Nat.reduceAdd, Int.reduceToNat, Int.reduceAdd, Int.reduceNeg, Int.reduceSub, Int.reduceMul, Int.reduceLT, Int.reduceLE, Int.reduceEq, ↓GH.gp_eq, ↓GH.gp_ne, ↓GH.gs_eq, ↓GH.gs_ne, GH.push_next, GH.set_next]
    intro hx0
    refine ⟨by omega, ?_⟩
    rfl
end Go.Proofs.YtngmaccaldhjcaaDoor
set_option maxRecDepth 100000
set_option maxHeartbeats 4000000
set_option linter.unusedSimpArgs false
set_option linter.unusedVariables false
namespace Go.Proofs.YtngmaccaldhjcaaDoor
open Go.Ds
/-! ## Sets by their members -/
def maskP (p : Nat → Bool) : Nat → Nat
  | 0 => 0
  | i + 1 => maskP p i + if p i = true then 2 ^ i else 0
theorem maskP_same {p q : Nat → Bool} : ∀ n, (∀ i, i < n → p i = q i) → maskP p n = maskP q n
  | 0, _ => rfl
  | n + 1, h => by unfold maskP; rw [maskP_same n fun i hi => h i (by omega), h n (by omega)]
theorem maskP_none {p : Nat → Bool} : ∀ n, (∀ i, i < n → p i = false) → maskP p n = 0
  | 0, _ => rfl
  | n + 1, h => by unfold maskP; rw [maskP_none n fun i hi => h i (by omega), h n (by omega)]; rfl
theorem maskP_pos {p : Nat → Bool} : ∀ n i, i < n → p i = true → 1 ≤ maskP p n
  | 0, i, h, _ => by omega
  | n + 1, i, h, hp => by
    unfold maskP
    by_cases c : i = n
    · subst c
      rw [if_pos hp]
      have := Nat.two_pow_pos i
      omega
    · have := maskP_pos n i (by omega) hp
      omega
theorem fashF_mask (x : Nat → Int) : ∀ n, fashF x n = maskP (fun i => decide (0 < x i)) n
  | 0 => rfl
  | n + 1 => by
    unfold fashF maskP
    rw [fashF_mask x n]
    by_cases c : 0 < x n
    · rw [if_pos c, if_pos (decide_eq_true c)]
    · rw [if_neg c, if_neg (by simpa using c)]
theorem best_mask (f : Nat → Int) : ∀ n, 1 ≤ n → ∃ mx, (∀ i, i < n → f i ≤ mx) ∧ (∃ i, i < n ∧ f i = mx) ∧ bestS f n = (maskP (fun i => decide (f i = mx)) n, mx)
  | 0, h => by omega
  | n + 1, _ => by
    by_cases c0 : n = 0
    · subst c0
      refine ⟨f 0, fun i hi => by rw [show i = 0 by omega]; exact Int.le_refl _, ⟨0, by omega, rfl⟩, ?_⟩
      unfold bestS stepB maskP
      rw [if_pos (.inl rfl)]
      simp [maskP]
    · obtain ⟨mx, h1, ⟨j, hj, h2⟩, h3⟩ := best_mask f n (by omega)
      have hp := maskP_pos (p := fun i => decide (f i = mx)) n j hj (by simpa using h2)
      have e : bestS f (n + 1) = stepB (bestS f n) n (f n) := rfl
      rw [e, h3]
      unfold stepB
      by_cases c1 : mx < f n
      · rw [if_pos (.inr c1)]
        refine ⟨f n, fun i hi => ?_, ⟨n, by omega, rfl⟩, ?_⟩
        · by_cases ci : i = n
          · rw [ci]; exact Int.le_refl _
          · have := h1 i (by omega); omega
        · unfold maskP
          rw [maskP_none n fun i hi => by have := h1 i hi; simp; omega]
          simp
      · rw [if_neg (by show ¬ (maskP _ n = 0 ∨ mx < f n); omega)]
        refine ⟨mx, fun i hi => ?_, ⟨j, by omega, h2⟩, ?_⟩
        · by_cases ci : i = n
          · rw [ci]; omega
          · exact h1 i (by omega)
        · by_cases c2 : f n = mx
          · rw [if_pos (show f n = mx from c2)]
            show (maskP _ n + 2 ^ n, mx) = (maskP _ n + (if decide (f n = mx) = true then 2 ^ n else 0), mx)
            rw [if_pos (decide_eq_true c2)]
          · rw [if_neg (show ¬ f n = mx from c2)]
            show (maskP _ n, mx) = (maskP _ n + (if decide (f n = mx) = true then 2 ^ n else 0), mx)
            rw [if_neg (by simpa using c2)]
            rfl
theorem maskP_bit (p : Nat → Bool) {n i : Nat} (hn : n ≤ 3) (hi : i < n) : (maskP p n / 2 ^ i % 2 = 1) ↔ p i = true := by
  have key : ∀ a b c : Bool, ∀ n, n ≤ 3 → ∀ i, i < n → ((maskP (fun j => if j = 0 then a else if j = 1 then b else c) n / 2 ^ i % 2 = 1) ↔ (if i = 0 then a else if i = 1 then b else c) = true) := by decide
  have h := key (p 0) (p 1) (p 2) n hn i hi
  have e : maskP p n = maskP (fun j => if j = 0 then p 0 else if j = 1 then p 1 else p 2) n := maskP_same n fun j hj => by
    obtain rfl | rfl | rfl : j = 0 ∨ j = 1 ∨ j = 2 := by omega
    all_goals rfl
  rw [e, h]
  obtain rfl | rfl | rfl : i = 0 ∨ i = 1 ∨ i = 2 := by omega
  all_goals rfl
theorem andn_mask (p q : Nat → Bool) {n : Nat} (hn : n ≤ 3) : andn (maskP p 3) (maskP q n) = 0 ↔ ∀ i, i < 3 → p i = true → i < n ∧ q i = true := by
  have key : ∀ a b c d e f : Bool, ∀ n, n ≤ 3 → (andn (maskP (fun j => if j = 0 then a else if j = 1 then b else c) 3) (maskP (fun j => if j = 0 then d else if j = 1 then e else f) n) = 0 ↔ ∀ i, i < 3 → (if i = 0 then a else if i = 1 then b else c) = true → i < n ∧ (if i = 0 then d else if i = 1 then e else f) = true) := by decide
  have h := key (p 0) (p 1) (p 2) (q 0) (q 1) (q 2) n hn
  have e : ∀ (p : Nat → Bool) (n : Nat), n ≤ 3 → maskP p n = maskP (fun j => if j = 0 then p 0 else if j = 1 then p 1 else p 2) n := fun p n hn => maskP_same n fun j hj => by
    obtain rfl | rfl | rfl : j = 0 ∨ j = 1 ∨ j = 2 := by omega
    all_goals rfl
  rw [e p 3 (by omega), e q n hn, h]
  constructor
  · intro h i hi hp
    have := h i hi
    obtain rfl | rfl | rfl : i = 0 ∨ i = 1 ∨ i = 2 := by omega
    all_goals exact this hp
  · intro h i hi hp
    have := h i hi
    obtain rfl | rfl | rfl : i = 0 ∨ i = 1 ∨ i = 2 := by omega
    all_goals exact this hp
/-! ## Ratios -/
theorem low_facts (a : Int) {b : Int} (hb : 0 < b) : ∃ g : Int, 0 < g ∧ a = lowN a b * g ∧ b = lowD a b * g ∧ 0 < lowD a b ∧ lowD a b ≤ b := by
  unfold lowN lowD
  have hg := Nat.gcd_pos_of_pos_left a.natAbs (show 0 < b.natAbs by omega)
  obtain ⟨G, hG⟩ : ∃ G, Nat.gcd b.natAbs a.natAbs = G := ⟨_, rfl⟩
  have d1 : (G : Int) ∣ a := by rw [← hG]; exact Int.ofNat_dvd_left.2 (Nat.gcd_dvd_right _ _)
  have d2 : (G : Int) ∣ b := by rw [← hG]; exact Int.ofNat_dvd_left.2 (Nat.gcd_dvd_left _ _)
  rw [hG] at hg ⊢
  have e1 := Int.tdiv_mul_cancel d1
  have e2 := Int.tdiv_mul_cancel d2
  have hp : 0 < b.tdiv (G : Int) := by
    rcases Int.lt_or_le 0 (b.tdiv (G : Int)) with h | h
    · exact h
    · have := Int.mul_nonpos_of_nonpos_of_nonneg h (show (0 : Int) ≤ G by omega)
      omega
  refine ⟨G, by omega, e1.symm, e2.symm, hp, ?_⟩
  have := Int.mul_le_mul_of_nonneg_left (show (1 : Int) ≤ G by omega) (show 0 ≤ b.tdiv (G : Int) by omega)
  omega
theorem low_lt {a b a' b' : Int} (hb : 0 < b) (hb' : 0 < b') : (lowN a' b' * lowD a b < lowN a b * lowD a' b') ↔ a' * b < a * b' := by
  obtain ⟨g, g0, e1, e2, _⟩ := low_facts a hb
  obtain ⟨g', g0', e1', e2', _⟩ := low_facts a' hb'
  obtain ⟨p, hp⟩ : ∃ p, lowN a b = p := ⟨_, rfl⟩
  obtain ⟨q, hq⟩ : ∃ q, lowD a b = q := ⟨_, rfl⟩
  obtain ⟨p', hp'⟩ : ∃ p', lowN a' b' = p' := ⟨_, rfl⟩
  obtain ⟨q', hq'⟩ : ∃ q', lowD a' b' = q' := ⟨_, rfl⟩
  rw [hp] at e1 ⊢
  rw [hq] at e2 ⊢
  rw [hp'] at e1' ⊢
  rw [hq'] at e2' ⊢
  have hk := Int.mul_pos g0 g0'
  have i1 : a' * b = p' * q * (g * g') := by rw [e1', e2]; grind
  have i2 : a * b' = p * q' * (g * g') := by rw [e1, e2']; grind
  rw [i1, i2]
  exact (Int.mul_lt_mul_right hk).symm
theorem low_sm {a b B : Int} (hb : 0 < b) (ha : Sm B a) : Sm B (lowN a b) := by
  unfold Sm at *
  have := Int.natAbs_tdiv_le_natAbs a ((Nat.gcd b.natAbs a.natAbs : Nat) : Int)
  have e : lowN a b = a.tdiv ((Nat.gcd b.natAbs a.natAbs : Nat) : Int) := rfl
  rw [← e] at this
  omega
/-! ## Gains of mixtures -/
def rowT (T : List (List Int)) (L : List Int) : Nat → Int := rowG (te T 0 0) (te T 0 1) (te T 0 2) (te T 1 0) (te T 1 1) (te T 1 2) (te T 2 0) (te T 2 1) (te T 2 2) (ne L 0) (ne L 1) (ne L 2)
theorem gT_rows (T : List (List Int)) (P L : List Int) : gT T (ne P 0) (ne P 1) (ne P 2) (ne L 0) (ne L 1) (ne L 2) = ne P 0 * rowT T L 0 + ne P 1 * rowT T L 1 + ne P 2 * rowT T L 2 := by
  unfold gT gainZ rowT rowG v3
  grind
theorem mix_sum {n : Nat} {L : List Int} {d : Int} (h : mixB n L d = true) : ne L 0 + ne L 1 + ne L 2 = d := by
  obtain ⟨a1, a2, a3, a4, a5, a6, a7, a8⟩ := mix_facts h
  rw [← a7]
  match L, a3, (show L.length = 1 ∨ L.length = 2 ∨ L.length = 3 by omega) with
  | [a], _, _ => simp [ne, sumL]
  | [a, b], _, _ => simp [ne, sumL]
  | [a, b, c], _, _ => simp [ne, sumL]
theorem ne_out {L : List Int} {i : Nat} (h : L.length ≤ i) : ne L i = 0 := by
  unfold ne
  rw [List.getD_eq_getElem?_getD, List.getElem?_eq_none h]; rfl
theorem row_bound {T : List (List Int)} (hT : tabB T = true) {n : Nat} {L : List Int} {d : Int} (h : mixB n L d = true) (i : Nat) : Sm (20 * d) (rowT T L i) := by
  have hs := mix_sum h
  obtain ⟨a1, a2, a3, a4, a5, a6, a7, a8⟩ := mix_facts h
  have key : ∀ (m0 m1 m2 x0 x1 x2 : Int), Sm 20 m0 → Sm 20 m1 → Sm 20 m2 → 0 ≤ x0 → 0 ≤ x1 → 0 ≤ x2 → Sm (20 * (x0 + x1 + x2)) (m0 * x0 + m1 * x1 + m2 * x2) := by
    intro m0 m1 m2 x0 x1 x2 h0 h1 h2 p0 p1 p2
    unfold Sm at *
    have u0 := Int.mul_nonneg (show 0 ≤ 20 - m0 by omega) p0
    have u1 := Int.mul_nonneg (show 0 ≤ 20 - m1 by omega) p1
    have u2 := Int.mul_nonneg (show 0 ≤ 20 - m2 by omega) p2
    have w0 := Int.mul_nonneg (show 0 ≤ 20 + m0 by omega) p0
    have w1 := Int.mul_nonneg (show 0 ≤ 20 + m1 by omega) p1
    have w2 := Int.mul_nonneg (show 0 ≤ 20 + m2 by omega) p2
    constructor <;> grind
  rw [← hs]
  have k0 := key _ _ _ (ne L 0) (ne L 1) (ne L 2) (te_sm hT 0 0) (te_sm hT 0 1) (te_sm hT 0 2) (a6 0).1 (a6 1).1 (a6 2).1
  have k1 := key _ _ _ (ne L 0) (ne L 1) (ne L 2) (te_sm hT 1 0) (te_sm hT 1 1) (te_sm hT 1 2) (a6 0).1 (a6 1).1 (a6 2).1
  have k2 := key _ _ _ (ne L 0) (ne L 1) (ne L 2) (te_sm hT 2 0) (te_sm hT 2 1) (te_sm hT 2 2) (a6 0).1 (a6 1).1 (a6 2).1
  unfold rowT rowG
  match i with
  | 0 => exact k0
  | 1 => exact k1
  | 2 => exact k2
  | i + 3 =>
    show Sm _ 0
    have h0 := a6 0
    have h1 := a6 1
    have h2 := a6 2
    unfold Sm; omega
theorem gT_bound {T : List (List Int)} (hT : tabB T = true) {n : Nat} {P L : List Int} {f d : Int} (hP : mixB n P f = true) (hL : mixB n L d = true) : Sm (20 * d * f) (gT T (ne P 0) (ne P 1) (ne P 2) (ne L 0) (ne L 1) (ne L 2)) := by
  rw [gT_rows, ← mix_sum hP]
  obtain ⟨b1, b2, b3, b4, b5, b6, b7, b8⟩ := mix_facts hP
  have key : ∀ (B r0 r1 r2 x0 x1 x2 : Int), Sm B r0 → Sm B r1 → Sm B r2 → 0 ≤ x0 → 0 ≤ x1 → 0 ≤ x2 → Sm (B * (x0 + x1 + x2)) (x0 * r0 + x1 * r1 + x2 * r2) := by
    intro B m0 m1 m2 x0 x1 x2 h0 h1 h2 p0 p1 p2
    unfold Sm at *
    have u0 := Int.mul_nonneg (show 0 ≤ B - m0 by omega) p0
    have u1 := Int.mul_nonneg (show 0 ≤ B - m1 by omega) p1
    have u2 := Int.mul_nonneg (show 0 ≤ B - m2 by omega) p2
    have w0 := Int.mul_nonneg (show 0 ≤ B + m0 by omega) p0
    have w1 := Int.mul_nonneg (show 0 ≤ B + m1 by omega) p1
    have w2 := Int.mul_nonneg (show 0 ≤ B + m2 by omega) p2
    constructor <;> grind
  exact key _ _ _ _ _ _ _ (row_bound hT hL 0) (row_bound hT hL 1) (row_bound hT hL 2) (b6 0).1 (b6 1).1 (b6 2).1
end Go.Proofs.YtngmaccaldhjcaaDoor
