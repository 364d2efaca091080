import Derived.Test.YtngmaccaldhjcaaDoorJ4
import Derived.Test.YtngmaccaldhjcaaDoorKe
import Derived.Test.YtngmaccaldhjcaaDoorDtO
set_option linter.all false
set_option linter.unusedSimpArgs false
set_option linter.unnecessarySimpa false
set_option linter.unusedVariables false
set_option linter.unusedSectionVars false
set_option maxRecDepth 100000
set_option maxHeartbeats 4000000
set_option linter.unusedSimpArgs false
set_option linter.unusedVariables false
namespace Go.Proofs.YtngmaccaldhjcaaDoor
open Go.Ds
theorem index_rets {X : Caller} (hX : Xok X) (O : List Int) (x : Int) (hO : O.length < 1000000) (s : Value) (g : GH) (hs : SlR g s (ints O)) :
    Rets Tryd.prog X 88 [s, .int .i64 x] g (fun v g' lo => g.next ≤ lo ∧ ∃ k : Int, v = .int .i64 k ∧ (0 ≤ k ↔ x ∈ O)) := by
  have hl := hs.len
  rw [ints_len] at hl
  refine Rets.run hX.pres p88 (hX.free 88 (by decide) _ _) rfl fun ho => ?_
  simp +decide (disch := first | assumption | exact cellV_int _ _ | exact cellV_bool _ | omega | (simp only [GH.pn, GH.sn] <;> omega) | (with_reducible ((repeat (first | apply GH.ok_push | apply GH.ok_set)); assumption)) | ((try simp only [GH.push_hid, GH.set_hid]); first | assumption | (refine GH.vis ?_ ?_ <;> first | assumption | ((try simp only [GH.pn, GH.sn]) <;> omega)))) only [go_sem, ↓reduceIte, Nat.reduceEqDiff, Nat.reduceAdd, Int.reduceToNat, Int.reduceAdd, Int.reduceNeg, Int.reduceSub, Int.reduceMul, Int.reduceLT, Int.reduceLE, Int.reduceEq, ↓GH.gp_eq, ↓GH.gp_ne, ↓GH.gs_eq, ↓GH.gs_ne, GH.push_next, GH.set_next, hl]
  refine Wk.loops (fun m e g' lo => g' = g ∧ g.next ≤ lo ∧ ∃ i : Nat, i + m = O.length ∧ (ev e (.s 0) = s ∧ ev e (.s 1) = .int .i64 x ∧ ev e (.s 7) = .int .i64 (O.length : Int) ∧ ev e (.s 8) = .int .i64 i) ∧ x ∉ O.take i)
    (fun e g' lo => g.next ≤ lo ∧ x ∉ O) (n := O.length) ?_ ?_ ?_
  · exact ⟨rfl, Nat.le_refl _, 0, by omega, (by simp +decide (disch := first | assumption | (apply GH.ok_push; assumption) | exact cellV_int _ _ | exact cellV_bool _ | omega) only [go_sem, ↓reduceIte, Nat.reduceEqDiff, Nat.reduceAdd, Int.reduceToNat]; first | done | exact rfl), by simp⟩
  · rintro e g' lo - - ⟨hlo, h⟩
    simp +decide (disch := first | assumption | exact cellV_int _ _ | exact cellV_bool _ | omega | (simp only [GH.pn, GH.sn] <;> omega) | (with_reducible ((repeat (first | apply GH.ok_push | apply GH.ok_set)); assumption)) | ((try simp only [GH.push_hid, GH.set_hid]); first | assumption | (refine GH.vis ?_ ?_ <;> first | assumption | ((try simp only [GH.pn, GH.sn]) <;> omega)))) only [go_sem, ↓reduceIte, Nat.reduceEqDiff, Nat.reduceAdd, Int.reduceToNat, Int.reduceAdd, Int.reduceNeg, Int.reduceSub, Int.reduceMul, Int.reduceLT, Int.reduceLE, Int.reduceEq, ↓GH.gp_eq, ↓GH.gp_ne, ↓GH.gs_eq, ↓GH.gs_ne, GH.push_next, GH.set_next]
    intro hx0
    exact ⟨hlo, -1, rfl, by constructor <;> intro h2 <;> first | omega | exact absurd h2 h⟩
  · rintro m e g' lo ho' hl' ih out ⟨rfl, hlo, i, hi, he, hp⟩
    by_cases ci : i < O.length
    · have ci' : (i : Int) < O.length := by omega
      obtain ⟨j1, o1, hj1, hp1, hp2⟩ := hs.ptr (ints_get (D := O) (i := i) ci)
      have hp1 := hp1 (i : Int) rfl
      have hOi := getD_get (0 : Int) ci
      by_cases c : x = O.getD i 0
      · rw [← c] at hp2 hOi
        simp +decide (disch := first | assumption | exact cellV_int _ _ | exact cellV_bool _ | omega | (simp only [GH.pn, GH.sn] <;> omega) | (with_reducible ((repeat (first | apply GH.ok_push | apply GH.ok_set)); assumption)) | ((try simp only [GH.push_hid, GH.set_hid]); first | assumption | (refine GH.vis ?_ ?_ <;> first | assumption | ((try simp only [GH.pn, GH.sn]) <;> omega)))) only [go_sem, ↓reduceIte, Nat.reduceEqDiff, Nat.reduceAdd, Int.reduceToNat, Int.reduceAdd, Int.reduceNeg, Int.reduceSub, Int.reduceMul, Int.reduceLT, Int.reduceLE, Int.reduceEq, ↓GH.gp_eq, ↓GH.gp_ne, ↓GH.gs_eq, ↓GH.gs_ne, GH.push_next, GH.set_next, he, ci', hp1, hp2]
        intro hx0
        exact ⟨hlo, i, rfl, ⟨fun _ => List.mem_of_getElem? hOi, fun _ => by omega⟩⟩
      · simp +decide (disch := first | assumption | exact cellV_int _ _ | exact cellV_bool _ | omega | (simp only [GH.pn, GH.sn] <;> omega) | (with_reducible ((repeat (first | apply GH.ok_push | apply GH.ok_set)); assumption)) | ((try simp only [GH.push_hid, GH.set_hid]); first | assumption | (refine GH.vis ?_ ?_ <;> first | assumption | ((try simp only [GH.pn, GH.sn]) <;> omega)))) only [go_sem, ↓reduceIte, Nat.reduceEqDiff, Nat.reduceAdd, Int.reduceToNat, Int.reduceAdd, Int.reduceNeg, Int.reduceSub, Int.reduceMul, Int.reduceLT, Int.reduceLE, Int.reduceEq, ↓GH.gp_eq, ↓GH.gp_ne, ↓GH.gs_eq, ↓GH.gs_ne, GH.push_next, GH.set_next, he, ci', hp1, hp2, c]
        refine ih (m - 1) _ _ _ (by omega) ⟨rfl, hlo, i + 1, by omega, (by simp +decide (disch := first | assumption | (apply GH.ok_push; assumption) | exact cellV_int _ _ | exact cellV_bool _ | omega) only [go_sem, ↓reduceIte, Nat.reduceEqDiff, Nat.reduceAdd, Int.reduceToNat, he]; first | done | exact rfl), ?_⟩
        rw [take_snoc' O i _ hOi, List.mem_append]
        rintro (h | h)
        · exact hp h
        · exact c (List.mem_singleton.1 h)
    · have ci' : ¬ (i : Int) < O.length := by omega
      simp +decide (disch := first | assumption | exact cellV_int _ _ | exact cellV_bool _ | omega | (simp only [GH.pn, GH.sn] <;> omega) | (with_reducible ((repeat (first | apply GH.ok_push | apply GH.ok_set)); assumption)) | ((try simp only [GH.push_hid, GH.set_hid]); first | assumption | (refine GH.vis ?_ ?_ <;> first | assumption | ((try simp only [GH.pn, GH.sn]) <;> omega)))) only [go_sem, ↓reduceIte, Nat.reduceEqDiff, Nat.reduceAdd, Int.reduceToNat, Int.reduceAdd, Int.reduceNeg, Int.reduceSub, Int.reduceMul, Int.reduceLT, Int.reduceLE, Int.reduceEq, ↓GH.gp_eq, ↓GH.gp_ne, ↓GH.gs_eq, ↓GH.gs_ne, GH.push_next, GH.set_next, he, ci']
      rw [List.take_of_length_le (by omega)] at hp
      exact out _ _ _ ⟨hlo, hp⟩
theorem contains_rets {X : Caller} (hX : Xok X) (O : List Int) (x : Int) (hO : O.length < 1000000) (s : Value) (g : GH) (hs : SlR g s (ints O)) :
    Rets Tryd.prog X 85 [s, .int .i64 x] g (fun v g' lo => g.next ≤ lo ∧ v = .bool (decide (x ∈ O))) := by
  refine Rets.run hX.pres p85 (hX.free 85 (by decide) _ _) rfl fun ho => ?_
  simp +decide (disch := first | assumption | exact cellV_int _ _ | exact cellV_bool _ | omega | (simp only [GH.pn, GH.sn] <;> omega) | (with_reducible ((repeat (first | apply GH.ok_push | apply GH.ok_set)); assumption)) | ((try simp only [GH.push_hid, GH.set_hid]); first | assumption | (refine GH.vis ?_ ?_ <;> first | assumption | ((try simp only [GH.pn, GH.sn]) <;> omega)))) only [go_sem, ↓reduceIte, Nat.reduceEqDiff, Nat.reduceAdd, Int.reduceToNat, Int.reduceAdd, Int.reduceNeg, Int.reduceSub, Int.reduceMul, Int.reduceLT, Int.reduceLE, Int.reduceEq, ↓GH.gp_eq, ↓GH.gp_ne, ↓GH.gs_eq, ↓GH.gs_ne, GH.push_next, GH.set_next]
  refine CallD.calm (index_rets hX O x hO s g hs) ?_
  rintro v g1 hx1 ⟨k, rfl, hk⟩
  have hn1 := hx1.next
  by_cases c : 0 ≤ k
  · simp +decide (disch := first | assumption | exact cellV_int _ _ | exact cellV_bool _ | omega | (simp only [GH.pn, GH.sn] <;> omega) | (with_reducible ((repeat (first | apply GH.ok_push | apply GH.ok_set)); assumption)) | ((try simp only [GH.push_hid, GH.set_hid]); first | assumption | (refine GH.vis ?_ ?_ <;> first | assumption | ((try simp only [GH.pn, GH.sn]) <;> omega)))) only [go_sem, ↓reduceIte, Nat.reduceEqDiff, Nat.reduceAdd, Int.reduceToNat, Int.reduceAdd, Int.reduceNeg, Int.reduceSub, Int.reduceMul, Int.reduceLT, Int.reduceLE, Int.reduceEq, ↓GH.gp_eq, ↓GH.gp_ne, ↓GH.gs_eq, ↓GH.gs_ne, GH.push_next, GH.set_next, c]
    intro hx0
    exact ⟨by omega, by rw [decide_eq_true (hk.1 c)]⟩
  · simp +decide (disch := first | assumption | exact cellV_int _ _ | exact cellV_bool _ | omega | (simp only [GH.pn, GH.sn] <;> omega) | (with_reducible ((repeat (first | apply GH.ok_push | apply GH.ok_set)); assumption)) | ((try simp only [GH.push_hid, GH.set_hid]); first | assumption | (refine GH.vis ?_ ?_ <;> first | assumption | ((try simp only [GH.pn, GH.sn]) <;> omega)))) only [go_sem, ↓reduceIte, Nat.reduceEqDiff, Nat.reduceAdd, Int.reduceToNat, Int.reduceAdd, Int.reduceNeg, Int.reduceSub, Int.reduceMul, Int.reduceLT, Int.reduceLE, Int.reduceEq, ↓GH.gp_eq, ↓GH.gp_ne, ↓GH.gs_eq, ↓GH.gs_ne, GH.push_next, GH.set_next, c]
    intro hx0
    exact ⟨by omega, by rw [decide_eq_false fun h => c (hk.2 h)]⟩
def ordB (n : Nat) (O : List Int) : Bool := decide (O.length = n) && (List.range n).all fun k => decide ((k : Int) ∈ O)
theorem isOrder_rets {X : Caller} (hX : Xok X) (O : List Int) (n : Nat) (hn : n ≤ 3) (hO : O.length < 1000000) (s : Value) (g : GH) (hs : SlR g s (ints O)) :
    Rets Tryd.prog X 73 [s, .int .i64 (n : Int)] g (fun v g' lo => g.next ≤ lo ∧ v = .bool (ordB n O)) := by
  have hl := hs.len
  rw [ints_len] at hl
  refine Rets.run hX.pres p73 (hX.free 73 (by decide) _ _) rfl fun ho => ?_
  by_cases q : (O.length : Int) = n
  case neg =>
    simp +decide (disch := first | assumption | exact cellV_int _ _ | exact cellV_bool _ | omega | (simp only [GH.pn, GH.sn] <;> omega) | (with_reducible ((repeat (first | apply GH.ok_push | apply GH.ok_set)); assumption)) | ((try simp only [GH.push_hid, GH.set_hid]); first | assumption | (refine GH.vis ?_ ?_ <;> first | assumption | ((try simp only [GH.pn, GH.sn]) <;> omega)))) only [go_sem, ↓reduceIte, Nat.reduceEqDiff, Nat.reduceAdd, Int.reduceToNat, Int.reduceAdd, Int.reduceNeg, Int.reduceSub, Int.reduceMul, Int.reduceLT, Int.reduceLE, Int.reduceEq, ↓GH.gp_eq, ↓GH.gp_ne, ↓GH.gs_eq, ↓GH.gs_ne, GH.push_next, GH.set_next, hl, q]
    intro hx0
    exact ⟨Nat.le_refl _, by unfold ordB; rw [decide_eq_false (by omega)]; rfl⟩
  simp +decide (disch := first | assumption | exact cellV_int _ _ | exact cellV_bool _ | omega | (simp only [GH.pn, GH.sn] <;> omega) | (with_reducible ((repeat (first | apply GH.ok_push | apply GH.ok_set)); assumption)) | ((try simp only [GH.push_hid, GH.set_hid]); first | assumption | (refine GH.vis ?_ ?_ <;> first | assumption | ((try simp only [GH.pn, GH.sn]) <;> omega)))) only [go_sem, ↓reduceIte, Nat.reduceEqDiff, Nat.reduceAdd, Int.reduceToNat, Int.reduceAdd, Int.reduceNeg, Int.reduceSub, Int.reduceMul, Int.reduceLT, Int.reduceLE, Int.reduceEq, ↓GH.gp_eq, ↓GH.gp_ne, ↓GH.gs_eq, ↓GH.gs_ne, GH.push_next, GH.set_next, hl, q]
  refine Wk.loops (fun m e g' lo => g.next ≤ lo ∧ Kept g g' ∧ ∃ i : Nat, i + m = n ∧ (ev e (.s 0) = s ∧ ev e (.s 10) = .int .i64 n ∧ ev e (.s 11) = .int .i64 i) ∧ ((List.range i).all fun k => decide ((k : Int) ∈ O)) = true)
    (fun e g' lo => g.next ≤ lo ∧ ordB n O = true) (n := n) ?_ ?_ ?_
  · exact ⟨Nat.le_refl _, Kept.refl _, 0, by omega, (by simp +decide (disch := first | assumption | (apply GH.ok_push; assumption) | exact cellV_int _ _ | exact cellV_bool _ | omega) only [go_sem, ↓reduceIte, Nat.reduceEqDiff, Nat.reduceAdd, Int.reduceToNat]; first | done | exact rfl), rfl⟩
  · rintro e g' lo - - ⟨hlo, h⟩
    simp +decide (disch := first | assumption | exact cellV_int _ _ | exact cellV_bool _ | omega | (simp only [GH.pn, GH.sn] <;> omega) | (with_reducible ((repeat (first | apply GH.ok_push | apply GH.ok_set)); assumption)) | ((try simp only [GH.push_hid, GH.set_hid]); first | assumption | (refine GH.vis ?_ ?_ <;> first | assumption | ((try simp only [GH.pn, GH.sn]) <;> omega)))) only [go_sem, ↓reduceIte, Nat.reduceEqDiff, Nat.reduceAdd, Int.reduceToNat, Int.reduceAdd, Int.reduceNeg, Int.reduceSub, Int.reduceMul, Int.reduceLT, Int.reduceLE, Int.reduceEq, ↓GH.gp_eq, ↓GH.gp_ne, ↓GH.gs_eq, ↓GH.gs_ne, GH.push_next, GH.set_next]
    intro hx0
    exact ⟨hlo, by rw [h]⟩
  · rintro m e g' lo ho' hl' ih out ⟨hlo, hk, i, hi, he, hp⟩
    have hkn := hk.next
    by_cases ci : i < n
    · have ci' : (i : Int) < n := by omega
      simp +decide (disch := first | assumption | exact cellV_int _ _ | exact cellV_bool _ | omega | (simp only [GH.pn, GH.sn] <;> omega) | (with_reducible ((repeat (first | apply GH.ok_push | apply GH.ok_set)); assumption)) | ((try simp only [GH.push_hid, GH.set_hid]); first | assumption | (refine GH.vis ?_ ?_ <;> first | assumption | ((try simp only [GH.pn, GH.sn]) <;> omega)))) only [go_sem, ↓reduceIte, Nat.reduceEqDiff, Nat.reduceAdd, Int.reduceToNat, Int.reduceAdd, Int.reduceNeg, Int.reduceSub, Int.reduceMul, Int.reduceLT, Int.reduceLE, Int.reduceEq, ↓GH.gp_eq, ↓GH.gp_ne, ↓GH.gs_eq, ↓GH.gs_ne, GH.push_next, GH.set_next, he, ci']
      refine CallD.calm (contains_rets hX O i hO s g' (hs.kept hk)) ?_
      rintro v g1 hx1 rfl
      have hn1 := hx1.next
      have hs' : ((List.range (i + 1)).all fun k => decide ((k : Int) ∈ O)) = decide ((i : Int) ∈ O) := by
        rw [List.range_succ, List.all_append, hp]; simp
      cases c : decide ((i : Int) ∈ O) with
      | true =>
        simp +decide (disch := first | assumption | exact cellV_int _ _ | exact cellV_bool _ | omega | (simp only [GH.pn, GH.sn] <;> omega) | (with_reducible ((repeat (first | apply GH.ok_push | apply GH.ok_set)); assumption)) | ((try simp only [GH.push_hid, GH.set_hid]); first | assumption | (refine GH.vis ?_ ?_ <;> first | assumption | ((try simp only [GH.pn, GH.sn]) <;> omega)))) only [go_sem, ↓reduceIte, Nat.reduceEqDiff, Nat.reduceAdd, Int.reduceToNat, Int.reduceAdd, Int.reduceNeg, Int.reduceSub, Int.reduceMul, Int.reduceLT, Int.reduceLE, Int.reduceEq, ↓GH.gp_eq, ↓GH.gp_ne, ↓GH.gs_eq, ↓GH.gs_ne, GH.push_next, GH.set_next, he]
        exact ih (m - 1) _ _ _ (by omega) ⟨hlo, hk.ext hx1, i + 1, by omega, (by simp +decide (disch := first | assumption | (apply GH.ok_push; assumption) | exact cellV_int _ _ | exact cellV_bool _ | omega) only [go_sem, ↓reduceIte, Nat.reduceEqDiff, Nat.reduceAdd, Int.reduceToNat, he]; first | done | exact rfl), hs'.trans c⟩
      | false =>
        simp +decide (disch := first | assumption | exact cellV_int _ _ | exact cellV_bool _ | omega | (simp only [GH.pn, GH.sn] <;> omega) | (with_reducible ((repeat (first | apply GH.ok_push | apply GH.ok_set)); assumption)) | ((try simp only [GH.push_hid, GH.set_hid]); first | assumption | (refine GH.vis ?_ ?_ <;> first | assumption | ((try simp only [GH.pn, GH.sn]) <;> omega)))) only [go_sem, ↓reduceIte, Nat.reduceEqDiff, Nat.reduceAdd, Int.reduceToNat, Int.reduceAdd, Int.reduceNeg, Int.reduceSub, Int.reduceMul, Int.reduceLT, Int.reduceLE, Int.reduceEq, ↓GH.gp_eq, ↓GH.gp_ne, ↓GH.gs_eq, ↓GH.gs_ne, GH.push_next, GH.set_next, he]
        intro hx0
        refine ⟨hlo, ?_⟩
        have hbad : ((List.range n).all fun k => decide ((k : Int) ∈ O)) = false := all_bad (x := i) (i := i) (by rw [List.getElem?_range ci]) c
        unfold ordB
        rw [hbad, Bool.and_false]
    · have ci' : ¬ (i : Int) < n := by omega
      simp +decide (disch := first | assumption | exact cellV_int _ _ | exact cellV_bool _ | omega | (simp only [GH.pn, GH.sn] <;> omega) | (with_reducible ((repeat (first | apply GH.ok_push | apply GH.ok_set)); assumption)) | ((try simp only [GH.push_hid, GH.set_hid]); first | assumption | (refine GH.vis ?_ ?_ <;> first | assumption | ((try simp only [GH.pn, GH.sn]) <;> omega)))) only [go_sem, ↓reduceIte, Nat.reduceEqDiff, Nat.reduceAdd, Int.reduceToNat, Int.reduceAdd, Int.reduceNeg, Int.reduceSub, Int.reduceMul, Int.reduceLT, Int.reduceLE, Int.reduceEq, ↓GH.gp_eq, ↓GH.gp_ne, ↓GH.gs_eq, ↓GH.gs_ne, GH.push_next, GH.set_next, he, ci']
      have : i = n := by omega
      subst this
      exact out _ _ _ ⟨hlo, by unfold ordB; rw [hp, decide_eq_true (by omega)]; rfl⟩
def scanO (n : Nat) : List Int → Nat → Bool
  | [], _ => true
  | x :: xs, b => if x < 0 ∨ (n : Int) ≤ x ∨ b / 2 ^ x.toNat % 2 = 1 then false else scanO n xs (b + 2 ^ x.toNat)
theorem scan_out {n b : Nat} {x : Int} {xs : List Int} (h : x < 0 ∨ (n : Int) ≤ x) : scanO n (x :: xs) b = false := by
  unfold scanO
  rw [if_pos (by rcases h with h | h <;> simp [h])]
theorem scan_ord {n : Nat} (h1 : 1 ≤ n) (h3 : n ≤ 3) (O : List Int) : (scanO n O 0 && decide (O.length = n)) = ordB n O := by
  unfold ordB
  by_cases hl : O.length = n
  case neg => rw [decide_eq_false hl]; simp
  have dom : ∀ x : Int, x = 0 ∨ x = 1 ∨ x = 2 ∨ (x < 0 ∨ 3 ≤ x) := fun x => by omega
  obtain rfl | rfl | rfl : n = 1 ∨ n = 2 ∨ n = 3 := by omega
  · obtain ⟨x, rfl⟩ : ∃ x, O = [x] := by
      match O, hl with
      | [x], _ => exact ⟨x, rfl⟩
    rcases dom x with rfl | rfl | rfl | h
    · decide
    · decide
    · decide
    · rw [scan_out (by omega)]
      have : x ≠ 0 := by omega
      simp [List.range_succ, this.symm]
  · obtain ⟨x, y, rfl⟩ : ∃ x y, O = [x, y] := by
      match O, hl with
      | [x, y], _ => exact ⟨x, y, rfl⟩
    rcases dom x with rfl | rfl | rfl | h <;> rcases dom y with rfl | rfl | rfl | h2
    all_goals first | decide | skip
    all_goals simp (disch := omega) [scanO, List.range_succ, if_pos, if_neg]
    all_goals omega
  · obtain ⟨x, y, z, rfl⟩ : ∃ x y z, O = [x, y, z] := by
      match O, hl with
      | [x, y, z], _ => exact ⟨x, y, z, rfl⟩
    rcases dom x with rfl | rfl | rfl | h <;> rcases dom y with rfl | rfl | rfl | h2 <;> rcases dom z with rfl | rfl | rfl | h3
    all_goals first | decide | skip
    all_goals simp (disch := omega) [scanO, List.range_succ, if_pos, if_neg]
    all_goals omega
theorem refIsOrder_rets {X : Caller} (hX : Xok X) (O : List Int) (n : Nat) (h1 : 1 ≤ n) (hn : n ≤ 3) (hO : O.length < 1000000) (s : Value) (g : GH) (hs : SlR g s (ints O)) :
    Rets Tryd.prog X 45 [.int .i64 (n : Int), s] g (fun v g' lo => g.next ≤ lo ∧ v = .bool (ordB n O)) := by
  rw [← scan_ord h1 hn]
  have hl := hs.len
  rw [ints_len] at hl
  refine Rets.run hX.pres p45 (hX.free 45 (by decide) _ _) rfl fun ho => ?_
  simp +decide (disch := first | assumption | exact cellV_int _ _ | exact cellV_bool _ | omega | (simp only [GH.pn, GH.sn] <;> omega) | (with_reducible ((repeat (first | apply GH.ok_push | apply GH.ok_set)); assumption)) | ((try simp only [GH.push_hid, GH.set_hid]); first | assumption | (refine GH.vis ?_ ?_ <;> first | assumption | ((try simp only [GH.pn, GH.sn]) <;> omega)))) only [go_sem, ↓reduceIte, Nat.reduceEqDiff, Nat.reduceAdd, Int.reduceToNat, Int.reduceAdd, Int.reduceNeg, Int.reduceSub, Int.reduceMul, Int.reduceLT, Int.reduceLE, Int.reduceEq, ↓GH.gp_eq, ↓GH.gp_ne, ↓GH.gs_eq, ↓GH.gs_ne, GH.push_next, GH.set_next, hl]
  refine Wk.loops (fun m e g' lo => g' = g ∧ g.next ≤ lo ∧ ∃ (i b : Nat), i + m = O.length ∧ (ev e (.s 0) = .int .i64 n ∧ ev e (.s 1) = s ∧ ev e (.s 5) = .int .i64 b ∧ ev e (.s 6) = .int .i64 i) ∧ b < 8 ∧ scanO n O 0 = scanO n (O.drop i) b)
    (fun e g' lo => g.next ≤ lo ∧ (ev e (.s 0) = .int .i64 n ∧ ev e (.s 1) = s) ∧ scanO n O 0 = true) (n := O.length) ?_ ?_ ?_
  · exact ⟨rfl, Nat.le_refl _, 0, 0, by omega, (by simp +decide (disch := first | assumption | (apply GH.ok_push; assumption) | exact cellV_int _ _ | exact cellV_bool _ | omega) only [go_sem, ↓reduceIte, Nat.reduceEqDiff, Nat.reduceAdd, Int.reduceToNat]; first | done | exact rfl), by omega, rfl⟩
  · rintro e g' lo - - ⟨hlo, he, h⟩
    rw [h]
    by_cases q : (O.length : Int) = n
    · simp +decide (disch := first | assumption | exact cellV_int _ _ | exact cellV_bool _ | omega | (simp only [GH.pn, GH.sn] <;> omega) | (with_reducible ((repeat (first | apply GH.ok_push | apply GH.ok_set)); assumption)) | ((try simp only [GH.push_hid, GH.set_hid]); first | assumption | (refine GH.vis ?_ ?_ <;> first | assumption | ((try simp only [GH.pn, GH.sn]) <;> omega)))) only [go_sem, ↓reduceIte, Nat.reduceEqDiff, Nat.reduceAdd, Int.reduceToNat, Int.reduceAdd, Int.reduceNeg, Int.reduceSub, Int.reduceMul, Int.reduceLT, Int.reduceLE, Int.reduceEq, ↓GH.gp_eq, ↓GH.gp_ne, ↓GH.gs_eq, ↓GH.gs_ne, GH.push_next, GH.set_next, he, hl, q]
      intro hx0
      exact ⟨hlo, by first | rfl | (rw [decide_eq_true (by omega)]; rfl)⟩
    · simp +decide (disch := first | assumption | exact cellV_int _ _ | exact cellV_bool _ | omega | (simp only [GH.pn, GH.sn] <;> omega) | (with_reducible ((repeat (first | apply GH.ok_push | apply GH.ok_set)); assumption)) | ((try simp only [GH.push_hid, GH.set_hid]); first | assumption | (refine GH.vis ?_ ?_ <;> first | assumption | ((try simp only [GH.pn, GH.sn]) <;> omega)))) only [go_sem, ↓reduceIte, Nat.reduceEqDiff, Nat.reduceAdd, Int.reduceToNat, Int.reduceAdd, Int.reduceNeg, Int.reduceSub, Int.reduceMul, Int.reduceLT, Int.reduceLE, Int.reduceEq, ↓GH.gp_eq, ↓GH.gp_ne, ↓GH.gs_eq, ↓GH.gs_ne, GH.push_next, GH.set_next, he, hl, q]
      intro hx0
      exact ⟨hlo, by first | rfl | (rw [decide_eq_false (by omega)]; rfl)⟩
  · rintro m e g' lo ho' hl' ih out ⟨rfl, hlo, i, b, hi, he, hb, hp⟩
    by_cases ci : i < O.length
    · have ci' : (i : Int) < O.length := by omega
      obtain ⟨j1, o1, hj1, hp1, hp2⟩ := hs.ptr (ints_get (D := O) (i := i) ci)
      have hp1 := hp1 (i : Int) rfl
      have hd : O.drop i = O.getD i 0 :: O.drop (i + 1) := by
        rw [List.drop_eq_getElem_cons ci, List.getD_eq_getElem?_getD, List.getElem?_eq_getElem ci]; rfl
      obtain ⟨x, hx⟩ : ∃ x, O.getD i 0 = x := ⟨_, rfl⟩
      rw [hx] at hd hp2
      rw [hd] at hp
      by_cases c1 : x < 0
      · rw [scan_out (.inl c1)] at hp
        rw [hp]
        simp +decide (disch := first | assumption | exact cellV_int _ _ | exact cellV_bool _ | omega | (simp only [GH.pn, GH.sn] <;> omega) | (with_reducible ((repeat (first | apply GH.ok_push | apply GH.ok_set)); assumption)) | ((try simp only [GH.push_hid, GH.set_hid]); first | assumption | (refine GH.vis ?_ ?_ <;> first | assumption | ((try simp only [GH.pn, GH.sn]) <;> omega)))) only [go_sem, ↓reduceIte, Nat.reduceEqDiff, Nat.reduceAdd, Int.reduceToNat, Int.reduceAdd, Int.reduceNeg, Int.reduceSub, Int.reduceMul, Int.reduceLT, Int.reduceLE, Int.reduceEq, ↓GH.gp_eq, ↓GH.gp_ne, ↓GH.gs_eq, ↓GH.gs_ne, GH.push_next, GH.set_next, he, hl, ci', hp1, hp2, c1]
        intro hx0
        exact ⟨hlo, rfl⟩
      · by_cases c2 : (n : Int) ≤ x
        · rw [scan_out (.inr c2)] at hp
          rw [hp]
          simp +decide (disch := first | assumption | exact cellV_int _ _ | exact cellV_bool _ | omega | (simp only [GH.pn, GH.sn] <;> omega) | (with_reducible ((repeat (first | apply GH.ok_push | apply GH.ok_set)); assumption)) | ((try simp only [GH.push_hid, GH.set_hid]); first | assumption | (refine GH.vis ?_ ?_ <;> first | assumption | ((try simp only [GH.pn, GH.sn]) <;> omega)))) only [go_sem, ↓reduceIte, Nat.reduceEqDiff, Nat.reduceAdd, Int.reduceToNat, Int.reduceAdd, Int.reduceNeg, Int.reduceSub, Int.reduceMul, Int.reduceLT, Int.reduceLE, Int.reduceEq, ↓GH.gp_eq, ↓GH.gp_ne, ↓GH.gs_eq, ↓GH.gs_ne, GH.push_next, GH.set_next, he, hl, ci', hp1, hp2, c1, c2]
          intro hx0
          exact ⟨hlo, rfl⟩
        · obtain ⟨k, rfl⟩ : ∃ k : Nat, x = k := ⟨x.toNat, by omega⟩
          have hsr := shr_rem b k (by omega)
          have hsh := shl_fact k (by omega)
          rw [scanO, Int.toNat_natCast] at hp
          by_cases c3 : b / 2 ^ k % 2 = 1
          · have c3' : ((b / 2 ^ k % 2 : Nat) : Int) = 1 := by omega
            rw [if_pos (.inr (.inr c3))] at hp
            rw [hp]
            simp +decide (disch := first | assumption | exact cellV_int _ _ | exact cellV_bool _ | omega | (simp only [GH.pn, GH.sn] <;> omega) | (with_reducible ((repeat (first | apply GH.ok_push | apply GH.ok_set)); assumption)) | ((try simp only [GH.push_hid, GH.set_hid]); first | assumption | (refine GH.vis ?_ ?_ <;> first | assumption | ((try simp only [GH.pn, GH.sn]) <;> omega)))) only [go_sem, ↓reduceIte, Nat.reduceEqDiff, Nat.reduceAdd, Int.reduceToNat, Int.reduceAdd, Int.reduceNeg, Int.reduceSub, Int.reduceMul, Int.reduceLT, Int.reduceLE, Int.reduceEq, ↓GH.gp_eq, ↓GH.gp_ne, ↓GH.gs_eq, ↓GH.gs_ne, GH.push_next, GH.set_next, he, hl, ci', hp1, hp2, c1, c2, hsr, c3']
            intro hx0
            exact ⟨hlo, rfl⟩
          · have c3' : ¬ ((b / 2 ^ k % 2 : Nat) : Int) = 1 := by omega
            rw [if_neg (by rintro (h | h | h) <;> first | omega | exact c3 h)] at hp
            have hk2 : 2 ^ k ≤ 4 ∧ b + 2 ^ k < 8 := by
              obtain rfl | rfl | rfl : k = 0 ∨ k = 1 ∨ k = 2 := by omega
              all_goals (simp at c3 ⊢; omega)
            have hw0 : 1 ≤ 2 ^ k := Nat.one_le_two_pow
            obtain ⟨w, hw⟩ : ∃ w, 2 ^ k = w := ⟨_, rfl⟩
            rw [hw] at hsr hsh c3' hk2 hp hw0
            simp +decide (disch := first | assumption | exact cellV_int _ _ | exact cellV_bool _ | omega | (simp only [GH.pn, GH.sn] <;> omega) | (with_reducible ((repeat (first | apply GH.ok_push | apply GH.ok_set)); assumption)) | ((try simp only [GH.push_hid, GH.set_hid]); first | assumption | (refine GH.vis ?_ ?_ <;> first | assumption | ((try simp only [GH.pn, GH.sn]) <;> omega)))) only [go_sem, ↓reduceIte, Nat.reduceEqDiff, Nat.reduceAdd, Int.reduceToNat, Int.reduceAdd, Int.reduceNeg, Int.reduceSub, Int.reduceMul, Int.reduceLT, Int.reduceLE, Int.reduceEq, ↓GH.gp_eq, ↓GH.gp_ne, ↓GH.gs_eq, ↓GH.gs_ne, GH.push_next, GH.set_next, he, hl, ci', hp1, hp2, c1, c2, hsr, c3', hsh]
            refine ih (m - 1) _ _ _ (by omega) ⟨rfl, hlo, i + 1, b + w, by omega, ?_, hk2.2, hp⟩
            rw [Int.natCast_add b w]
            exact (by simp +decide (disch := first | assumption | (apply GH.ok_push; assumption) | exact cellV_int _ _ | exact cellV_bool _ | omega) only [go_sem, ↓reduceIte, Nat.reduceEqDiff, Nat.reduceAdd, Int.reduceToNat, he]; first | done | exact rfl)
    · have ci' : ¬ (i : Int) < O.length := by omega
      simp +decide (disch := first | assumption | exact cellV_int _ _ | exact cellV_bool _ | omega | (simp only [GH.pn, GH.sn] <;> omega) | (with_reducible ((repeat (first | apply GH.ok_push | apply GH.ok_set)); assumption)) | ((try simp only [GH.push_hid, GH.set_hid]); first | assumption | (refine GH.vis ?_ ?_ <;> first | assumption | ((try simp only [GH.pn, GH.sn]) <;> omega)))) only [go_sem, ↓reduceIte, Nat.reduceEqDiff, Nat.reduceAdd, Int.reduceToNat, Int.reduceAdd, Int.reduceNeg, Int.reduceSub, Int.reduceMul, Int.reduceLT, Int.reduceLE, Int.reduceEq, ↓GH.gp_eq, ↓GH.gp_ne, ↓GH.gs_eq, ↓GH.gs_ne, GH.push_next, GH.set_next, he, hl, ci']
      rw [List.drop_of_length_le (by omega)] at hp
      exact out _ _ _ ⟨hlo, (by simp +decide (disch := first | assumption | (apply GH.ok_push; assumption) | exact cellV_int _ _ | exact cellV_bool _ | omega) only [go_sem, ↓reduceIte, Nat.reduceEqDiff, Nat.reduceAdd, Int.reduceToNat, he]; first | done | exact rfl), hp⟩
end Go.Proofs.YtngmaccaldhjcaaDoor
set_option maxRecDepth 100000
set_option maxHeartbeats 4000000
set_option linter.unusedSimpArgs false
set_option linter.unusedVariables false
set_option linter.unusedSectionVars false
namespace Go.Ds
section
variable {P : Program} {X : Caller} {Q : Out → Env → GH → Nat → Prop} {dd : Option P3} {l : List PI} {k : Nat} {sp : List (Nat × (Nat × Nat))} {wr : List Nat} {ks : List Fr} {e : Env} {g : GH} {lo : Nat}
/-- Appending to a full slice: to new memory that may be written to. -/
theorem AppD.fullM {t t' : TypeId} {b j : Nat} {xv : Value} {vs new cells : List Value} {base : Nat} (hj : g.get j = cellsOb cells t') (hcs : cells.take vs.length = vs) (hlc : vs.length ≤ cells.length) (hnew : SlR g xv new) (hne : new ≠ [])
    (hsz : (vs.length + new.length) * (b + 1) ≤ 1073741824) (hb : base ≤ g.next) (ho : g.ok)
    (h : ∀ s' g' sp wr, GrewM g g' s' (vs ++ new) t base → Kept g g' → Wk P X Q (.R l (k + 1) sp wr ks (putE e dd s') g' lo)) : AppD P X Q t 1 b (.slice (some ⟨j, 0, Option.none⟩) vs.length vs.length) xv [] dd l k sp wr ks e g lo := fun y z hy hz => by
  have hlen : lenF xv = some new.length := by
    rcases hnew with ⟨rfl, rfl⟩ | ⟨j, off, cap, ob, rfl, _⟩ <;> rfl
  have hstr : strOk 1 xv = true := by
    rcases hnew with ⟨rfl, rfl⟩ | ⟨j, off, cap, ob, rfl, _⟩ <;> rfl
  have hfirst : ∀ lo, firstF (g.at lo) 1 new.length xv = some new := by
    intro lo
    rcases hnew with ⟨rfl, rfl⟩ | ⟨j, off, cap, ob, rfl, h2, h3, h4, h5, h6⟩
    · exact absurd rfl hne
    · simp only [firstF, Nat.mul_one]
      have := SlR.readN (cap := cap) (lo := lo) h3 h4 h5 h6 (i := 0) (n := new.length) (by omega)
      rw [Nat.add_zero, List.drop_zero, List.take_length] at this
      exact this
  have hpos : 0 < new.length := List.length_pos_iff.2 hne
  have hz0 : Nat.beq new.length 0 = false := by rw [beq_d, decide_eq_false_iff_not]; omega
  have hbig : vs.length < OPEN := by
    have : vs.length + new.length ≤ 1073741824 := Nat.le_trans (Nat.le_mul_of_pos_right _ (Nat.succ_pos b)) hsz
    unfold OPEN; omega
  let G : GH := ⟨T5.set g.tr g.next (slackOb (vs ++ new) t g.next), Nat.succ g.next, g.hid, T5.set g.fams g.next [(g.next, (vs ++ new).length)]⟩
  refine GR.more (v := .slice (some ⟨g.next, 0, Option.none⟩) (vs.length + new.length) (OPEN + 1)) (g' := G) rfl (Hp.mk (bnd (g.next + 1)) fun call => ?_) rfl (Nat.le_succ _) (h _ G _ _ ?_ ?_).R
  · simp only [runH, hy, hz, hstr, cond_true, appF, hlen]
    rw [mul_succ_le hsz, hz0, hfirst]
    simp only [cond_false]
    rw [show (g.at g.next).get j = cellsOb cells t' from hj]
    unfold cellsOb
    simp only [Nat.mul_one]
    rw [show Nat.beq vs.length (OPEN + 1) = false by rw [beq_d, decide_eq_false_iff_not]; omega, show Nat.blt vs.length OPEN = true by rw [blt_d]; simpa using hbig, show Nat.ble (vs.length + new.length) vs.length = false by rw [ble_d, decide_eq_false_iff_not]; omega]
    simp only [cond_false, Bool.not_true]
    rw [show dropN 0 cells = cells from rfl, takeN_len hlc, hcs]
    simp only [appNew]
    have : Nat.blt (g.at g.next).next (@LIM (bnd (g.next + 1))) = true := by rw [Nat.blt_eq]; exact Nat.lt_succ_self _
    rw [this]
    simp only [cond_true, lenN_length]
    rfl
  · have hget : ∀ i, G.get i = if g.next = i then slackOb (vs ++ new) t g.next else g.get i := GH.get_push ho (slackOb (vs ++ new) t g.next)
    refine ⟨rfl, rfl, fun i hi => ho i (Nat.le_trans (Nat.le_succ _) hi), fun i hi => by rw [hget, if_neg (by omega)], fun f hf => ?_, .inr ⟨g.next, g.next, by simp, Nat.lt_succ_self _, by rw [hget, if_pos rfl], by simp [hne], hb, Nat.le_refl _, ?_⟩, fun s ws hr => hr.mono (Nat.le_succ _) fun i hi => by rw [hget, if_neg (by omega)]⟩
    · show (T5.set g.fams g.next [(g.next, (vs ++ new).length)]) f = _
      rw [T5.get_set', if_neg (by omega)]
    · show ∀ x ∈ (T5.set g.fams g.next [(g.next, (vs ++ new).length)]) g.next, _
      rw [T5.get_set', if_pos rfl]
      simp
  · have hget : ∀ i, G.get i = if g.next = i then slackOb (vs ++ new) t g.next else g.get i := GH.get_push ho (slackOb (vs ++ new) t g.next)
    refine ⟨Nat.le_succ _, fun i hi => by rw [hget, if_neg (by omega)], fun f hf => ?_⟩
    show (T5.set g.fams g.next [(g.next, (vs ++ new).length)]) f = _
    rw [T5.get_set', if_neg (by omega)]
end
theorem OwnM.but {g g' : GH} {s : Value} {vs : List Value} {t : TypeId} {base : Nat} (h : OwnM g s vs t base) (hn : g.next ≤ g'.next) (hg : ∀ j, j < g.next → base ≤ j → g'.get j = g.get j) (hf : ∀ f, f < g.next → g'.fams f = g.fams f) : OwnM g' s vs t base := by
  rcases h with h | ⟨j, fam, h1, h2, h3, h4, h5, h6, h7⟩
  · exact .inl h
  · exact .inr ⟨j, fam, h1, by omega, by rw [hg j h2 (by omega)]; exact h3, h4, h5, h6, by rw [hf fam (by omega)]; exact h7⟩
end Go.Ds
namespace Go.Proofs.YtngmaccaldhjcaaDoor
open Go.Ds
/-- A slice that does not lie in a block. -/
def AwayB (v : Value) (j : Nat) : Prop := ∀ a l c, v = .slice (some a) l c → a.block ≠ j
theorem OwnM.away {g : GH} {s : Value} {vs : List Value} {t : TypeId} {base j0 : Nat} (h : OwnM g s vs t base) (h0 : j0 < base) : AwayB s j0 := by
  intro a l c hs
  rcases h with ⟨rfl, _⟩ | ⟨j, fam, rfl, h2, h3, h4, h5, h6, _⟩
  · cases hs
  · cases hs
    show j ≠ j0
    omega
theorem clone_rets {X : Caller} (hX : Xok X) (L : List Int) (hL : L ≠ []) (hl : L.length < 1000000) (s : Value) (g : GH) (hs : SlR g s (ints L)) :
    Rets Tryd.prog X 72 [s] g (fun v g' lo => g.next ≤ lo ∧ OwnM g' v (ints L) 3 g.next) := by
  have hne : ints L ≠ [] := by simpa [ints] using hL
  have heq : eqSF false s = some (.bool false) := by
    rcases hs with ⟨_, h⟩ | ⟨j, off, cap, ob, rfl, _⟩
    · exact absurd h hne
    · rfl
  refine Rets.run hX.pres p72 (hX.free 72 (by decide) _ _) rfl fun ho => ?_
  simp +decide (disch := first | assumption | exact cellV_int _ _ | exact cellV_bool _ | omega | (simp only [GH.pn, GH.sn] <;> omega) | (with_reducible ((repeat (first | apply GH.ok_push | apply GH.ok_set)); assumption)) | ((try simp only [GH.push_hid, GH.set_hid]); first | assumption | (refine GH.vis ?_ ?_ <;> first | assumption | ((try simp only [GH.pn, GH.sn]) <;> omega)))) only [go_sem, ↓reduceIte, Nat.reduceEqDiff, Nat.reduceAdd, Int.reduceToNat, Int.reduceAdd, Int.reduceNeg, Int.reduceSub, Int.reduceMul, Int.reduceLT, Int.reduceLE, Int.reduceEq, ↓GH.gp_eq, ↓GH.gp_ne, ↓GH.gs_eq, ↓GH.gs_ne, GH.push_next, GH.set_next, heq]
  refine AppD.fullM (vs := []) (new := ints L) (base := g.next) (j := g.next) (cells := []) (t' := 3) (by rw [GH.gp_eq ho rfl]) rfl (Nat.le_refl _) (hs.kept ((Kept.refl g).push ho _)) hne (by rw [ints_len]; simp; omega) (Nat.le_succ _) (GH.ok_push ho) ?_
  intro v g2 sp wr hgr hk2
  have hn2 := hgr.next
  have hown := hgr.own
  rw [List.nil_append] at hown
  simp +decide (disch := first | assumption | (apply GH.ok_push; assumption) | exact cellV_int _ _ | exact cellV_bool _ | omega) only [go_sem, ↓reduceIte, Nat.reduceEqDiff, Nat.reduceAdd, Int.reduceToNat]
  intro hx0
  exact ⟨Nat.le_refl _, hown⟩
/-- A row that is moved in a column. -/
def shR (c : Nat) (b : Int) (R : List Int) : List Int := R.set c (R.getD c 0 + b)
def shT (T : List (List Int)) (c : Nat) (b : Int) : List (List Int) := T.map (shR c b)
def shOk (T : List (List Int)) (c b : Int) : Bool := tabB T && (decide (0 ≤ c) && (decide (c < T.length) && (decide (-40 ≤ b) && (decide (b ≤ 40) && tabB (shT T c.toNat b)))))
def shS (T : List (List Int)) (c b : Int) : List (List Int) := if shOk T c b = true then shT T c.toNat b else []
def shE (T : List (List Int)) (c b : Int) : Int := if shOk T c b = true then 0 else 2
theorem shT_len (T : List (List Int)) (c : Nat) (b : Int) : (shT T c b).length = T.length := by simp [shT]
theorem shT_get {T : List (List Int)} {c : Nat} {b : Int} {k : Nat} {R : List Int} (h : (shT T c b)[k]? = some R) : ∃ R0, T[k]? = some R0 ∧ R = shR c b R0 := by
  unfold shT at h
  rw [List.getElem?_map] at h
  cases hT : T[k]? with
  | none => rw [hT] at h; cases h
  | some R0 => rw [hT] at h; cases h; exact ⟨R0, rfl, rfl⟩
def ShP (T : List (List Int)) (c b : Int) (v : Value) (g : GH) : Prop := ∃ o, v = .tuple #[o, .int .i64 (shE T c b)] ∧ Sl2 g o (shS T c b)
theorem ShP.bad {T : List (List Int)} {c b : Int} {g : GH} (h : shOk T c b = false) : ShP T c b (.tuple #[.slice none 0 0, .int .i64 2]) g :=
  ⟨_, by unfold shE; rw [h]; rfl, by unfold shS; rw [h]; exact Sl2.nil⟩
theorem ShP.good {T : List (List Int)} {c b : Int} {g : GH} {o : Value} (h : shOk T c b = true) (ho : Sl2 g o (shT T c.toNat b)) : ShP T c b (.tuple #[o, .int .i64 0]) g :=
  ⟨_, by unfold shE; rw [if_pos h], by unfold shS; rw [if_pos h]; exact ho⟩
theorem Shifted_rets {X : Caller} (hX : Xok X) (T : List (List Int)) (hF : Few T) (c b : Int) (t : Value) (g : GH) (ht : Sl2 g t T) :
    Rets Tryd.prog X 36 [t, .int .i64 c, .int .i64 b] g (fun v g' lo => g.next ≤ lo ∧ ShP T c b v g') := by
  have hlt := ht.len
  refine Rets.run hX.pres p36 (hX.free 36 (by decide) _ _) rfl fun ho => ?_
  simp +decide (disch := first | assumption | exact cellV_int _ _ | exact cellV_bool _ | omega | (simp only [GH.pn, GH.sn] <;> omega) | (with_reducible ((repeat (first | apply GH.ok_push | apply GH.ok_set)); assumption)) | ((try simp only [GH.push_hid, GH.set_hid]); first | assumption | (refine GH.vis ?_ ?_ <;> first | assumption | ((try simp only [GH.pn, GH.sn]) <;> omega)))) only [go_sem, ↓reduceIte, Nat.reduceEqDiff, Nat.reduceAdd, Int.reduceToNat, Int.reduceAdd, Int.reduceNeg, Int.reduceSub, Int.reduceMul, Int.reduceLT, Int.reduceLE, Int.reduceEq, ↓GH.gp_eq, ↓GH.gp_ne, ↓GH.gs_eq, ↓GH.gs_ne, GH.push_next, GH.set_next]
  refine CallD.calm (isTable_rets hX T hF.2 t g ht hF.1) ?_
  rintro v g1 hx1 rfl
  have hn1 := hx1.next
  have hok1 := hx1.ok ho
  have hk1 := (Kept.refl g).ext hx1
  cases hT : tabB T with
  | false =>
    simp +decide (disch := first | assumption | exact cellV_int _ _ | exact cellV_bool _ | omega | (simp only [GH.pn, GH.sn] <;> omega) | (with_reducible ((repeat (first | apply GH.ok_push | apply GH.ok_set)); assumption)) | ((try simp only [GH.push_hid, GH.set_hid]); first | assumption | (refine GH.vis ?_ ?_ <;> first | assumption | ((try simp only [GH.pn, GH.sn]) <;> omega)))) only [go_sem, ↓reduceIte, Nat.reduceEqDiff, Nat.reduceAdd, Int.reduceToNat, Int.reduceAdd, Int.reduceNeg, Int.reduceSub, Int.reduceMul, Int.reduceLT, Int.reduceLE, Int.reduceEq, ↓GH.gp_eq, ↓GH.gp_ne, ↓GH.gs_eq, ↓GH.gs_ne, GH.push_next, GH.set_next]
    intro hx0
    exact ⟨by omega, ShP.bad (by unfold shOk; rw [hT]; rfl)⟩
  | true =>
    obtain ⟨t1, t2, t3⟩ := tab_len hT
    by_cases c1 : c < 0
    · simp +decide (disch := first | assumption | exact cellV_int _ _ | exact cellV_bool _ | omega | (simp only [GH.pn, GH.sn] <;> omega) | (with_reducible ((repeat (first | apply GH.ok_push | apply GH.ok_set)); assumption)) | ((try simp only [GH.push_hid, GH.set_hid]); first | assumption | (refine GH.vis ?_ ?_ <;> first | assumption | ((try simp only [GH.pn, GH.sn]) <;> omega)))) only [go_sem, ↓reduceIte, Nat.reduceEqDiff, Nat.reduceAdd, Int.reduceToNat, Int.reduceAdd, Int.reduceNeg, Int.reduceSub, Int.reduceMul, Int.reduceLT, Int.reduceLE, Int.reduceEq, ↓GH.gp_eq, ↓GH.gp_ne, ↓GH.gs_eq, ↓GH.gs_ne, GH.push_next, GH.set_next, c1]
      intro hx0
      exact ⟨by omega, ShP.bad (by unfold shOk; rw [decide_eq_false (show ¬ 0 ≤ c by omega)]; simp)⟩
    by_cases c2 : (T.length : Int) ≤ c
    · simp +decide (disch := first | assumption | exact cellV_int _ _ | exact cellV_bool _ | omega | (simp only [GH.pn, GH.sn] <;> omega) | (with_reducible ((repeat (first | apply GH.ok_push | apply GH.ok_set)); assumption)) | ((try simp only [GH.push_hid, GH.set_hid]); first | assumption | (refine GH.vis ?_ ?_ <;> first | assumption | ((try simp only [GH.pn, GH.sn]) <;> omega)))) only [go_sem, ↓reduceIte, Nat.reduceEqDiff, Nat.reduceAdd, Int.reduceToNat, Int.reduceAdd, Int.reduceNeg, Int.reduceSub, Int.reduceMul, Int.reduceLT, Int.reduceLE, Int.reduceEq, ↓GH.gp_eq, ↓GH.gp_ne, ↓GH.gs_eq, ↓GH.gs_ne, GH.push_next, GH.set_next, c1, c2, hlt]
      intro hx0
      exact ⟨by omega, ShP.bad (by unfold shOk; rw [decide_eq_false (show ¬ c < T.length by omega)]; simp)⟩
    by_cases c3 : b < -40
    · simp +decide (disch := first | assumption | exact cellV_int _ _ | exact cellV_bool _ | omega | (simp only [GH.pn, GH.sn] <;> omega) | (with_reducible ((repeat (first | apply GH.ok_push | apply GH.ok_set)); assumption)) | ((try simp only [GH.push_hid, GH.set_hid]); first | assumption | (refine GH.vis ?_ ?_ <;> first | assumption | ((try simp only [GH.pn, GH.sn]) <;> omega)))) only [go_sem, ↓reduceIte, Nat.reduceEqDiff, Nat.reduceAdd, Int.reduceToNat, Int.reduceAdd, Int.reduceNeg, Int.reduceSub, Int.reduceMul, Int.reduceLT, Int.reduceLE, Int.reduceEq, ↓GH.gp_eq, ↓GH.gp_ne, ↓GH.gs_eq, ↓GH.gs_ne, GH.push_next, GH.set_next, c1, c2, c3, hlt]
      intro hx0
      exact ⟨by omega, ShP.bad (by unfold shOk; rw [decide_eq_false (show ¬ -40 ≤ b by omega)]; simp)⟩
    by_cases c4 : 40 < b
    · simp +decide (disch := first | assumption | exact cellV_int _ _ | exact cellV_bool _ | omega | (simp only [GH.pn, GH.sn] <;> omega) | (with_reducible ((repeat (first | apply GH.ok_push | apply GH.ok_set)); assumption)) | ((try simp only [GH.push_hid, GH.set_hid]); first | assumption | (refine GH.vis ?_ ?_ <;> first | assumption | ((try simp only [GH.pn, GH.sn]) <;> omega)))) only [go_sem, ↓reduceIte, Nat.reduceEqDiff, Nat.reduceAdd, Int.reduceToNat, Int.reduceAdd, Int.reduceNeg, Int.reduceSub, Int.reduceMul, Int.reduceLT, Int.reduceLE, Int.reduceEq, ↓GH.gp_eq, ↓GH.gp_ne, ↓GH.gs_eq, ↓GH.gs_ne, GH.push_next, GH.set_next, c1, c2, c3, c4, hlt]
      intro hx0
      exact ⟨by omega, ShP.bad (by unfold shOk; rw [decide_eq_false (show ¬ b ≤ 40 by omega)]; simp)⟩
    obtain ⟨cn, rfl⟩ : ∃ n : Nat, c = n := ⟨c.toNat, by omega⟩
    have hOk : shOk T cn b = tabB (shT T cn b) := by
      unfold shOk
      rw [hT, decide_eq_true (show (0 : Int) ≤ cn by omega), decide_eq_true (show (cn : Int) < T.length by omega), decide_eq_true (show -40 ≤ b by omega), decide_eq_true (show b ≤ 40 by omega)]
      simp
    simp +decide (disch := first | assumption | exact cellV_int _ _ | exact cellV_bool _ | omega | (simp only [GH.pn, GH.sn] <;> omega) | (with_reducible ((repeat (first | apply GH.ok_push | apply GH.ok_set)); assumption)) | ((try simp only [GH.push_hid, GH.set_hid]); first | assumption | (refine GH.vis ?_ ?_ <;> first | assumption | ((try simp only [GH.pn, GH.sn]) <;> omega)))) only [go_sem, ↓reduceIte, Nat.reduceEqDiff, Nat.reduceAdd, Int.reduceToNat, Int.reduceAdd, Int.reduceNeg, Int.reduceSub, Int.reduceMul, Int.reduceLT, Int.reduceLE, Int.reduceEq, ↓GH.gp_eq, ↓GH.gp_ne, ↓GH.gs_eq, ↓GH.gs_ne, GH.push_next, GH.set_next, c1, c2, c3, c4, hlt]
    refine Wk.mkslice (n := T.length) (c := T.length) (by simp +decide (disch := first | assumption | (apply GH.ok_push; assumption) | exact cellV_int _ _ | exact cellV_bool _ | omega) only [go_sem, ↓reduceIte, Nat.reduceEqDiff, Nat.reduceAdd, Int.reduceToNat, hlt]; first | done | exact rfl) (by simp +decide (disch := first | assumption | (apply GH.ok_push; assumption) | exact cellV_int _ _ | exact cellV_bool _ | omega) only [go_sem, ↓reduceIte, Nat.reduceEqDiff, Nat.reduceAdd, Int.reduceToNat, hlt]; first | done | exact rfl) (Nat.le_refl _) (by omega) ?_
    rw [repeatN_replicate]
    have hJ : (g1.push (cellsOb (List.replicate T.length (.slice none 0 0)) 23)).get g1.next = cellsOb (List.replicate T.length (.slice none 0 0)) 23 := by rw [GH.gp_eq hok1 rfl]
    simp +decide (disch := first | assumption | exact cellV_int _ _ | exact cellV_bool _ | omega | (simp only [GH.pn, GH.sn] <;> omega) | (with_reducible ((repeat (first | apply GH.ok_push | apply GH.ok_set)); assumption)) | ((try simp only [GH.push_hid, GH.set_hid]); first | assumption | (refine GH.vis ?_ ?_ <;> first | assumption | ((try simp only [GH.pn, GH.sn]) <;> omega)))) only [go_sem, ↓reduceIte, Nat.reduceEqDiff, Nat.reduceAdd, Int.reduceToNat, Int.reduceAdd, Int.reduceNeg, Int.reduceSub, Int.reduceMul, Int.reduceLT, Int.reduceLE, Int.reduceEq, ↓GH.gp_eq, ↓GH.gp_ne, ↓GH.gs_eq, ↓GH.gs_ne, GH.push_next, GH.set_next, hlt]
    refine Wk.loops (fun m e g' lo => g.next ≤ lo ∧ Kept g1 g' ∧ g1.next < g'.next ∧ ∃ (i : Nat) (vs : List Value), i + m = T.length ∧ (ev e (.s 1) = .int .i64 cn ∧ ev e (.s 2) = .int .i64 b ∧ ev e (.s 8) = .slice (some ⟨g1.next, 0, none⟩) T.length T.length ∧ ev e (.s 33) = t ∧ ev e (.s 34) = .int .i64 (T.length : Int) ∧ ev e (.s 35) = .int .i64 i) ∧ g'.get g1.next = cellsOb vs 23 ∧ vs.length = T.length ∧ ∀ k v R, k < i → vs[k]? = some v → T[k]? = some R → SlR g' v (ints (shR cn b R)) ∧ AwayB v g1.next)
      (fun e g' lo => g.next ≤ lo ∧ Kept g1 g' ∧ ev e (.s 8) = .slice (some ⟨g1.next, 0, none⟩) T.length T.length ∧ Sl2 g' (.slice (some ⟨g1.next, 0, none⟩) T.length T.length) (shT T cn b)) (n := T.length) ?_ ?_ ?_
    · exact ⟨by omega, (Kept.refl _).push hok1 _, Nat.lt_succ_self _, 0, _, by omega, (by simp +decide (disch := first | assumption | (apply GH.ok_push; assumption) | exact cellV_int _ _ | exact cellV_bool _ | omega) only [go_sem, ↓reduceIte, Nat.reduceEqDiff, Nat.reduceAdd, Int.reduceToNat]; first | done | exact rfl), hJ, by simp, fun k v R h => by omega⟩
    · rintro e g' lo ho' - ⟨hlo, hk, he, hsl⟩
      have hkn := hk.next
      simp +decide (disch := first | assumption | exact cellV_int _ _ | exact cellV_bool _ | omega | (simp only [GH.pn, GH.sn] <;> omega) | (with_reducible ((repeat (first | apply GH.ok_push | apply GH.ok_set)); assumption)) | ((try simp only [GH.push_hid, GH.set_hid]); first | assumption | (refine GH.vis ?_ ?_ <;> first | assumption | ((try simp only [GH.pn, GH.sn]) <;> omega)))) only [go_sem, ↓reduceIte, Nat.reduceEqDiff, Nat.reduceAdd, Int.reduceToNat, Int.reduceAdd, Int.reduceNeg, Int.reduceSub, Int.reduceMul, Int.reduceLT, Int.reduceLE, Int.reduceEq, ↓GH.gp_eq, ↓GH.gp_ne, ↓GH.gs_eq, ↓GH.gs_ne, GH.push_next, GH.set_next, he]
      refine CallD.calm (isTable_rets hX (shT T cn b) (fun R hR => ?_) _ g' hsl (by rw [shT_len]; omega)) ?_
      · obtain ⟨i, hi, rfl⟩ := List.mem_iff_getElem.1 hR
        obtain ⟨R0, h1, h2⟩ := shT_get (List.getElem?_eq_getElem hi)
        rw [h2]
        have := hF.2 R0 (List.mem_of_getElem? h1)
        simpa [shR] using this
      · rintro v g2 hx2 rfl
        have hn2 := hx2.next
        cases hS : tabB (shT T cn b) with
        | false =>
          simp +decide (disch := first | assumption | exact cellV_int _ _ | exact cellV_bool _ | omega | (simp only [GH.pn, GH.sn] <;> omega) | (with_reducible ((repeat (first | apply GH.ok_push | apply GH.ok_set)); assumption)) | ((try simp only [GH.push_hid, GH.set_hid]); first | assumption | (refine GH.vis ?_ ?_ <;> first | assumption | ((try simp only [GH.pn, GH.sn]) <;> omega)))) only [go_sem, ↓reduceIte, Nat.reduceEqDiff, Nat.reduceAdd, Int.reduceToNat, Int.reduceAdd, Int.reduceNeg, Int.reduceSub, Int.reduceMul, Int.reduceLT, Int.reduceLE, Int.reduceEq, ↓GH.gp_eq, ↓GH.gp_ne, ↓GH.gs_eq, ↓GH.gs_ne, GH.push_next, GH.set_next, he]
          intro hx0
          exact ⟨by omega, ShP.bad (by rw [hOk, hS])⟩
        | true =>
          simp +decide (disch := first | assumption | exact cellV_int _ _ | exact cellV_bool _ | omega | (simp only [GH.pn, GH.sn] <;> omega) | (with_reducible ((repeat (first | apply GH.ok_push | apply GH.ok_set)); assumption)) | ((try simp only [GH.push_hid, GH.set_hid]); first | assumption | (refine GH.vis ?_ ?_ <;> first | assumption | ((try simp only [GH.pn, GH.sn]) <;> omega)))) only [go_sem, ↓reduceIte, Nat.reduceEqDiff, Nat.reduceAdd, Int.reduceToNat, Int.reduceAdd, Int.reduceNeg, Int.reduceSub, Int.reduceMul, Int.reduceLT, Int.reduceLE, Int.reduceEq, ↓GH.gp_eq, ↓GH.gp_ne, ↓GH.gs_eq, ↓GH.gs_ne, GH.push_next, GH.set_next, he]
          intro hx0
          exact ⟨by omega, ShP.good (by rw [hOk, hS]) (by rw [Int.toNat_natCast]; exact hsl.ext hx2)⟩
    · rintro m e g' lo ho' hl' ih out ⟨hlo, hk, hj0, i, vs, hi, he, hget, hvl, hrows⟩
      have hkn := hk.next
      by_cases ci : i < T.length
      · have ci' : (i : Int) < T.length := by omega
        obtain ⟨u, j1, o1, hj1, hp1, hp2, hu⟩ := ((ht.kept hk1).kept hk).ptr ci
        have hp1 := hp1 (i : Int) rfl
        have hTi := getD_get [] ci
        obtain ⟨R, hR⟩ : ∃ R, T.getD i [] = R := ⟨_, rfl⟩
        rw [hR] at hu hTi
        obtain ⟨r1, r2⟩ := t3 R (List.mem_of_getElem? hTi)
        have hia := iaddrS_at (j := g1.next) (n := T.length) (c := T.length) (m := i) (x := (i : Int)) rfl ci
        simp +decide (disch := first | assumption | exact cellV_int _ _ | exact cellV_bool _ | omega | (simp only [GH.pn, GH.sn] <;> omega) | (with_reducible ((repeat (first | apply GH.ok_push | apply GH.ok_set)); assumption)) | ((try simp only [GH.push_hid, GH.set_hid]); first | assumption | (refine GH.vis ?_ ?_ <;> first | assumption | ((try simp only [GH.pn, GH.sn]) <;> omega)))) only [go_sem, ↓reduceIte, Nat.reduceEqDiff, Nat.reduceAdd, Int.reduceToNat, Int.reduceAdd, Int.reduceNeg, Int.reduceSub, Int.reduceMul, Int.reduceLT, Int.reduceLE, Int.reduceEq, ↓GH.gp_eq, ↓GH.gp_ne, ↓GH.gs_eq, ↓GH.gs_ne, GH.push_next, GH.set_next, he, ci', hp1, hp2]
        refine CallD.calm (clone_rets hX R (by intro h; rw [h] at r1; simp at r1; omega) (by omega) u g' hu) ?_
        rintro w g2 hx2 hown
        have hn2 := hx2.next
        have hok2 := hx2.ok ho'
        have hget2 := (hx2.gets g1.next hj0).trans hget
        have hv2 := GH.seen hget2 Nat.one_ne_zero
        obtain ⟨sa, sn, sc, rfl⟩ := hown.read.slice
        simp +decide (disch := first | assumption | exact cellV_int _ _ | exact cellV_bool _ | omega | (simp only [GH.pn, GH.sn] <;> omega) | (with_reducible ((repeat (first | apply GH.ok_push | apply GH.ok_set)); assumption)) | ((try simp only [GH.push_hid, GH.set_hid]); first | assumption | (refine GH.vis ?_ ?_ <;> first | assumption | ((try simp only [GH.pn, GH.sn]) <;> omega)))) only [go_sem, ↓reduceIte, Nat.reduceEqDiff, Nat.reduceAdd, Int.reduceToNat, Int.reduceAdd, Int.reduceNeg, Int.reduceSub, Int.reduceMul, Int.reduceLT, Int.reduceLE, Int.reduceEq, ↓GH.gp_eq, ↓GH.gp_ne, ↓GH.gs_eq, ↓GH.gs_ne, GH.push_next, GH.set_next, he, hia, hget2, hvl]
        have hsp : splice i vs [.slice sa sn sc] = vs.set i (.slice sa sn sc) := splice_set _ _ _ (by omega)
        have hvi : (vs.set i (.slice sa sn sc))[i]? = some (.slice sa sn sc) := List.getElem?_set_self (by omega)
        have hw := Wrote.set (o := cellsOb (vs.set i (.slice sa sn sc)) 23) hget2 Nat.one_ne_zero hok2
        have hown3 : OwnM (g2.set g1.next (cellsOb (vs.set i (.slice sa sn sc)) 23)) (.slice sa sn sc) (ints R) 3 g'.next := hown.but (by rw [hw.next]; exact Nat.le_refl _) (fun j _ hb => hw.others j (by omega)) (fun f _ => hw.fams f)
        obtain ⟨jw, bw, x1, l1, aw⟩ := Row.at (.inr hown3) (ints_get (D := R) (i := cn) (by omega))
        have x1 := x1 (cn : Int) rfl
        have hr20 := r2 (R.getD cn 0) (List.mem_of_getElem? (getD_get 0 (by omega)))
        unfold Sm at hr20
        rw [hsp]
        simp +decide (disch := first | assumption | exact cellV_int _ _ | exact cellV_bool _ | omega | (simp only [GH.pn, GH.sn] <;> omega) | (with_reducible ((repeat (first | apply GH.ok_push | apply GH.ok_set)); assumption)) | ((try simp only [GH.push_hid, GH.set_hid]); first | assumption | (refine GH.vis ?_ ?_ <;> first | assumption | ((try simp only [GH.pn, GH.sn]) <;> omega)))) only [go_sem, ↓reduceIte, Nat.reduceEqDiff, Nat.reduceAdd, Int.reduceToNat, Int.reduceAdd, Int.reduceNeg, Int.reduceSub, Int.reduceMul, Int.reduceLT, Int.reduceLE, Int.reduceEq, ↓GH.gp_eq, ↓GH.gp_ne, ↓GH.gs_eq, ↓GH.gs_ne, GH.push_next, GH.set_next, he, hvi, x1, l1]
        refine OwnM.put (lw := g.next) hown3 aw (by rw [ints_len]; omega) (by simp +decide (disch := first | assumption | (apply GH.ok_push; assumption) | exact cellV_int _ _ | exact cellV_bool _ | omega) only [go_sem, ↓reduceIte, Nat.reduceEqDiff, Nat.reduceAdd, Int.reduceToNat, he, x1]; first | done | exact rfl) (by simp +decide (disch := first | assumption | (apply GH.ok_push; assumption) | exact cellV_int _ _ | exact cellV_bool _ | omega) only [go_sem, ↓reduceIte, Nat.reduceEqDiff, Nat.reduceAdd, Int.reduceToNat, he, l1]; first | done | exact rfl) rfl rfl hw.ok (by omega) (by omega) ?_
        intro g4 lo4 wr4 hw4 hr4 hlo4
        rw [ints_set] at hr4
        have hn4 : g4.next = g2.next := hw4.next.trans hw.next
        have hk4 : Kept g1 g4 := ((hk.ext hx2).setV hv2 (Nat.le_refl _) _).write hw4 (by omega)
        have hg4 : g4.get g1.next = cellsOb (vs.set i (.slice sa sn sc)) 23 := (hw4.gets _ (by omega)).trans hw.get
        simp +decide (disch := first | assumption | exact cellV_int _ _ | exact cellV_bool _ | omega | (simp only [GH.pn, GH.sn] <;> omega) | (with_reducible ((repeat (first | apply GH.ok_push | apply GH.ok_set)); assumption)) | ((try simp only [GH.push_hid, GH.set_hid]); first | assumption | (refine GH.vis ?_ ?_ <;> first | assumption | ((try simp only [GH.pn, GH.sn]) <;> omega)))) only [go_sem, ↓reduceIte, Nat.reduceEqDiff, Nat.reduceAdd, Int.reduceToNat, Int.reduceAdd, Int.reduceNeg, Int.reduceSub, Int.reduceMul, Int.reduceLT, Int.reduceLE, Int.reduceEq, ↓GH.gp_eq, ↓GH.gp_ne, ↓GH.gs_eq, ↓GH.gs_ne, GH.push_next, GH.set_next, he]
        refine ih (m - 1) _ _ _ (by omega) ⟨hlo4, hk4, by omega, i + 1, vs.set i (.slice sa sn sc), by omega, (by simp +decide (disch := first | assumption | (apply GH.ok_push; assumption) | exact cellV_int _ _ | exact cellV_bool _ | omega) only [go_sem, ↓reduceIte, Nat.reduceEqDiff, Nat.reduceAdd, Int.reduceToNat, he]; first | done | exact rfl), hg4, by simpa using hvl, fun k v R' hk' hv hR' => ?_⟩
        by_cases hki : k = i
        · subst hki
          rw [hvi] at hv
          cases hv
          rw [hTi] at hR'
          cases hR'
          exact ⟨hr4.read, OwnM.away hr4 hj0⟩
        · rw [List.getElem?_set_ne (Ne.symm hki)] at hv
          obtain ⟨q1, q2⟩ := hrows k v R' (by omega) hv hR'
          exact ⟨q1.but q2 (by omega) fun j hj hj2 => (hw4.gets j hj).trans ((hw.others j hj2).trans (hx2.gets j hj)), q2⟩
      · have ci' : ¬ (i : Int) < T.length := by omega
        simp +decide (disch := first | assumption | exact cellV_int _ _ | exact cellV_bool _ | omega | (simp only [GH.pn, GH.sn] <;> omega) | (with_reducible ((repeat (first | apply GH.ok_push | apply GH.ok_set)); assumption)) | ((try simp only [GH.push_hid, GH.set_hid]); first | assumption | (refine GH.vis ?_ ?_ <;> first | assumption | ((try simp only [GH.pn, GH.sn]) <;> omega)))) only [go_sem, ↓reduceIte, Nat.reduceEqDiff, Nat.reduceAdd, Int.reduceToNat, Int.reduceAdd, Int.reduceNeg, Int.reduceSub, Int.reduceMul, Int.reduceLT, Int.reduceLE, Int.reduceEq, ↓GH.gp_eq, ↓GH.gp_ne, ↓GH.gs_eq, ↓GH.gs_ne, GH.push_next, GH.set_next, he, ci']
        refine out _ _ _ ⟨hlo, hk, (by simp +decide (disch := first | assumption | (apply GH.ok_push; assumption) | exact cellV_int _ _ | exact cellV_bool _ | omega) only [go_sem, ↓reduceIte, Nat.reduceEqDiff, Nat.reduceAdd, Int.reduceToNat, he]; first | done | exact rfl), vs, SlR.whole hget hj0 hvl.symm, by rw [shT_len, hvl], fun k v L h1 h2 => ?_⟩
        obtain ⟨R0, h3, h4⟩ := shT_get h2
        rw [h4]
        exact (hrows k v R0 (by have := (List.getElem?_eq_some_iff.1 h3).1; omega) h1 h3).1
end Go.Proofs.YtngmaccaldhjcaaDoor
set_option maxRecDepth 100000
set_option maxHeartbeats 4000000
set_option linter.unusedSimpArgs false
set_option linter.unusedVariables false
namespace Go.Proofs.YtngmaccaldhjcaaDoor
open Go.Ds
theorem refShifted_rets {X : Caller} (hX : Xok X) (T : List (List Int)) (hF : Few T) (c b : Int) (t : Value) (g : GH) (ht : Sl2 g t T) :
    Rets Tryd.prog X 37 [t, .int .i64 c, .int .i64 b] g (fun v g' lo => g.next ≤ lo ∧ ShP T c b v g') := by
  have hlt := ht.len
  refine Rets.run hX.pres p37 (hX.free 37 (by decide) _ _) rfl fun ho => ?_
  simp +decide (disch := first | assumption | exact cellV_int _ _ | exact cellV_bool _ | omega | (simp only [GH.pn, GH.sn] <;> omega) | (with_reducible ((repeat (first | apply GH.ok_push | apply GH.ok_set)); assumption)) | ((try simp only [GH.push_hid, GH.set_hid]); first | assumption | (refine GH.vis ?_ ?_ <;> first | assumption | ((try simp only [GH.pn, GH.sn]) <;> omega)))) only [go_sem, ↓reduceIte, Nat.reduceEqDiff, Nat.reduceAdd, Int.reduceToNat, Int.reduceAdd, Int.reduceNeg, Int.reduceSub, Int.reduceMul, Int.reduceLT, Int.reduceLE, Int.reduceEq, ↓GH.gp_eq, ↓GH.gp_ne, ↓GH.gs_eq, ↓GH.gs_ne, GH.push_next, GH.set_next]
  refine CallD.calm (refIsTable_rets hX T hF.2 t g ht hF.1) ?_
  rintro v g1 hx1 rfl
  have hn1 := hx1.next
  have hok1 := hx1.ok ho
  have hk1 := (Kept.refl g).ext hx1
  cases hT : tabB T with
  | false =>
    simp +decide (disch := first | assumption | exact cellV_int _ _ | exact cellV_bool _ | omega | (simp only [GH.pn, GH.sn] <;> omega) | (with_reducible ((repeat (first | apply GH.ok_push | apply GH.ok_set)); assumption)) | ((try simp only [GH.push_hid, GH.set_hid]); first | assumption | (refine GH.vis ?_ ?_ <;> first | assumption | ((try simp only [GH.pn, GH.sn]) <;> omega)))) only [go_sem, ↓reduceIte, Nat.reduceEqDiff, Nat.reduceAdd, Int.reduceToNat, Int.reduceAdd, Int.reduceNeg, Int.reduceSub, Int.reduceMul, Int.reduceLT, Int.reduceLE, Int.reduceEq, ↓GH.gp_eq, ↓GH.gp_ne, ↓GH.gs_eq, ↓GH.gs_ne, GH.push_next, GH.set_next]
    intro hx0
    exact ⟨by omega, ShP.bad (by unfold shOk; rw [hT]; rfl)⟩
  | true =>
    obtain ⟨t1, t2, t3⟩ := tab_len hT
    by_cases c1 : c < 0
    · simp +decide (disch := first | assumption | exact cellV_int _ _ | exact cellV_bool _ | omega | (simp only [GH.pn, GH.sn] <;> omega) | (with_reducible ((repeat (first | apply GH.ok_push | apply GH.ok_set)); assumption)) | ((try simp only [GH.push_hid, GH.set_hid]); first | assumption | (refine GH.vis ?_ ?_ <;> first | assumption | ((try simp only [GH.pn, GH.sn]) <;> omega)))) only [go_sem, ↓reduceIte, Nat.reduceEqDiff, Nat.reduceAdd, Int.reduceToNat, Int.reduceAdd, Int.reduceNeg, Int.reduceSub, Int.reduceMul, Int.reduceLT, Int.reduceLE, Int.reduceEq, ↓GH.gp_eq, ↓GH.gp_ne, ↓GH.gs_eq, ↓GH.gs_ne, GH.push_next, GH.set_next, c1]
      intro hx0
      exact ⟨by omega, ShP.bad (by unfold shOk; rw [decide_eq_false (show ¬ 0 ≤ c by omega)]; simp)⟩
    by_cases c2 : (T.length : Int) ≤ c
    · simp +decide (disch := first | assumption | exact cellV_int _ _ | exact cellV_bool _ | omega | (simp only [GH.pn, GH.sn] <;> omega) | (with_reducible ((repeat (first | apply GH.ok_push | apply GH.ok_set)); assumption)) | ((try simp only [GH.push_hid, GH.set_hid]); first | assumption | (refine GH.vis ?_ ?_ <;> first | assumption | ((try simp only [GH.pn, GH.sn]) <;> omega)))) only [go_sem, ↓reduceIte, Nat.reduceEqDiff, Nat.reduceAdd, Int.reduceToNat, Int.reduceAdd, Int.reduceNeg, Int.reduceSub, Int.reduceMul, Int.reduceLT, Int.reduceLE, Int.reduceEq, ↓GH.gp_eq, ↓GH.gp_ne, ↓GH.gs_eq, ↓GH.gs_ne, GH.push_next, GH.set_next, c1, c2, hlt]
      intro hx0
      exact ⟨by omega, ShP.bad (by unfold shOk; rw [decide_eq_false (show ¬ c < T.length by omega)]; simp)⟩
    by_cases c3 : b < -40
    · simp +decide (disch := first | assumption | exact cellV_int _ _ | exact cellV_bool _ | omega | (simp only [GH.pn, GH.sn] <;> omega) | (with_reducible ((repeat (first | apply GH.ok_push | apply GH.ok_set)); assumption)) | ((try simp only [GH.push_hid, GH.set_hid]); first | assumption | (refine GH.vis ?_ ?_ <;> first | assumption | ((try simp only [GH.pn, GH.sn]) <;> omega)))) only [go_sem, ↓reduceIte, Nat.reduceEqDiff, Nat.reduceAdd, Int.reduceToNat, Int.reduceAdd, Int.reduceNeg, Int.reduceSub, Int.reduceMul, Int.reduceLT, Int.reduceLE, Int.reduceEq, ↓GH.gp_eq, ↓GH.gp_ne, ↓GH.gs_eq, ↓GH.gs_ne, GH.push_next, GH.set_next, c1, c2, c3, hlt]
      intro hx0
      exact ⟨by omega, ShP.bad (by unfold shOk; rw [decide_eq_false (show ¬ -40 ≤ b by omega)]; simp)⟩
    by_cases c4 : 40 < b
    · simp +decide (disch := first | assumption | exact cellV_int _ _ | exact cellV_bool _ | omega | (simp only [GH.pn, GH.sn] <;> omega) | (with_reducible ((repeat (first | apply GH.ok_push | apply GH.ok_set)); assumption)) | ((try simp only [GH.push_hid, GH.set_hid]); first | assumption | (refine GH.vis ?_ ?_ <;> first | assumption | ((try simp only [GH.pn, GH.sn]) <;> omega)))) only [go_sem, ↓reduceIte, Nat.reduceEqDiff, Nat.reduceAdd, Int.reduceToNat, Int.reduceAdd, Int.reduceNeg, Int.reduceSub, Int.reduceMul, Int.reduceLT, Int.reduceLE, Int.reduceEq, ↓GH.gp_eq, ↓GH.gp_ne, ↓GH.gs_eq, ↓GH.gs_ne, GH.push_next, GH.set_next, c1, c2, c3, c4, hlt]
      intro hx0
      exact ⟨by omega, ShP.bad (by unfold shOk; rw [decide_eq_false (show ¬ b ≤ 40 by omega)]; simp)⟩
    obtain ⟨cn, rfl⟩ : ∃ n : Nat, c = n := ⟨c.toNat, by omega⟩
    have hOk : shOk T cn b = tabB (shT T cn b) := by
      unfold shOk
      rw [hT, decide_eq_true (show (0 : Int) ≤ cn by omega), decide_eq_true (show (cn : Int) < T.length by omega), decide_eq_true (show -40 ≤ b by omega), decide_eq_true (show b ≤ 40 by omega)]
      simp
    simp +decide (disch := first | assumption | exact cellV_int _ _ | exact cellV_bool _ | omega | (simp only [GH.pn, GH.sn] <;> omega) | (with_reducible ((repeat (first | apply GH.ok_push | apply GH.ok_set)); assumption)) | ((try simp only [GH.push_hid, GH.set_hid]); first | assumption | (refine GH.vis ?_ ?_ <;> first | assumption | ((try simp only [GH.pn, GH.sn]) <;> omega)))) only [go_sem, ↓reduceIte, Nat.reduceEqDiff, Nat.reduceAdd, Int.reduceToNat, Int.reduceAdd, Int.reduceNeg, Int.reduceSub, Int.reduceMul, Int.reduceLT, Int.reduceLE, Int.reduceEq, ↓GH.gp_eq, ↓GH.gp_ne, ↓GH.gs_eq, ↓GH.gs_ne, GH.push_next, GH.set_next, c1, c2, c3, c4, hlt]
    refine Wk.loops (fun m e g' lo => g.next ≤ lo ∧ Kept g1 g' ∧ ∃ i : Nat, i + m = T.length ∧ (ev e (.s 0) = t ∧ ev e (.s 1) = .int .i64 cn ∧ ev e (.s 2) = .int .i64 b ∧ ev e (.s 9) = .int .i64 i) ∧ ∃ o, ev e (.s 8) = o ∧ Own2 g' o (shT (T.take i) cn b) g1.next)
      (fun e g' lo => g.next ≤ lo ∧ Kept g1 g' ∧ ∃ o, ev e (.s 8) = o ∧ Sl2 g' o (shT T cn b)) (n := T.length) ?_ ?_ ?_
    · exact ⟨by omega, Kept.refl _, 0, by omega, (by simp +decide (disch := first | assumption | (apply GH.ok_push; assumption) | exact cellV_int _ _ | exact cellV_bool _ | omega) only [go_sem, ↓reduceIte, Nat.reduceEqDiff, Nat.reduceAdd, Int.reduceToNat]; first | done | exact rfl), .slice none 0 0, (by simp +decide (disch := first | assumption | (apply GH.ok_push; assumption) | exact cellV_int _ _ | exact cellV_bool _ | omega) only [go_sem, ↓reduceIte, Nat.reduceEqDiff, Nat.reduceAdd, Int.reduceToNat]; first | done | exact rfl), Own2.nil⟩
    · rintro e g' lo ho' - ⟨hlo, hk, o, he, hsl⟩
      have hkn := hk.next
      simp +decide (disch := first | assumption | exact cellV_int _ _ | exact cellV_bool _ | omega | (simp only [GH.pn, GH.sn] <;> omega) | (with_reducible ((repeat (first | apply GH.ok_push | apply GH.ok_set)); assumption)) | ((try simp only [GH.push_hid, GH.set_hid]); first | assumption | (refine GH.vis ?_ ?_ <;> first | assumption | ((try simp only [GH.pn, GH.sn]) <;> omega)))) only [go_sem, ↓reduceIte, Nat.reduceEqDiff, Nat.reduceAdd, Int.reduceToNat, Int.reduceAdd, Int.reduceNeg, Int.reduceSub, Int.reduceMul, Int.reduceLT, Int.reduceLE, Int.reduceEq, ↓GH.gp_eq, ↓GH.gp_ne, ↓GH.gs_eq, ↓GH.gs_ne, GH.push_next, GH.set_next, he]
      refine CallD.calm (refIsTable_rets hX (shT T cn b) (fun R hR => ?_) _ g' hsl (by rw [shT_len]; omega)) ?_
      · obtain ⟨i, hi, rfl⟩ := List.mem_iff_getElem.1 hR
        obtain ⟨R0, h1, h2⟩ := shT_get (List.getElem?_eq_getElem hi)
        rw [h2]
        have := hF.2 R0 (List.mem_of_getElem? h1)
        simpa [shR] using this
      · rintro v g2 hx2 rfl
        have hn2 := hx2.next
        cases hS : tabB (shT T cn b) with
        | false =>
          simp +decide (disch := first | assumption | exact cellV_int _ _ | exact cellV_bool _ | omega | (simp only [GH.pn, GH.sn] <;> omega) | (with_reducible ((repeat (first | apply GH.ok_push | apply GH.ok_set)); assumption)) | ((try simp only [GH.push_hid, GH.set_hid]); first | assumption | (refine GH.vis ?_ ?_ <;> first | assumption | ((try simp only [GH.pn, GH.sn]) <;> omega)))) only [go_sem, ↓reduceIte, Nat.reduceEqDiff, Nat.reduceAdd, Int.reduceToNat, Int.reduceAdd, Int.reduceNeg, Int.reduceSub, Int.reduceMul, Int.reduceLT, Int.reduceLE, Int.reduceEq, ↓GH.gp_eq, ↓GH.gp_ne, ↓GH.gs_eq, ↓GH.gs_ne, GH.push_next, GH.set_next, he]
          intro hx0
          exact ⟨by omega, ShP.bad (by rw [hOk, hS])⟩
        | true =>
          simp +decide (disch := first | assumption | exact cellV_int _ _ | exact cellV_bool _ | omega | (simp only [GH.pn, GH.sn] <;> omega) | (with_reducible ((repeat (first | apply GH.ok_push | apply GH.ok_set)); assumption)) | ((try simp only [GH.push_hid, GH.set_hid]); first | assumption | (refine GH.vis ?_ ?_ <;> first | assumption | ((try simp only [GH.pn, GH.sn]) <;> omega)))) only [go_sem, ↓reduceIte, Nat.reduceEqDiff, Nat.reduceAdd, Int.reduceToNat, Int.reduceAdd, Int.reduceNeg, Int.reduceSub, Int.reduceMul, Int.reduceLT, Int.reduceLE, Int.reduceEq, ↓GH.gp_eq, ↓GH.gp_ne, ↓GH.gs_eq, ↓GH.gs_ne, GH.push_next, GH.set_next, he]
          intro hx0
          exact ⟨by omega, ShP.good (by rw [hOk, hS]) (by rw [Int.toNat_natCast]; exact hsl.ext hx2)⟩
    · rintro m e g' lo ho' hl' ih out ⟨hlo, hk, i, hi, he, o, h8, hown⟩
      have hkn := hk.next
      by_cases ci : i < T.length
      · have ci' : (i : Int) < T.length := by omega
        obtain ⟨u, j1, o1, hj1, hp1, hp2, hu⟩ := ((ht.kept hk1).kept hk).ptr ci
        have hp1 := hp1 (i : Int) rfl
        have hTi := getD_get [] ci
        obtain ⟨R, hR⟩ : ∃ R, T.getD i [] = R := ⟨_, rfl⟩
        rw [hR] at hu hTi
        obtain ⟨r1, r2⟩ := t3 R (List.mem_of_getElem? hTi)
        have htk : shT (T.take (i + 1)) cn b = shT (T.take i) cn b ++ [shR cn b R] := by
          rw [take_snoc' T i R hTi]; simp [shT]
        have hRne : ints R ≠ [] := by
          intro h
          have := congrArg List.length h
          rw [ints_len, r1, List.length_nil] at this
          omega
        simp +decide (disch := first | assumption | exact cellV_int _ _ | exact cellV_bool _ | omega | (simp only [GH.pn, GH.sn] <;> omega) | (with_reducible ((repeat (first | apply GH.ok_push | apply GH.ok_set)); assumption)) | ((try simp only [GH.push_hid, GH.set_hid]); first | assumption | (refine GH.vis ?_ ?_ <;> first | assumption | ((try simp only [GH.pn, GH.sn]) <;> omega)))) only [go_sem, ↓reduceIte, Nat.reduceEqDiff, Nat.reduceAdd, Int.reduceToNat, Int.reduceAdd, Int.reduceNeg, Int.reduceSub, Int.reduceMul, Int.reduceLT, Int.reduceLE, Int.reduceEq, ↓GH.gp_eq, ↓GH.gp_ne, ↓GH.gs_eq, ↓GH.gs_ne, GH.push_next, GH.set_next, he, h8, hlt, ci', hp1, hp2]
        refine AppD.ownM (lw := g.next) (base := g'.next) OwnM.nil hu hRne (ints_cell R) (by rw [ints_len]; simp; omega) (Nat.le_refl _) hlo (by omega) ho' (fun w g2 lo2 sp wr hgr hlo2 => ?_)
        have hn2 := hgr.next
        have hown2 := hgr.own
        rw [List.nil_append] at hown2
        have hk2 : Kept g' g2 := (Kept.refl g').grewM hgr (Nat.le_refl _)
        obtain ⟨jw, bw, x1, l1, aw⟩ := Row.at (.inr hown2) (ints_get (D := R) (i := cn) (by omega))
        have x1 := x1 (cn : Int) rfl
        have hr20 := r2 (R.getD cn 0) (List.mem_of_getElem? (getD_get 0 (by omega)))
        unfold Sm at hr20
        simp +decide (disch := first | assumption | exact cellV_int _ _ | exact cellV_bool _ | omega | (simp only [GH.pn, GH.sn] <;> omega) | (with_reducible ((repeat (first | apply GH.ok_push | apply GH.ok_set)); assumption)) | ((try simp only [GH.push_hid, GH.set_hid]); first | assumption | (refine GH.vis ?_ ?_ <;> first | assumption | ((try simp only [GH.pn, GH.sn]) <;> omega)))) only [go_sem, ↓reduceIte, Nat.reduceEqDiff, Nat.reduceAdd, Int.reduceToNat, Int.reduceAdd, Int.reduceNeg, Int.reduceSub, Int.reduceMul, Int.reduceLT, Int.reduceLE, Int.reduceEq, ↓GH.gp_eq, ↓GH.gp_ne, ↓GH.gs_eq, ↓GH.gs_ne, GH.push_next, GH.set_next, he, h8, x1, l1]
        refine OwnM.put (lw := g.next) hown2 aw (by rw [ints_len]; omega) (by simp +decide (disch := first | assumption | (apply GH.ok_push; assumption) | exact cellV_int _ _ | exact cellV_bool _ | omega) only [go_sem, ↓reduceIte, Nat.reduceEqDiff, Nat.reduceAdd, Int.reduceToNat, he, x1]; first | done | exact rfl) (by simp +decide (disch := first | assumption | (apply GH.ok_push; assumption) | exact cellV_int _ _ | exact cellV_bool _ | omega) only [go_sem, ↓reduceIte, Nat.reduceEqDiff, Nat.reduceAdd, Int.reduceToNat, he, l1]; first | done | exact rfl) rfl rfl hgr.ok hlo2 (by omega) ?_
        intro g4 lo4 wr4 hw4 hr4 hlo4
        rw [ints_set] at hr4
        have hn4 : g4.next = g'.next + 1 := hw4.next.trans hn2
        have hk4 : Kept g' g4 := hk2.write hw4 (Nat.le_refl _)
        have hcell := hr4.read.cell
        simp +decide (disch := first | assumption | (apply GH.ok_push; assumption) | exact cellV_int _ _ | exact cellV_bool _ | omega) only [go_sem, ↓reduceIte, Nat.reduceEqDiff, Nat.reduceAdd, Int.reduceToNat, he, h8, hcell]
        have hkp4 := hk4.push hw4.ok (cellsOb [w] 23)
        obtain ⟨vs, q1, q2, q3⟩ := hown.kept hkp4
        have hvl : vs.length ≤ 20 := by rw [q2, shT_len, List.length_take]; omega
        refine AppD.own2 (lw := g.next) q1 (SlR.one hw4.ok _ _) (by simp) (by simp [hcell]) (by simp; omega) (by simp [GH.push]; omega) hlo4 (by omega) (GH.ok_push hw4.ok) (fun s' g5 lo5 sp wr hgr5 hlo5 => ?_)
        simp +decide (disch := first | assumption | (apply GH.ok_push; assumption) | exact cellV_int _ _ | exact cellV_bool _ | omega) only [go_sem, ↓reduceIte, Nat.reduceEqDiff, Nat.reduceAdd, Int.reduceToNat, he]
        refine ih (m - 1) _ _ _ (by omega) ⟨hlo5, (hk.trans hkp4).grew2 hgr5 (Nat.le_refl _), i + 1, by omega, (by simp +decide (disch := first | assumption | (apply GH.ok_push; assumption) | exact cellV_int _ _ | exact cellV_bool _ | omega) only [go_sem, ↓reduceIte, Nat.reduceEqDiff, Nat.reduceAdd, Int.reduceToNat, he]; first | done | exact rfl), s', (by simp +decide (disch := first | assumption | (apply GH.ok_push; assumption) | exact cellV_int _ _ | exact cellV_bool _ | omega) only [go_sem, ↓reduceIte, Nat.reduceEqDiff, Nat.reduceAdd, Int.reduceToNat]; first | done | exact rfl), ?_⟩
        rw [htk]
        exact Own2.grew q2 q3 (hr4.read.push hw4.ok _) hgr5
      · have ci' : ¬ (i : Int) < T.length := by omega
        rw [List.take_of_length_le (by omega)] at hown
        simp +decide (disch := first | assumption | (apply GH.ok_push; assumption) | exact cellV_int _ _ | exact cellV_bool _ | omega) only [go_sem, ↓reduceIte, Nat.reduceEqDiff, Nat.reduceAdd, Int.reduceToNat, he, h8, hlt, ci']
        exact out _ _ _ ⟨hlo, hk, o, (by simp +decide (disch := first | assumption | (apply GH.ok_push; assumption) | exact cellV_int _ _ | exact cellV_bool _ | omega) only [go_sem, ↓reduceIte, Nat.reduceEqDiff, Nat.reduceAdd, Int.reduceToNat, h8]; first | done | exact rfl), hown.read⟩
end Go.Proofs.YtngmaccaldhjcaaDoor
set_option maxRecDepth 100000
set_option maxHeartbeats 4000000
set_option linter.unusedSimpArgs false
set_option linter.unusedVariables false
namespace Go.Ds
theorem Own.but {g g' : GH} {s : Value} {vs : List Value} {t : TypeId} {base : Nat} (h : Own g s vs t base) (hn : g.next ≤ g'.next) (hg : ∀ j, j < g.next → base ≤ j → g'.get j = g.get j) (hf : ∀ f, f < g.next → g'.fams f = g.fams f) : Own g' s vs t base := by
  rcases h with h | ⟨j, fam, h1, h2, h3, h4, h5, h6, h7⟩
  · exact .inl h
  · exact .inr ⟨j, fam, h1, by omega, by rw [hg j h2 (by omega)]; exact h3, h4, h5, h6, by rw [hf fam (by omega)]; exact h7⟩
end Go.Ds
namespace Go.Proofs.YtngmaccaldhjcaaDoor
open Go.Ds
theorem Own.away {g : GH} {s : Value} {vs : List Value} {t : TypeId} {base j0 : Nat} (h : Own g s vs t base) (h0 : j0 < base) : AwayB s j0 := by
  intro a l c hs
  rcases h with ⟨rfl, _⟩ | ⟨j, fam, rfl, h2, h3, h4, h5, h6, _⟩
  · cases hs
  · cases hs
    show j ≠ j0
    omega
theorem scan_rng {n : Nat} : ∀ (O : List Int) (b : Nat), scanO n O b = true → ∀ x ∈ O, 0 ≤ x ∧ x < n
  | [], _, _, _, h => absurd h List.not_mem_nil
  | y :: O, b, h, x, hx => by
    unfold scanO at h
    split at h
    · cases h
    · rename_i hc
      rcases List.mem_cons.1 hx with rfl | hx
      · constructor
        · exact Int.not_lt.1 fun q => hc (.inl q)
        · exact Int.not_le.1 fun q => hc (.inr (.inl q))
      · exact scan_rng O _ h x hx
theorem ord_facts {n : Nat} (h1 : 1 ≤ n) (h3 : n ≤ 3) {O : List Int} (h : ordB n O = true) : O.length = n ∧ ∀ k, k < n → ∃ r : Nat, O.getD k 0 = r ∧ r < n := by
  have h2 := scan_ord h1 h3 O
  rw [h, Bool.and_eq_true] at h2
  have hl := of_decide_eq_true h2.2
  refine ⟨hl, fun k hk => ?_⟩
  have := scan_rng O 0 h2.1 (O.getD k 0) (List.mem_of_getElem? (getD_get 0 (by omega)))
  exact ⟨(O.getD k 0).toNat, by omega, by omega⟩
def rnR (T : List (List Int)) (O : List Int) (x : Int) : List Int := O.map fun c => te T x.toNat c.toNat
def rnT (T : List (List Int)) (O : List Int) : List (List Int) := O.map (rnR T O)
def rnOk (T : List (List Int)) (O : List Int) : Bool := tabB T && ordB T.length O
def rnS (T : List (List Int)) (O : List Int) : List (List Int) := if rnOk T O = true then rnT T O else []
def rnE (T : List (List Int)) (O : List Int) : Int := if rnOk T O = true then 0 else 2
def RnP (T : List (List Int)) (O : List Int) (v : Value) (g : GH) : Prop := ∃ o, v = .tuple #[o, .int .i64 (rnE T O)] ∧ Sl2 g o (rnS T O)
theorem RnP.bad {T : List (List Int)} {O : List Int} {g : GH} (h : rnOk T O = false) : RnP T O (.tuple #[.slice none 0 0, .int .i64 2]) g :=
  ⟨_, by unfold rnE; rw [h]; rfl, by unfold rnS; rw [h]; exact Sl2.nil⟩
theorem RnP.good {T : List (List Int)} {O : List Int} {g : GH} {o : Value} (h : rnOk T O = true) (ho : Sl2 g o (rnT T O)) : RnP T O (.tuple #[o, .int .i64 0]) g :=
  ⟨_, by unfold rnE; rw [if_pos h], by unfold rnS; rw [if_pos h]; exact ho⟩
theorem map_take_snoc {α β : Type} (f : α → β) (L : List α) (i : Nat) (x : α) (h : L[i]? = some x) : (L.map f).take (i + 1) = (L.map f).take i ++ [f x] :=
  take_snoc' (L.map f) i (f x) (by rw [List.getElem?_map, h]; rfl)
theorem set_get {α : Type} {vs : List α} {i : Nat} {x : α} (h : vs[i]? = some x) : vs.set i x = vs := by
  obtain ⟨h1, h2⟩ := List.getElem?_eq_some_iff.1 h
  rw [← h2]
  exact List.set_getElem_self h1
theorem refRenamed_rets {X : Caller} (hX : Xok X) (T : List (List Int)) (hF : Few T) (O : List Int) (hO : O.length < 1000000) (t s : Value) (g : GH) (ht : Sl2 g t T) (hs : SlR g s (ints O)) :
    Rets Tryd.prog X 39 [t, s] g (fun v g' lo => g.next ≤ lo ∧ RnP T O v g') := by
  have hlt := ht.len
  have hls := hs.len
  rw [ints_len] at hls
  refine Rets.run hX.pres p39 (hX.free 39 (by decide) _ _) rfl fun ho => ?_
  simp +decide (disch := first | assumption | exact cellV_int _ _ | exact cellV_bool _ | omega | (simp only [GH.pn, GH.sn] <;> omega) | (with_reducible ((repeat (first | apply GH.ok_push | apply GH.ok_set)); assumption)) | ((try simp only [GH.push_hid, GH.set_hid]); first | assumption | (refine GH.vis ?_ ?_ <;> first | assumption | ((try simp only [GH.pn, GH.sn]) <;> omega)))) only [go_sem, ↓reduceIte, Nat.reduceEqDiff, Nat.reduceAdd, Int.reduceToNat, Int.reduceAdd, Int.reduceNeg, Int.reduceSub, Int.reduceMul, Int.reduceLT, Int.reduceLE, Int.reduceEq, ↓GH.gp_eq, ↓GH.gp_ne, ↓GH.gs_eq, ↓GH.gs_ne, GH.push_next, GH.set_next]
  refine CallD.calm (refIsTable_rets hX T hF.2 t g ht hF.1) ?_
  rintro v g1 hx1 rfl
  have hn1 := hx1.next
  have hok1 := hx1.ok ho
  have hk1 := (Kept.refl g).ext hx1
  cases hT : tabB T with
  | false =>
    simp +decide (disch := first | assumption | exact cellV_int _ _ | exact cellV_bool _ | omega | (simp only [GH.pn, GH.sn] <;> omega) | (with_reducible ((repeat (first | apply GH.ok_push | apply GH.ok_set)); assumption)) | ((try simp only [GH.push_hid, GH.set_hid]); first | assumption | (refine GH.vis ?_ ?_ <;> first | assumption | ((try simp only [GH.pn, GH.sn]) <;> omega)))) only [go_sem, ↓reduceIte, Nat.reduceEqDiff, Nat.reduceAdd, Int.reduceToNat, Int.reduceAdd, Int.reduceNeg, Int.reduceSub, Int.reduceMul, Int.reduceLT, Int.reduceLE, Int.reduceEq, ↓GH.gp_eq, ↓GH.gp_ne, ↓GH.gs_eq, ↓GH.gs_ne, GH.push_next, GH.set_next]
    intro hx0
    exact ⟨by omega, RnP.bad (by unfold rnOk; rw [hT]; rfl)⟩
  | true =>
    obtain ⟨t1, t2, t3⟩ := tab_len hT
    simp +decide (disch := first | assumption | exact cellV_int _ _ | exact cellV_bool _ | omega | (simp only [GH.pn, GH.sn] <;> omega) | (with_reducible ((repeat (first | apply GH.ok_push | apply GH.ok_set)); assumption)) | ((try simp only [GH.push_hid, GH.set_hid]); first | assumption | (refine GH.vis ?_ ?_ <;> first | assumption | ((try simp only [GH.pn, GH.sn]) <;> omega)))) only [go_sem, ↓reduceIte, Nat.reduceEqDiff, Nat.reduceAdd, Int.reduceToNat, Int.reduceAdd, Int.reduceNeg, Int.reduceSub, Int.reduceMul, Int.reduceLT, Int.reduceLE, Int.reduceEq, ↓GH.gp_eq, ↓GH.gp_ne, ↓GH.gs_eq, ↓GH.gs_ne, GH.push_next, GH.set_next, hlt]
    refine CallD.calm (refIsOrder_rets hX O T.length t1 t2 hO s g1 (hs.kept hk1)) ?_
    rintro v g2 hx2 rfl
    have hn2 := hx2.next
    have hok2 := hx2.ok hok1
    have hk2 := hk1.ext hx2
    cases hB : ordB T.length O with
    | false =>
      simp +decide (disch := first | assumption | exact cellV_int _ _ | exact cellV_bool _ | omega | (simp only [GH.pn, GH.sn] <;> omega) | (with_reducible ((repeat (first | apply GH.ok_push | apply GH.ok_set)); assumption)) | ((try simp only [GH.push_hid, GH.set_hid]); first | assumption | (refine GH.vis ?_ ?_ <;> first | assumption | ((try simp only [GH.pn, GH.sn]) <;> omega)))) only [go_sem, ↓reduceIte, Nat.reduceEqDiff, Nat.reduceAdd, Int.reduceToNat, Int.reduceAdd, Int.reduceNeg, Int.reduceSub, Int.reduceMul, Int.reduceLT, Int.reduceLE, Int.reduceEq, ↓GH.gp_eq, ↓GH.gp_ne, ↓GH.gs_eq, ↓GH.gs_ne, GH.push_next, GH.set_next]
      intro hx0
      exact ⟨by omega, RnP.bad (by unfold rnOk; rw [hB]; simp)⟩
    | true =>
      have hOk : rnOk T O = true := by unfold rnOk; rw [hT, hB]; rfl
      obtain ⟨ol, og⟩ := ord_facts t1 t2 hB
      simp +decide (disch := first | assumption | exact cellV_int _ _ | exact cellV_bool _ | omega | (simp only [GH.pn, GH.sn] <;> omega) | (with_reducible ((repeat (first | apply GH.ok_push | apply GH.ok_set)); assumption)) | ((try simp only [GH.push_hid, GH.set_hid]); first | assumption | (refine GH.vis ?_ ?_ <;> first | assumption | ((try simp only [GH.pn, GH.sn]) <;> omega)))) only [go_sem, ↓reduceIte, Nat.reduceEqDiff, Nat.reduceAdd, Int.reduceToNat, Int.reduceAdd, Int.reduceNeg, Int.reduceSub, Int.reduceMul, Int.reduceLT, Int.reduceLE, Int.reduceEq, ↓GH.gp_eq, ↓GH.gp_ne, ↓GH.gs_eq, ↓GH.gs_ne, GH.push_next, GH.set_next]
      refine Wk.loops (fun m e g' lo => g.next ≤ lo ∧ Kept g2 g' ∧ ∃ i : Nat, i + m = T.length ∧ (ev e (.s 0) = t ∧ ev e (.s 1) = s ∧ ev e (.s 7) = .int .i64 i) ∧ ∃ o, ev e (.s 6) = o ∧ Own2 g' o ((rnT T O).take i) g2.next)
        (fun e g' lo => g.next ≤ lo ∧ ∃ o, ev e (.s 6) = o ∧ Sl2 g' o (rnT T O)) (n := T.length) ?_ ?_ ?_
      · exact ⟨by omega, Kept.refl _, 0, by omega, (by simp +decide (disch := first | assumption | (apply GH.ok_push; assumption) | exact cellV_int _ _ | exact cellV_bool _ | omega) only [go_sem, ↓reduceIte, Nat.reduceEqDiff, Nat.reduceAdd, Int.reduceToNat]; first | done | exact rfl), .slice none 0 0, (by simp +decide (disch := first | assumption | (apply GH.ok_push; assumption) | exact cellV_int _ _ | exact cellV_bool _ | omega) only [go_sem, ↓reduceIte, Nat.reduceEqDiff, Nat.reduceAdd, Int.reduceToNat]; first | done | exact rfl), Own2.nil⟩
      · rintro e g' lo ho' - ⟨hlo, o, he, hsl⟩
        simp +decide (disch := first | assumption | exact cellV_int _ _ | exact cellV_bool _ | omega | (simp only [GH.pn, GH.sn] <;> omega) | (with_reducible ((repeat (first | apply GH.ok_push | apply GH.ok_set)); assumption)) | ((try simp only [GH.push_hid, GH.set_hid]); first | assumption | (refine GH.vis ?_ ?_ <;> first | assumption | ((try simp only [GH.pn, GH.sn]) <;> omega)))) only [go_sem, ↓reduceIte, Nat.reduceEqDiff, Nat.reduceAdd, Int.reduceToNat, Int.reduceAdd, Int.reduceNeg, Int.reduceSub, Int.reduceMul, Int.reduceLT, Int.reduceLE, Int.reduceEq, ↓GH.gp_eq, ↓GH.gp_ne, ↓GH.gs_eq, ↓GH.gs_ne, GH.push_next, GH.set_next, he]
        intro hx0
        exact ⟨hlo, RnP.good hOk hsl⟩
      · rintro m e g' lo ho' hl' ih out ⟨hlo, hk, i, hi, he, o, h6, hown⟩
        have hkn := hk.next
        by_cases ci : i < T.length
        · have ci' : (i : Int) < T.length := by omega
          obtain ⟨r, hr, hrn⟩ := og i ci
          have hOi := getD_get (0 : Int) (show i < O.length by omega)
          rw [hr] at hOi
          have hTr := getD_get [] hrn
          have hRl := (t3 _ (List.mem_of_getElem? hTr)).1
          simp +decide (disch := first | assumption | exact cellV_int _ _ | exact cellV_bool _ | omega | (simp only [GH.pn, GH.sn] <;> omega) | (with_reducible ((repeat (first | apply GH.ok_push | apply GH.ok_set)); assumption)) | ((try simp only [GH.push_hid, GH.set_hid]); first | assumption | (refine GH.vis ?_ ?_ <;> first | assumption | ((try simp only [GH.pn, GH.sn]) <;> omega)))) only [go_sem, ↓reduceIte, Nat.reduceEqDiff, Nat.reduceAdd, Int.reduceToNat, Int.reduceAdd, Int.reduceNeg, Int.reduceSub, Int.reduceMul, Int.reduceLT, Int.reduceLE, Int.reduceEq, ↓GH.gp_eq, ↓GH.gp_ne, ↓GH.gs_eq, ↓GH.gs_ne, GH.push_next, GH.set_next, he, hlt, ci']
          refine Wk.loops (fun m2 e2 G lo2 => g.next ≤ lo2 ∧ Kept g' G ∧ ∃ k : Nat, k + m2 = T.length ∧ (ev e2 (.s 0) = t ∧ ev e2 (.s 1) = s ∧ ev e2 (.s 6) = o ∧ ev e2 (.s 7) = .int .i64 i ∧ ev e2 (.s 9) = .int .i64 k) ∧ ∃ u, ev e2 (.s 8) = u ∧ Own G u (ints ((rnR T O r).take k)) 3 g'.next)
            (fun e2 G lo2 => g.next ≤ lo2 ∧ Kept g' G ∧ (ev e2 (.s 0) = t ∧ ev e2 (.s 1) = s ∧ ev e2 (.s 6) = o ∧ ev e2 (.s 7) = .int .i64 i) ∧ ∃ u, ev e2 (.s 8) = u ∧ SlR G u (ints (rnR T O r))) (n := T.length) ?_ ?_ ?_
          · exact ⟨hlo, Kept.refl _, 0, by omega, (by simp +decide (disch := first | assumption | (apply GH.ok_push; assumption) | exact cellV_int _ _ | exact cellV_bool _ | omega) only [go_sem, ↓reduceIte, Nat.reduceEqDiff, Nat.reduceAdd, Int.reduceToNat, he, h6]; first | done | exact rfl), .slice none 0 0, (by simp +decide (disch := first | assumption | (apply GH.ok_push; assumption) | exact cellV_int _ _ | exact cellV_bool _ | omega) only [go_sem, ↓reduceIte, Nat.reduceEqDiff, Nat.reduceAdd, Int.reduceToNat]; first | done | exact rfl), Own.nil⟩
          · rintro e2 G lo2 hoG - ⟨hlo2, hkG, he2, u, h8, hu⟩
            have hnG := hkG.next
            have hcell := hu.cell
            simp +decide (disch := first | assumption | (apply GH.ok_push; assumption) | exact cellV_int _ _ | exact cellV_bool _ | omega) only [go_sem, ↓reduceIte, Nat.reduceEqDiff, Nat.reduceAdd, Int.reduceToNat, he2, h8, hcell]
            have hkp := hkG.push hoG (cellsOb [u] 23)
            obtain ⟨vs, q1, q2, q3⟩ := hown.kept hkp
            have hvl : vs.length ≤ 20 := by rw [q2, List.length_take]; omega
            refine AppD.own2 (lw := g.next) q1 (SlR.one hoG _ _) (by simp) (by simp [hcell]) (by simp; omega) (by simp [GH.push]; omega) hlo2 (by omega) (GH.ok_push hoG) (fun s' g5 lo5 sp wr hgr5 hlo5 => ?_)
            simp +decide (disch := first | assumption | (apply GH.ok_push; assumption) | exact cellV_int _ _ | exact cellV_bool _ | omega) only [go_sem, ↓reduceIte, Nat.reduceEqDiff, Nat.reduceAdd, Int.reduceToNat, he2]
            refine ih (m - 1) _ _ _ (by omega) ⟨hlo5, (hk.trans hkp).grew2 hgr5 (Nat.le_refl _), i + 1, by omega, (by simp +decide (disch := first | assumption | (apply GH.ok_push; assumption) | exact cellV_int _ _ | exact cellV_bool _ | omega) only [go_sem, ↓reduceIte, Nat.reduceEqDiff, Nat.reduceAdd, Int.reduceToNat, he2]; first | done | exact rfl), s', (by simp +decide (disch := first | assumption | (apply GH.ok_push; assumption) | exact cellV_int _ _ | exact cellV_bool _ | omega) only [go_sem, ↓reduceIte, Nat.reduceEqDiff, Nat.reduceAdd, Int.reduceToNat]; first | done | exact rfl), ?_⟩
            rw [show (rnT T O).take (i + 1) = (rnT T O).take i ++ [rnR T O r] from map_take_snoc _ O i r hOi]
            exact Own2.grew q2 q3 (hu.push hoG _) hgr5
          · rintro m2 e2 G lo2 hoG hlG ih2 out2 ⟨hlo2, hkG, k, hkm, he2, u, h8, hu⟩
            have hnG := hkG.next
            by_cases ck : k < T.length
            · have ck' : (k : Int) < T.length := by omega
              obtain ⟨c, hc, hcn⟩ := og k ck
              have hOk' := getD_get (0 : Int) (show k < O.length by omega)
              rw [hc] at hOk'
              have hkk := (hk2.trans hk).trans hkG
              obtain ⟨j1, p1, hj1, hp1, hp2⟩ := (hs.kept hkk).ptr (ints_get (D := O) (i := i) (by omega))
              have hp1 := hp1 (i : Int) rfl
              rw [hr] at hp2
              obtain ⟨j2, p2, hj2, hq1, hq2⟩ := (hs.kept hkk).ptr (ints_get (D := O) (i := k) (by omega))
              have hq1 := hq1 (k : Int) rfl
              rw [hc] at hq2
              obtain ⟨w, j3, p3, hj3, ha1, ha2, hw⟩ := (ht.kept hkk).ptr hrn
              have ha1 := ha1 (r : Int) rfl
              obtain ⟨j4, p4, hj4, hb1, hb2⟩ := hw.ptr (ints_get (D := T.getD r []) (i := c) (by rw [hRl]; exact hcn))
              have hb1 := hb1 (c : Int) rfl
              simp +decide (disch := first | assumption | exact cellV_int _ _ | exact cellV_bool _ | omega | (simp only [GH.pn, GH.sn] <;> omega) | (with_reducible ((repeat (first | apply GH.ok_push | apply GH.ok_set)); assumption)) | ((try simp only [GH.push_hid, GH.set_hid]); first | assumption | (refine GH.vis ?_ ?_ <;> first | assumption | ((try simp only [GH.pn, GH.sn]) <;> omega)))) only [go_sem, ↓reduceIte, Nat.reduceEqDiff, Nat.reduceAdd, Int.reduceToNat, Int.reduceAdd, Int.reduceNeg, Int.reduceSub, Int.reduceMul, Int.reduceLT, Int.reduceLE, Int.reduceEq, ↓GH.gp_eq, ↓GH.gp_ne, ↓GH.gs_eq, ↓GH.gs_ne, GH.push_next, GH.set_next, he2, h8, hlt, ck', hp1, hp2, hq1, hq2, ha1, ha2, hb1, hb2]
              refine AppD.own2 (lw := g.next) (hu.push hoG _) (SlR.one hoG _ _) (by simp) rfl (by simp [ints_len]; omega) (by simp [GH.push]; omega) hlo2 (by omega) (GH.ok_push hoG) (fun s' g5 lo5 sp wr hgr5 hlo5 => ?_)
              simp +decide (disch := first | assumption | (apply GH.ok_push; assumption) | exact cellV_int _ _ | exact cellV_bool _ | omega) only [go_sem, ↓reduceIte, Nat.reduceEqDiff, Nat.reduceAdd, Int.reduceToNat, he2]
              refine ih2 (m2 - 1) _ _ _ (by omega) ⟨hlo5, (hkG.push hoG _).grew2 hgr5 (Nat.le_refl _), k + 1, by omega, (by simp +decide (disch := first | assumption | (apply GH.ok_push; assumption) | exact cellV_int _ _ | exact cellV_bool _ | omega) only [go_sem, ↓reduceIte, Nat.reduceEqDiff, Nat.reduceAdd, Int.reduceToNat, he2]; first | done | exact rfl), s', (by simp +decide (disch := first | assumption | (apply GH.ok_push; assumption) | exact cellV_int _ _ | exact cellV_bool _ | omega) only [go_sem, ↓reduceIte, Nat.reduceEqDiff, Nat.reduceAdd, Int.reduceToNat]; first | done | exact rfl), ?_⟩
              rw [show (rnR T O r).take (k + 1) = (rnR T O r).take k ++ [te T (r : Int).toNat (c : Int).toNat] from map_take_snoc _ O k c hOk', ints_app, Int.toNat_natCast, Int.toNat_natCast]
              exact hgr5.own
            · have ck' : ¬ (k : Int) < T.length := by omega
              simp +decide (disch := first | assumption | exact cellV_int _ _ | exact cellV_bool _ | omega | (simp only [GH.pn, GH.sn] <;> omega) | (with_reducible ((repeat (first | apply GH.ok_push | apply GH.ok_set)); assumption)) | ((try simp only [GH.push_hid, GH.set_hid]); first | assumption | (refine GH.vis ?_ ?_ <;> first | assumption | ((try simp only [GH.pn, GH.sn]) <;> omega)))) only [go_sem, ↓reduceIte, Nat.reduceEqDiff, Nat.reduceAdd, Int.reduceToNat, Int.reduceAdd, Int.reduceNeg, Int.reduceSub, Int.reduceMul, Int.reduceLT, Int.reduceLE, Int.reduceEq, ↓GH.gp_eq, ↓GH.gp_ne, ↓GH.gs_eq, ↓GH.gs_ne, GH.push_next, GH.set_next, he2, h8, hlt, ck']
              rw [List.take_of_length_le (by simp [rnR]; omega)] at hu
              exact out2 _ _ _ ⟨hlo2, hkG, (by simp +decide (disch := first | assumption | (apply GH.ok_push; assumption) | exact cellV_int _ _ | exact cellV_bool _ | omega) only [go_sem, ↓reduceIte, Nat.reduceEqDiff, Nat.reduceAdd, Int.reduceToNat, he2]; first | done | exact rfl), u, (by simp +decide (disch := first | assumption | (apply GH.ok_push; assumption) | exact cellV_int _ _ | exact cellV_bool _ | omega) only [go_sem, ↓reduceIte, Nat.reduceEqDiff, Nat.reduceAdd, Int.reduceToNat, h8]; first | done | exact rfl), hu.read⟩
        · have ci' : ¬ (i : Int) < T.length := by omega
          rw [List.take_of_length_le (by simp [rnT]; omega)] at hown
          simp +decide (disch := first | assumption | (apply GH.ok_push; assumption) | exact cellV_int _ _ | exact cellV_bool _ | omega) only [go_sem, ↓reduceIte, Nat.reduceEqDiff, Nat.reduceAdd, Int.reduceToNat, he, h6, hlt, ci']
          exact out _ _ _ ⟨hlo, o, (by simp +decide (disch := first | assumption | (apply GH.ok_push; assumption) | exact cellV_int _ _ | exact cellV_bool _ | omega) only [go_sem, ↓reduceIte, Nat.reduceEqDiff, Nat.reduceAdd, Int.reduceToNat, h6]; first | done | exact rfl), hown.read⟩
end Go.Proofs.YtngmaccaldhjcaaDoor
set_option maxRecDepth 100000
set_option maxHeartbeats 4000000
set_option linter.unusedSimpArgs false
set_option linter.unusedVariables false
namespace Go.Proofs.YtngmaccaldhjcaaDoor
open Go.Ds
theorem Renamed_rets {X : Caller} (hX : Xok X) (T : List (List Int)) (hF : Few T) (O : List Int) (hO : O.length < 1000000) (t s : Value) (g : GH) (ht : Sl2 g t T) (hs : SlR g s (ints O)) :
    Rets Tryd.prog X 38 [t, s] g (fun v g' lo => g.next ≤ lo ∧ RnP T O v g') := by
  have hlt := ht.len
  have hls := hs.len
  rw [ints_len] at hls
  refine Rets.run hX.pres p38 (hX.free 38 (by decide) _ _) rfl fun ho => ?_
  simp +decide (disch := first | assumption | exact cellV_int _ _ | exact cellV_bool _ | omega | (simp only [GH.pn, GH.sn] <;> omega) | (with_reducible ((repeat (first | apply GH.ok_push | apply GH.ok_set)); assumption)) | ((try simp only [GH.push_hid, GH.set_hid]); first | assumption | (refine GH.vis ?_ ?_ <;> first | assumption | ((try simp only [GH.pn, GH.sn]) <;> omega)))) only [go_sem, ↓reduceIte, Nat.reduceEqDiff, Nat.reduceAdd, Int.reduceToNat, Int.reduceAdd, Int.reduceNeg, Int.reduceSub, Int.reduceMul, Int.reduceLT, Int.reduceLE, Int.reduceEq, ↓GH.gp_eq, ↓GH.gp_ne, ↓GH.gs_eq, ↓GH.gs_ne, GH.push_next, GH.set_next]
  refine CallD.calm (isTable_rets hX T hF.2 t g ht hF.1) ?_
  rintro v g1 hx1 rfl
  have hn1 := hx1.next
  have hok1 := hx1.ok ho
  have hk1 := (Kept.refl g).ext hx1
  cases hT : tabB T with
  | false =>
    simp +decide (disch := first | assumption | exact cellV_int _ _ | exact cellV_bool _ | omega | (simp only [GH.pn, GH.sn] <;> omega) | (with_reducible ((repeat (first | apply GH.ok_push | apply GH.ok_set)); assumption)) | ((try simp only [GH.push_hid, GH.set_hid]); first | assumption | (refine GH.vis ?_ ?_ <;> first | assumption | ((try simp only [GH.pn, GH.sn]) <;> omega)))) only [go_sem, ↓reduceIte, Nat.reduceEqDiff, Nat.reduceAdd, Int.reduceToNat, Int.reduceAdd, Int.reduceNeg, Int.reduceSub, Int.reduceMul, Int.reduceLT, Int.reduceLE, Int.reduceEq, ↓GH.gp_eq, ↓GH.gp_ne, ↓GH.gs_eq, ↓GH.gs_ne, GH.push_next, GH.set_next]
    intro hx0
    exact ⟨by omega, RnP.bad (by unfold rnOk; rw [hT]; rfl)⟩
  | true =>
    obtain ⟨t1, t2, t3⟩ := tab_len hT
    simp +decide (disch := first | assumption | exact cellV_int _ _ | exact cellV_bool _ | omega | (simp only [GH.pn, GH.sn] <;> omega) | (with_reducible ((repeat (first | apply GH.ok_push | apply GH.ok_set)); assumption)) | ((try simp only [GH.push_hid, GH.set_hid]); first | assumption | (refine GH.vis ?_ ?_ <;> first | assumption | ((try simp only [GH.pn, GH.sn]) <;> omega)))) only [go_sem, ↓reduceIte, Nat.reduceEqDiff, Nat.reduceAdd, Int.reduceToNat, Int.reduceAdd, Int.reduceNeg, Int.reduceSub, Int.reduceMul, Int.reduceLT, Int.reduceLE, Int.reduceEq, ↓GH.gp_eq, ↓GH.gp_ne, ↓GH.gs_eq, ↓GH.gs_ne, GH.push_next, GH.set_next, hlt]
    refine CallD.calm (isOrder_rets hX O T.length t2 hO s g1 (hs.kept hk1)) ?_
    rintro v g2 hx2 rfl
    have hn2 := hx2.next
    have hok2 := hx2.ok hok1
    have hk2 := hk1.ext hx2
    cases hB : ordB T.length O with
    | false =>
      simp +decide (disch := first | assumption | exact cellV_int _ _ | exact cellV_bool _ | omega | (simp only [GH.pn, GH.sn] <;> omega) | (with_reducible ((repeat (first | apply GH.ok_push | apply GH.ok_set)); assumption)) | ((try simp only [GH.push_hid, GH.set_hid]); first | assumption | (refine GH.vis ?_ ?_ <;> first | assumption | ((try simp only [GH.pn, GH.sn]) <;> omega)))) only [go_sem, ↓reduceIte, Nat.reduceEqDiff, Nat.reduceAdd, Int.reduceToNat, Int.reduceAdd, Int.reduceNeg, Int.reduceSub, Int.reduceMul, Int.reduceLT, Int.reduceLE, Int.reduceEq, ↓GH.gp_eq, ↓GH.gp_ne, ↓GH.gs_eq, ↓GH.gs_ne, GH.push_next, GH.set_next]
      intro hx0
      exact ⟨by omega, RnP.bad (by unfold rnOk; rw [hB]; simp)⟩
    | true =>
      have hOk : rnOk T O = true := by unfold rnOk; rw [hT, hB]; rfl
      obtain ⟨ol, og⟩ := ord_facts t1 t2 hB
      simp +decide (disch := first | assumption | exact cellV_int _ _ | exact cellV_bool _ | omega | (simp only [GH.pn, GH.sn] <;> omega) | (with_reducible ((repeat (first | apply GH.ok_push | apply GH.ok_set)); assumption)) | ((try simp only [GH.push_hid, GH.set_hid]); first | assumption | (refine GH.vis ?_ ?_ <;> first | assumption | ((try simp only [GH.pn, GH.sn]) <;> omega)))) only [go_sem, ↓reduceIte, Nat.reduceEqDiff, Nat.reduceAdd, Int.reduceToNat, Int.reduceAdd, Int.reduceNeg, Int.reduceSub, Int.reduceMul, Int.reduceLT, Int.reduceLE, Int.reduceEq, ↓GH.gp_eq, ↓GH.gp_ne, ↓GH.gs_eq, ↓GH.gs_ne, GH.push_next, GH.set_next, hlt]
      refine Wk.mkslice (n := T.length) (c := T.length) (by simp +decide (disch := first | assumption | (apply GH.ok_push; assumption) | exact cellV_int _ _ | exact cellV_bool _ | omega) only [go_sem, ↓reduceIte, Nat.reduceEqDiff, Nat.reduceAdd, Int.reduceToNat, hlt]; first | done | exact rfl) (by simp +decide (disch := first | assumption | (apply GH.ok_push; assumption) | exact cellV_int _ _ | exact cellV_bool _ | omega) only [go_sem, ↓reduceIte, Nat.reduceEqDiff, Nat.reduceAdd, Int.reduceToNat, hlt]; first | done | exact rfl) (Nat.le_refl _) (by omega) ?_
      rw [repeatN_replicate]
      have hJ : (g2.push (cellsOb (List.replicate T.length (.slice none 0 0)) 23)).get g2.next = cellsOb (List.replicate T.length (.slice none 0 0)) 23 := by rw [GH.gp_eq hok2 rfl]
      simp +decide (disch := first | assumption | exact cellV_int _ _ | exact cellV_bool _ | omega | (simp only [GH.pn, GH.sn] <;> omega) | (with_reducible ((repeat (first | apply GH.ok_push | apply GH.ok_set)); assumption)) | ((try simp only [GH.push_hid, GH.set_hid]); first | assumption | (refine GH.vis ?_ ?_ <;> first | assumption | ((try simp only [GH.pn, GH.sn]) <;> omega)))) only [go_sem, ↓reduceIte, Nat.reduceEqDiff, Nat.reduceAdd, Int.reduceToNat, Int.reduceAdd, Int.reduceNeg, Int.reduceSub, Int.reduceMul, Int.reduceLT, Int.reduceLE, Int.reduceEq, ↓GH.gp_eq, ↓GH.gp_ne, ↓GH.gs_eq, ↓GH.gs_ne, GH.push_next, GH.set_next, hls]
      refine Wk.loops (fun m e g' lo => g.next ≤ lo ∧ Kept g2 g' ∧ g2.next < g'.next ∧ ∃ (i : Nat) (vs : List Value), i + m = T.length ∧ (ev e (.s 0) = t ∧ ev e (.s 1) = s ∧ ev e (.s 6) = .slice (some ⟨g2.next, 0, none⟩) T.length T.length ∧ ev e (.s 24) = s ∧ ev e (.s 25) = .int .i64 (O.length : Int) ∧ ev e (.s 26) = .int .i64 i) ∧ g'.get g2.next = cellsOb vs 23 ∧ vs.length = T.length ∧ (∀ k v M, k < i → vs[k]? = some v → (rnT T O)[k]? = some M → SlR g' v (ints M) ∧ AwayB v g2.next) ∧ (∀ k, i ≤ k → k < T.length → vs[k]? = some (.slice none 0 0)))
        (fun e g' lo => g.next ≤ lo ∧ Kept g2 g' ∧ ev e (.s 6) = .slice (some ⟨g2.next, 0, none⟩) T.length T.length ∧ Sl2 g' (.slice (some ⟨g2.next, 0, none⟩) T.length T.length) (rnT T O)) (n := T.length) ?_ ?_ ?_
      · exact ⟨by omega, (Kept.refl _).push hok2 _, Nat.lt_succ_self _, 0, _, by omega, (by simp +decide (disch := first | assumption | (apply GH.ok_push; assumption) | exact cellV_int _ _ | exact cellV_bool _ | omega) only [go_sem, ↓reduceIte, Nat.reduceEqDiff, Nat.reduceAdd, Int.reduceToNat]; first | done | exact rfl), hJ, by simp, fun k v R h => by omega, fun k _ hk => by rw [List.getElem?_replicate, if_pos hk]⟩
      · rintro e g' lo ho' - ⟨hlo, hk, he, hsl⟩
        simp +decide (disch := first | assumption | exact cellV_int _ _ | exact cellV_bool _ | omega | (simp only [GH.pn, GH.sn] <;> omega) | (with_reducible ((repeat (first | apply GH.ok_push | apply GH.ok_set)); assumption)) | ((try simp only [GH.push_hid, GH.set_hid]); first | assumption | (refine GH.vis ?_ ?_ <;> first | assumption | ((try simp only [GH.pn, GH.sn]) <;> omega)))) only [go_sem, ↓reduceIte, Nat.reduceEqDiff, Nat.reduceAdd, Int.reduceToNat, Int.reduceAdd, Int.reduceNeg, Int.reduceSub, Int.reduceMul, Int.reduceLT, Int.reduceLE, Int.reduceEq, ↓GH.gp_eq, ↓GH.gp_ne, ↓GH.gs_eq, ↓GH.gs_ne, GH.push_next, GH.set_next, he]
        intro hx0
        exact ⟨hlo, RnP.good hOk hsl⟩
      · rintro m e g' lo ho' hl' ih out ⟨hlo, hk, hj0, i, vs, hi, he, hget, hvl, hrows, hnil⟩
        have hkn := hk.next
        by_cases ci : i < T.length
        · have ci' : (i : Int) < O.length := by omega
          obtain ⟨r, hr, hrn⟩ := og i ci
          have hOi := getD_get (0 : Int) (show i < O.length by omega)
          rw [hr] at hOi
          have hTr := getD_get [] hrn
          have hRl := (t3 _ (List.mem_of_getElem? hTr)).1
          obtain ⟨j1, p1, hj1, hp1, hp2⟩ := ((hs.kept hk2).kept hk).ptr (ints_get (D := O) (i := i) (by omega))
          have hp1 := hp1 (i : Int) rfl
          rw [hr] at hp2
          have hia := iaddrS_at (j := g2.next) (n := T.length) (c := T.length) (m := i) (x := (i : Int)) rfl ci
          simp +decide (disch := first | assumption | exact cellV_int _ _ | exact cellV_bool _ | omega | (simp only [GH.pn, GH.sn] <;> omega) | (with_reducible ((repeat (first | apply GH.ok_push | apply GH.ok_set)); assumption)) | ((try simp only [GH.push_hid, GH.set_hid]); first | assumption | (refine GH.vis ?_ ?_ <;> first | assumption | ((try simp only [GH.pn, GH.sn]) <;> omega)))) only [go_sem, ↓reduceIte, Nat.reduceEqDiff, Nat.reduceAdd, Int.reduceToNat, Int.reduceAdd, Int.reduceNeg, Int.reduceSub, Int.reduceMul, Int.reduceLT, Int.reduceLE, Int.reduceEq, ↓GH.gp_eq, ↓GH.gp_ne, ↓GH.gs_eq, ↓GH.gs_ne, GH.push_next, GH.set_next, he, hls, ci', hp1, hp2]
          refine Wk.loops (fun m2 e2 G lo2 => g.next ≤ lo2 ∧ Kept g2 G ∧ g'.next ≤ G.next ∧ (∀ j, j < g'.next → j ≠ g2.next → G.get j = g'.get j) ∧ ∃ k : Nat, k + m2 = T.length ∧ (ev e2 (.s 0) = t ∧ ev e2 (.s 1) = s ∧ ev e2 (.s 6) = .slice (some ⟨g2.next, 0, none⟩) T.length T.length ∧ ev e2 (.s 7) = .int .i64 i ∧ ev e2 (.s 8) = .int .i64 r ∧ ev e2 (.s 24) = s ∧ ev e2 (.s 25) = .int .i64 (O.length : Int) ∧ ev e2 (.s 26) = .int .i64 i ∧ ev e2 (.s 31) = s ∧ ev e2 (.s 32) = .int .i64 (O.length : Int) ∧ ev e2 (.s 33) = .int .i64 k) ∧ ∃ u, G.get g2.next = cellsOb (vs.set i u) 23 ∧ Own G u (ints ((rnR T O r).take k)) 3 g'.next)
            (fun e2 G lo2 => g.next ≤ lo2 ∧ Kept g2 G ∧ g'.next ≤ G.next ∧ (∀ j, j < g'.next → j ≠ g2.next → G.get j = g'.get j) ∧ (ev e2 (.s 0) = t ∧ ev e2 (.s 1) = s ∧ ev e2 (.s 6) = .slice (some ⟨g2.next, 0, none⟩) T.length T.length ∧ ev e2 (.s 24) = s ∧ ev e2 (.s 25) = .int .i64 (O.length : Int) ∧ ev e2 (.s 26) = .int .i64 i) ∧ ∃ u, G.get g2.next = cellsOb (vs.set i u) 23 ∧ Own G u (ints (rnR T O r)) 3 g'.next) (n := T.length) ?_ ?_ ?_
          · exact ⟨hlo, hk, Nat.le_refl _, fun _ _ _ => rfl, 0, by omega, (by simp +decide (disch := first | assumption | (apply GH.ok_push; assumption) | exact cellV_int _ _ | exact cellV_bool _ | omega) only [go_sem, ↓reduceIte, Nat.reduceEqDiff, Nat.reduceAdd, Int.reduceToNat, he, hls]; first | done | exact rfl), .slice none 0 0, by rw [set_get (hnil i (Nat.le_refl _) ci)]; exact hget, Own.nil⟩
          · rintro e2 G lo2 hoG - ⟨hlo2, hkG, hnG, hgG, he2, u, hgu, hu⟩
            simp +decide (disch := first | assumption | exact cellV_int _ _ | exact cellV_bool _ | omega | (simp only [GH.pn, GH.sn] <;> omega) | (with_reducible ((repeat (first | apply GH.ok_push | apply GH.ok_set)); assumption)) | ((try simp only [GH.push_hid, GH.set_hid]); first | assumption | (refine GH.vis ?_ ?_ <;> first | assumption | ((try simp only [GH.pn, GH.sn]) <;> omega)))) only [go_sem, ↓reduceIte, Nat.reduceEqDiff, Nat.reduceAdd, Int.reduceToNat, Int.reduceAdd, Int.reduceNeg, Int.reduceSub, Int.reduceMul, Int.reduceLT, Int.reduceLE, Int.reduceEq, ↓GH.gp_eq, ↓GH.gp_ne, ↓GH.gs_eq, ↓GH.gs_ne, GH.push_next, GH.set_next, he2]
            refine ih (m - 1) _ _ _ (by omega) ⟨hlo2, hkG, by omega, i + 1, vs.set i u, by omega, (by simp +decide (disch := first | assumption | (apply GH.ok_push; assumption) | exact cellV_int _ _ | exact cellV_bool _ | omega) only [go_sem, ↓reduceIte, Nat.reduceEqDiff, Nat.reduceAdd, Int.reduceToNat, he2]; first | done | exact rfl), hgu, by simpa using hvl, fun k v M hk' hv hM => ?_, fun k h1 h2 => ?_⟩
            · by_cases hki : k = i
              · subst hki
                rw [List.getElem?_set_self (by omega)] at hv
                cases hv
                have : (rnT T O)[k]? = some (rnR T O r) := by unfold rnT; rw [List.getElem?_map, hOi]; rfl
                rw [this] at hM
                cases hM
                exact ⟨hu.read, Own.away hu hj0⟩
              · rw [List.getElem?_set_ne (Ne.symm hki)] at hv
                obtain ⟨q1, q2⟩ := hrows k v M (by omega) hv hM
                exact ⟨q1.but q2 hnG hgG, q2⟩
            · rw [List.getElem?_set_ne (by omega)]
              exact hnil k (by omega) h2
          · rintro m2 e2 G lo2 hoG hlG ih2 out2 ⟨hlo2, hkG, hnG, hgG, k, hkm, he2, u, hgu, hu⟩
            by_cases ck : k < T.length
            · have ck' : (k : Int) < O.length := by omega
              obtain ⟨c, hc, hcn⟩ := og k ck
              have hOk' := getD_get (0 : Int) (show k < O.length by omega)
              rw [hc] at hOk'
              have hkk := hk2.trans hkG
              obtain ⟨j2, p2, hj2, hq1, hq2⟩ := (hs.kept hkk).ptr (ints_get (D := O) (i := k) (by omega))
              have hq1 := hq1 (k : Int) rfl
              rw [hc] at hq2
              obtain ⟨w, j3, p3, hj3, ha1, ha2, hw⟩ := (ht.kept hkk).ptr hrn
              have ha1 := ha1 (r : Int) rfl
              obtain ⟨j4, p4, hj4, hb1, hb2⟩ := hw.ptr (ints_get (D := T.getD r []) (i := c) (by rw [hRl]; exact hcn))
              have hb1 := hb1 (c : Int) rfl
              have hvi : (vs.set i u)[i]? = some u := List.getElem?_set_self (by omega)
              simp +decide (disch := first | assumption | exact cellV_int _ _ | exact cellV_bool _ | omega | (simp only [GH.pn, GH.sn] <;> omega) | (with_reducible ((repeat (first | apply GH.ok_push | apply GH.ok_set)); assumption)) | ((try simp only [GH.push_hid, GH.set_hid]); first | assumption | (refine GH.vis ?_ ?_ <;> first | assumption | ((try simp only [GH.pn, GH.sn]) <;> omega)))) only [go_sem, ↓reduceIte, Nat.reduceEqDiff, Nat.reduceAdd, Int.reduceToNat, Int.reduceAdd, Int.reduceNeg, Int.reduceSub, Int.reduceMul, Int.reduceLT, Int.reduceLE, Int.reduceEq, ↓GH.gp_eq, ↓GH.gp_ne, ↓GH.gs_eq, ↓GH.gs_ne, GH.push_next, GH.set_next, he2, hls, ck', hq1, hq2, ha1, ha2, hb1, hb2, hia, hgu, hvi]
              refine Wk.bsliceH (cs := #[.int .i64 (te T r c)]) (by simp [spansOf, spanAt, blt_d]) rfl (by simp only [parts_cons, parts_nil]; rw [show ev _ _ = Value.int .i64 (te T r c) from (by simp +decide (disch := first | assumption | (apply GH.ok_push; assumption) | exact cellV_int _ _ | exact cellV_bool _ | omega) only [go_sem, ↓reduceIte, Nat.reduceEqDiff, Nat.reduceAdd, Int.reduceToNat, he2]; first | done | exact rfl), bsl1 rfl]) (fun n => rfl) ?_
              simp +decide (disch := first | assumption | (apply GH.ok_push; assumption) | exact cellV_int _ _ | exact cellV_bool _ | omega) only [go_sem, ↓reduceIte, Nat.reduceEqDiff, Nat.reduceAdd, Int.reduceToNat, he2]
              have hkp := (Kept.refl G).push hoG (cellsOb [.int .i64 (te T r c)] 3)
              refine AppD.own2 (lw := g.next) (hu.kept hkp) (SlR.one hoG _ _) (by simp) rfl (by simp [ints_len]; omega) (by simp [GH.push]; omega) hlo2 (by omega) (GH.ok_push hoG) (fun s' g5 lo5 sp wr hgr5 hlo5 => ?_)
              have hn5 : g5.next = G.next + 1 + 1 := hgr5.next
              have hget5 : g5.get g2.next = cellsOb (vs.set i u) 23 := (hgr5.gets _ (by show g2.next < G.next + 1; omega)).trans ((hkp.gets _ (by omega)).trans hgu)
              have hv5 := GH.seen hget5 Nat.one_ne_zero
              have hown5 := hgr5.own
              obtain ⟨sa, sn, sc, rfl⟩ := hown5.read.slice
              have hsl5 : (vs.set i u).length = T.length := by simp [hvl]
              simp +decide (disch := first | assumption | exact cellV_int _ _ | exact cellV_bool _ | omega | (simp only [GH.pn, GH.sn] <;> omega) | (with_reducible ((repeat (first | apply GH.ok_push | apply GH.ok_set)); assumption)) | ((try simp only [GH.push_hid, GH.set_hid]); first | assumption | (refine GH.vis ?_ ?_ <;> first | assumption | ((try simp only [GH.pn, GH.sn]) <;> omega)))) only [go_sem, ↓reduceIte, Nat.reduceEqDiff, Nat.reduceAdd, Int.reduceToNat, Int.reduceAdd, Int.reduceNeg, Int.reduceSub, Int.reduceMul, Int.reduceLT, Int.reduceLE, Int.reduceEq, ↓GH.gp_eq, ↓GH.gp_ne, ↓GH.gs_eq, ↓GH.gs_ne, GH.push_next, GH.set_next, he2, hia, hget5, hsl5]
              have hsp : splice i (vs.set i u) [.slice sa sn sc] = vs.set i (.slice sa sn sc) := by rw [splice_set _ _ _ (by omega), List.set_set]
              rw [hsp]
              have hw6 := Wrote.set (o := cellsOb (vs.set i (.slice sa sn sc)) 23) hget5 Nat.one_ne_zero hgr5.ok
              have hk6 : Kept g2 (g5.set g2.next (cellsOb (vs.set i (.slice sa sn sc)) 23)) := ((hkG.trans hkp).grew2 hgr5 (by omega)).setV hv5 (Nat.le_refl _) _
              have hn6 : (g5.set g2.next (cellsOb (vs.set i (.slice sa sn sc)) 23)).next = G.next + 1 + 1 := hw6.next.trans hn5
              refine ih2 (m2 - 1) _ _ _ (by omega) ⟨by omega, hk6, by omega, fun j h1 h2 => ?_, k + 1, by omega, (by simp +decide (disch := first | assumption | (apply GH.ok_push; assumption) | exact cellV_int _ _ | exact cellV_bool _ | omega) only [go_sem, ↓reduceIte, Nat.reduceEqDiff, Nat.reduceAdd, Int.reduceToNat, he2]; first | done | exact rfl), .slice sa sn sc, hw6.get, ?_⟩
              · exact (hw6.others j h2).trans ((hgr5.gets j (by show j < G.next + 1; omega)).trans ((hkp.gets j (by omega)).trans (hgG j h1 h2)))
              · rw [show (rnR T O r).take (k + 1) = (rnR T O r).take k ++ [te T (r : Int).toNat (c : Int).toNat] from map_take_snoc _ O k c hOk', ints_app, Int.toNat_natCast, Int.toNat_natCast]
                exact hown5.but (by rw [hw6.next]; exact Nat.le_refl _) (fun j _ hb => hw6.others j (by omega)) (fun f _ => hw6.fams f)
            · have ck' : ¬ (k : Int) < O.length := by omega
              simp +decide (disch := first | assumption | exact cellV_int _ _ | exact cellV_bool _ | omega | (simp only [GH.pn, GH.sn] <;> omega) | (with_reducible ((repeat (first | apply GH.ok_push | apply GH.ok_set)); assumption)) | ((try simp only [GH.push_hid, GH.set_hid]); first | assumption | (refine GH.vis ?_ ?_ <;> first | assumption | ((try simp only [GH.pn, GH.sn]) <;> omega)))) only [go_sem, ↓reduceIte, Nat.reduceEqDiff, Nat.reduceAdd, Int.reduceToNat, Int.reduceAdd, Int.reduceNeg, Int.reduceSub, Int.reduceMul, Int.reduceLT, Int.reduceLE, Int.reduceEq, ↓GH.gp_eq, ↓GH.gp_ne, ↓GH.gs_eq, ↓GH.gs_ne, GH.push_next, GH.set_next, he2, hls, ck']
              rw [List.take_of_length_le (by simp [rnR]; omega)] at hu
              exact out2 _ _ _ ⟨hlo2, hkG, hnG, hgG, (by simp +decide (disch := first | assumption | (apply GH.ok_push; assumption) | exact cellV_int _ _ | exact cellV_bool _ | omega) only [go_sem, ↓reduceIte, Nat.reduceEqDiff, Nat.reduceAdd, Int.reduceToNat, he2]; first | done | exact rfl), u, hgu, hu⟩
        · have ci' : ¬ (i : Int) < O.length := by omega
          simp +decide (disch := first | assumption | exact cellV_int _ _ | exact cellV_bool _ | omega | (simp only [GH.pn, GH.sn] <;> omega) | (with_reducible ((repeat (first | apply GH.ok_push | apply GH.ok_set)); assumption)) | ((try simp only [GH.push_hid, GH.set_hid]); first | assumption | (refine GH.vis ?_ ?_ <;> first | assumption | ((try simp only [GH.pn, GH.sn]) <;> omega)))) only [go_sem, ↓reduceIte, Nat.reduceEqDiff, Nat.reduceAdd, Int.reduceToNat, Int.reduceAdd, Int.reduceNeg, Int.reduceSub, Int.reduceMul, Int.reduceLT, Int.reduceLE, Int.reduceEq, ↓GH.gp_eq, ↓GH.gp_ne, ↓GH.gs_eq, ↓GH.gs_ne, GH.push_next, GH.set_next, he, hls, ci']
          exact out _ _ _ ⟨hlo, hk, (by simp +decide (disch := first | assumption | (apply GH.ok_push; assumption) | exact cellV_int _ _ | exact cellV_bool _ | omega) only [go_sem, ↓reduceIte, Nat.reduceEqDiff, Nat.reduceAdd, Int.reduceToNat, he]; first | done | exact rfl), vs, SlR.whole hget hj0 hvl.symm, by simp [rnT, hvl, ol], fun k v L h1 h2 => (hrows k v L (by have := (List.getElem?_eq_some_iff.1 h1).1; omega) h1 h2).1⟩
end Go.Proofs.YtngmaccaldhjcaaDoor
set_option maxRecDepth 100000
set_option maxHeartbeats 4000000
set_option linter.unusedSimpArgs false
set_option linter.unusedVariables false
namespace Go.Proofs.YtngmaccaldhjcaaDoor
open Go.Ds
theorem few_sh {T : List (List Int)} (hF : Few T) (c b : Int) : Few (shS T c b) := by
  unfold shS
  split
  · refine ⟨by rw [shT_len]; exact hF.1, fun R hR => ?_⟩
    obtain ⟨i, hi, rfl⟩ := List.mem_iff_getElem.1 hR
    obtain ⟨R0, h1, h2⟩ := shT_get (List.getElem?_eq_getElem hi)
    rw [h2]
    have := hF.2 R0 (List.mem_of_getElem? h1)
    simpa [shR] using this
  · exact ⟨by decide, fun R hR => absurd hR List.not_mem_nil⟩
theorem few_rn (T : List (List Int)) {O : List Int} (hO : O.length < 1000000) : Few (rnS T O) := by
  unfold rnS
  split
  · refine ⟨by simpa [rnT] using hO, fun R hR => ?_⟩
    unfold rnT at hR
    obtain ⟨x, _, rfl⟩ := List.mem_map.1 hR
    simpa [rnR] using hO
  · exact ⟨by decide, fun R hR => absurd hR List.not_mem_nil⟩
theorem shiftsLaw_rets {X : Caller} (hX : Xok X) (T : List (List Int)) (c b : Int) (O : List Int) (t s : Value) (g : GH) (hT : HasTab g) (ht : Sl2 g t T) (hs : SlR g s (ints O)) :
    Rets Tryd.prog X 7 [t, .int .i64 c, .int .i64 b, s] g (fun v g' lo => g.next ≤ lo ∧ v = .bool true) := by
  have e0 : ∀ a b : Value, extF (.tuple #[a, b]) 0 = some a := fun _ _ => rfl
  have e1 : ∀ a b : Value, extF (.tuple #[a, b]) 1 = some b := fun _ _ => rfl
  have hls := hs.len
  rw [ints_len] at hls
  refine Rets.run hX.pres p7 (hX.free 7 (by decide) _ _) rfl fun ho => ?_
  simp +decide (disch := first | assumption | exact cellV_int _ _ | exact cellV_bool _ | omega | (simp only [GH.pn, GH.sn] <;> omega) | (with_reducible ((repeat (first | apply GH.ok_push | apply GH.ok_set)); assumption)) | ((try simp only [GH.push_hid, GH.set_hid]); first | assumption | (refine GH.vis ?_ ?_ <;> first | assumption | ((try simp only [GH.pn, GH.sn]) <;> omega)))) only [go_sem, ↓reduceIte, Nat.reduceEqDiff, Nat.reduceAdd, Int.reduceToNat, Int.reduceAdd, Int.reduceNeg, Int.reduceSub, Int.reduceMul, Int.reduceLT, Int.reduceLE, Int.reduceEq, ↓GH.gp_eq, ↓GH.gp_ne, ↓GH.gs_eq, ↓GH.gs_ne, GH.push_next, GH.set_next]
  refine CallD.calm (few0_rets hX T t g ht) ?_
  rintro v g1 hx1 rfl
  have hn1 := hx1.next
  have hok1 := hx1.ok ho
  have hk1 := (Kept.refl g).ext hx1
  cases hf : fewT T with
  | false =>
    simp +decide (disch := first | assumption | exact cellV_int _ _ | exact cellV_bool _ | omega | (simp only [GH.pn, GH.sn] <;> omega) | (with_reducible ((repeat (first | apply GH.ok_push | apply GH.ok_set)); assumption)) | ((try simp only [GH.push_hid, GH.set_hid]); first | assumption | (refine GH.vis ?_ ?_ <;> first | assumption | ((try simp only [GH.pn, GH.sn]) <;> omega)))) only [go_sem, ↓reduceIte, Nat.reduceEqDiff, Nat.reduceAdd, Int.reduceToNat, Int.reduceAdd, Int.reduceNeg, Int.reduceSub, Int.reduceMul, Int.reduceLT, Int.reduceLE, Int.reduceEq, ↓GH.gp_eq, ↓GH.gp_ne, ↓GH.gs_eq, ↓GH.gs_ne, GH.push_next, GH.set_next]
    refine CallD.calm (hX.alive _ (hT.kept hk1)) ?_
    rintro v g2 hx2 rfl
    have hn2 := hx2.next
    simp +decide (disch := first | assumption | exact cellV_int _ _ | exact cellV_bool _ | omega | (simp only [GH.pn, GH.sn] <;> omega) | (with_reducible ((repeat (first | apply GH.ok_push | apply GH.ok_set)); assumption)) | ((try simp only [GH.push_hid, GH.set_hid]); first | assumption | (refine GH.vis ?_ ?_ <;> first | assumption | ((try simp only [GH.pn, GH.sn]) <;> omega)))) only [go_sem, ↓reduceIte, Nat.reduceEqDiff, Nat.reduceAdd, Int.reduceToNat, Int.reduceAdd, Int.reduceNeg, Int.reduceSub, Int.reduceMul, Int.reduceLT, Int.reduceLE, Int.reduceEq, ↓GH.gp_eq, ↓GH.gp_ne, ↓GH.gs_eq, ↓GH.gs_ne, GH.push_next, GH.set_next]
    intro hx0
    exact ⟨by omega, rfl⟩
  | true =>
    have hF := fewT_Few hf
    by_cases q : (20 : Int) < O.length
    · simp +decide (disch := first | assumption | exact cellV_int _ _ | exact cellV_bool _ | omega | (simp only [GH.pn, GH.sn] <;> omega) | (with_reducible ((repeat (first | apply GH.ok_push | apply GH.ok_set)); assumption)) | ((try simp only [GH.push_hid, GH.set_hid]); first | assumption | (refine GH.vis ?_ ?_ <;> first | assumption | ((try simp only [GH.pn, GH.sn]) <;> omega)))) only [go_sem, ↓reduceIte, Nat.reduceEqDiff, Nat.reduceAdd, Int.reduceToNat, Int.reduceAdd, Int.reduceNeg, Int.reduceSub, Int.reduceMul, Int.reduceLT, Int.reduceLE, Int.reduceEq, ↓GH.gp_eq, ↓GH.gp_ne, ↓GH.gs_eq, ↓GH.gs_ne, GH.push_next, GH.set_next, hls, q]
      refine CallD.calm (hX.alive _ (hT.kept hk1)) ?_
      rintro v g2 hx2 rfl
      have hn2 := hx2.next
      simp +decide (disch := first | assumption | exact cellV_int _ _ | exact cellV_bool _ | omega | (simp only [GH.pn, GH.sn] <;> omega) | (with_reducible ((repeat (first | apply GH.ok_push | apply GH.ok_set)); assumption)) | ((try simp only [GH.push_hid, GH.set_hid]); first | assumption | (refine GH.vis ?_ ?_ <;> first | assumption | ((try simp only [GH.pn, GH.sn]) <;> omega)))) only [go_sem, ↓reduceIte, Nat.reduceEqDiff, Nat.reduceAdd, Int.reduceToNat, Int.reduceAdd, Int.reduceNeg, Int.reduceSub, Int.reduceMul, Int.reduceLT, Int.reduceLE, Int.reduceEq, ↓GH.gp_eq, ↓GH.gp_ne, ↓GH.gs_eq, ↓GH.gs_ne, GH.push_next, GH.set_next]
      intro hx0
      exact ⟨by omega, rfl⟩
    · have hO : O.length < 1000000 := by omega
      have hS := few_sh hF c b
      have hR := few_rn T hO
      simp +decide (disch := first | assumption | exact cellV_int _ _ | exact cellV_bool _ | omega | (simp only [GH.pn, GH.sn] <;> omega) | (with_reducible ((repeat (first | apply GH.ok_push | apply GH.ok_set)); assumption)) | ((try simp only [GH.push_hid, GH.set_hid]); first | assumption | (refine GH.vis ?_ ?_ <;> first | assumption | ((try simp only [GH.pn, GH.sn]) <;> omega)))) only [go_sem, ↓reduceIte, Nat.reduceEqDiff, Nat.reduceAdd, Int.reduceToNat, Int.reduceAdd, Int.reduceNeg, Int.reduceSub, Int.reduceMul, Int.reduceLT, Int.reduceLE, Int.reduceEq, ↓GH.gp_eq, ↓GH.gp_ne, ↓GH.gs_eq, ↓GH.gs_ne, GH.push_next, GH.set_next, hls, q]
      refine CallD.calm (own_rets hX T hf t g1 (ht.kept hk1)) ?_
      rintro u g2 hx2 hu2
      have hn2 := hx2.next
      have hok2 := hx2.ok hok1
      have hk2 := hk1.ext hx2
      simp +decide (disch := first | assumption | exact cellV_int _ _ | exact cellV_bool _ | omega | (simp only [GH.pn, GH.sn] <;> omega) | (with_reducible ((repeat (first | apply GH.ok_push | apply GH.ok_set)); assumption)) | ((try simp only [GH.push_hid, GH.set_hid]); first | assumption | (refine GH.vis ?_ ?_ <;> first | assumption | ((try simp only [GH.pn, GH.sn]) <;> omega)))) only [go_sem, ↓reduceIte, Nat.reduceEqDiff, Nat.reduceAdd, Int.reduceToNat, Int.reduceAdd, Int.reduceNeg, Int.reduceSub, Int.reduceMul, Int.reduceLT, Int.reduceLE, Int.reduceEq, ↓GH.gp_eq, ↓GH.gp_ne, ↓GH.gs_eq, ↓GH.gs_ne, GH.push_next, GH.set_next]
      refine CallD.calm (Shifted_rets hX T hF c b u g2 hu2) ?_
      rintro v g3 hx3 ⟨o3, rfl, ho3⟩
      have hn3 := hx3.next
      have hok3 := hx3.ok hok2
      have hk3 := hk2.ext hx3
      have hu3 := hu2.ext hx3
      simp +decide (disch := first | assumption | exact cellV_int _ _ | exact cellV_bool _ | omega | (simp only [GH.pn, GH.sn] <;> omega) | (with_reducible ((repeat (first | apply GH.ok_push | apply GH.ok_set)); assumption)) | ((try simp only [GH.push_hid, GH.set_hid]); first | assumption | (refine GH.vis ?_ ?_ <;> first | assumption | ((try simp only [GH.pn, GH.sn]) <;> omega)))) only [go_sem, ↓reduceIte, Nat.reduceEqDiff, Nat.reduceAdd, Int.reduceToNat, Int.reduceAdd, Int.reduceNeg, Int.reduceSub, Int.reduceMul, Int.reduceLT, Int.reduceLE, Int.reduceEq, ↓GH.gp_eq, ↓GH.gp_ne, ↓GH.gs_eq, ↓GH.gs_ne, GH.push_next, GH.set_next, e0, e1]
      refine CallD.calm (refShifted_rets hX T hF c b t g3 (ht.kept hk3)) ?_
      rintro v g4 hx4 ⟨o4, rfl, ho4⟩
      have hn4 := hx4.next
      have hok4 := hx4.ok hok3
      have hk4 := hk3.ext hx4
      have hu4 := hu3.ext hx4
      simp +decide (disch := first | assumption | exact cellV_int _ _ | exact cellV_bool _ | omega | (simp only [GH.pn, GH.sn] <;> omega) | (with_reducible ((repeat (first | apply GH.ok_push | apply GH.ok_set)); assumption)) | ((try simp only [GH.push_hid, GH.set_hid]); first | assumption | (refine GH.vis ?_ ?_ <;> first | assumption | ((try simp only [GH.pn, GH.sn]) <;> omega)))) only [go_sem, ↓reduceIte, Nat.reduceEqDiff, Nat.reduceAdd, Int.reduceToNat, Int.reduceAdd, Int.reduceNeg, Int.reduceSub, Int.reduceMul, Int.reduceLT, Int.reduceLE, Int.reduceEq, ↓GH.gp_eq, ↓GH.gp_ne, ↓GH.gs_eq, ↓GH.gs_ne, GH.push_next, GH.set_next, e0, e1]
      refine CallD.calm (rows_rets hX _ _ hS.1 hS.1 hS.2 hS.2 o3 o4 g4 (ho3.ext hx4) ho4) ?_
      rintro v g5 hx5 rfl
      have hn5 := hx5.next
      have hok5 := hx5.ok hok4
      have hk5 := hk4.ext hx5
      have hu5 := hu4.ext hx5
      rw [decide_eq_true rfl]
      simp +decide (disch := first | assumption | exact cellV_int _ _ | exact cellV_bool _ | omega | (simp only [GH.pn, GH.sn] <;> omega) | (with_reducible ((repeat (first | apply GH.ok_push | apply GH.ok_set)); assumption)) | ((try simp only [GH.push_hid, GH.set_hid]); first | assumption | (refine GH.vis ?_ ?_ <;> first | assumption | ((try simp only [GH.pn, GH.sn]) <;> omega)))) only [go_sem, ↓reduceIte, Nat.reduceEqDiff, Nat.reduceAdd, Int.reduceToNat, Int.reduceAdd, Int.reduceNeg, Int.reduceSub, Int.reduceMul, Int.reduceLT, Int.reduceLE, Int.reduceEq, ↓GH.gp_eq, ↓GH.gp_ne, ↓GH.gs_eq, ↓GH.gs_ne, GH.push_next, GH.set_next]
      refine CallD.calm (Renamed_rets hX T hF O hO u s g5 hu5 (hs.kept hk5)) ?_
      rintro v g6 hx6 ⟨o6, rfl, ho6⟩
      have hn6 := hx6.next
      have hok6 := hx6.ok hok5
      have hk6 := hk5.ext hx6
      have hu6 := hu5.ext hx6
      simp +decide (disch := first | assumption | exact cellV_int _ _ | exact cellV_bool _ | omega | (simp only [GH.pn, GH.sn] <;> omega) | (with_reducible ((repeat (first | apply GH.ok_push | apply GH.ok_set)); assumption)) | ((try simp only [GH.push_hid, GH.set_hid]); first | assumption | (refine GH.vis ?_ ?_ <;> first | assumption | ((try simp only [GH.pn, GH.sn]) <;> omega)))) only [go_sem, ↓reduceIte, Nat.reduceEqDiff, Nat.reduceAdd, Int.reduceToNat, Int.reduceAdd, Int.reduceNeg, Int.reduceSub, Int.reduceMul, Int.reduceLT, Int.reduceLE, Int.reduceEq, ↓GH.gp_eq, ↓GH.gp_ne, ↓GH.gs_eq, ↓GH.gs_ne, GH.push_next, GH.set_next, e0, e1]
      refine CallD.calm (refRenamed_rets hX T hF O hO t s g6 (ht.kept hk6) (hs.kept hk6)) ?_
      rintro v g7 hx7 ⟨o7, rfl, ho7⟩
      have hn7 := hx7.next
      have hok7 := hx7.ok hok6
      have hk7 := hk6.ext hx7
      have hu7 := hu6.ext hx7
      simp +decide (disch := first | assumption | exact cellV_int _ _ | exact cellV_bool _ | omega | (simp only [GH.pn, GH.sn] <;> omega) | (with_reducible ((repeat (first | apply GH.ok_push | apply GH.ok_set)); assumption)) | ((try simp only [GH.push_hid, GH.set_hid]); first | assumption | (refine GH.vis ?_ ?_ <;> first | assumption | ((try simp only [GH.pn, GH.sn]) <;> omega)))) only [go_sem, ↓reduceIte, Nat.reduceEqDiff, Nat.reduceAdd, Int.reduceToNat, Int.reduceAdd, Int.reduceNeg, Int.reduceSub, Int.reduceMul, Int.reduceLT, Int.reduceLE, Int.reduceEq, ↓GH.gp_eq, ↓GH.gp_ne, ↓GH.gs_eq, ↓GH.gs_ne, GH.push_next, GH.set_next, e0, e1]
      refine CallD.calm (rows_rets hX _ _ hR.1 hR.1 hR.2 hR.2 o6 o7 g7 (ho6.ext hx7) ho7) ?_
      rintro v g8 hx8 rfl
      have hn8 := hx8.next
      have hk8 := hk7.ext hx8
      have hu8 := hu7.ext hx8
      rw [decide_eq_true rfl]
      simp +decide (disch := first | assumption | exact cellV_int _ _ | exact cellV_bool _ | omega | (simp only [GH.pn, GH.sn] <;> omega) | (with_reducible ((repeat (first | apply GH.ok_push | apply GH.ok_set)); assumption)) | ((try simp only [GH.push_hid, GH.set_hid]); first | assumption | (refine GH.vis ?_ ?_ <;> first | assumption | ((try simp only [GH.pn, GH.sn]) <;> omega)))) only [go_sem, ↓reduceIte, Nat.reduceEqDiff, Nat.reduceAdd, Int.reduceToNat, Int.reduceAdd, Int.reduceNeg, Int.reduceSub, Int.reduceMul, Int.reduceLT, Int.reduceLE, Int.reduceEq, ↓GH.gp_eq, ↓GH.gp_ne, ↓GH.gs_eq, ↓GH.gs_ne, GH.push_next, GH.set_next]
      refine CallD.calm (rows_rets hX T T hF.1 hF.1 hF.2 hF.2 u t g8 hu8 (ht.kept hk8)) ?_
      rintro v g9 hx9 rfl
      have hn9 := hx9.next
      have hk9 := hk8.ext hx9
      rw [decide_eq_true rfl]
      simp +decide (disch := first | assumption | exact cellV_int _ _ | exact cellV_bool _ | omega | (simp only [GH.pn, GH.sn] <;> omega) | (with_reducible ((repeat (first | apply GH.ok_push | apply GH.ok_set)); assumption)) | ((try simp only [GH.push_hid, GH.set_hid]); first | assumption | (refine GH.vis ?_ ?_ <;> first | assumption | ((try simp only [GH.pn, GH.sn]) <;> omega)))) only [go_sem, ↓reduceIte, Nat.reduceEqDiff, Nat.reduceAdd, Int.reduceToNat, Int.reduceAdd, Int.reduceNeg, Int.reduceSub, Int.reduceMul, Int.reduceLT, Int.reduceLE, Int.reduceEq, ↓GH.gp_eq, ↓GH.gp_ne, ↓GH.gs_eq, ↓GH.gs_ne, GH.push_next, GH.set_next]
      refine CallD.calm (hX.alive _ (hT.kept hk9)) ?_
      rintro v g10 hx10 rfl
      have hn10 := hx10.next
      simp +decide (disch := first | assumption | exact cellV_int _ _ | exact cellV_bool _ | omega | (simp only [GH.pn, GH.sn] <;> omega) | (with_reducible ((repeat (first | apply GH.ok_push | apply GH.ok_set)); assumption)) | ((try simp only [GH.push_hid, GH.set_hid]); first | assumption | (refine GH.vis ?_ ?_ <;> first | assumption | ((try simp only [GH.pn, GH.sn]) <;> omega)))) only [go_sem, ↓reduceIte, Nat.reduceEqDiff, Nat.reduceAdd, Int.reduceToNat, Int.reduceAdd, Int.reduceNeg, Int.reduceSub, Int.reduceMul, Int.reduceLT, Int.reduceLE, Int.reduceEq, ↓GH.gp_eq, ↓GH.gp_ne, ↓GH.gs_eq, ↓GH.gs_ne, GH.push_next, GH.set_next]
      intro hx0
      exact ⟨by omega, rfl⟩
end Go.Proofs.YtngmaccaldhjcaaDoor
