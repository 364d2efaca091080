import Derived.Test.YtngmaccaldhjcaaDoorJ4
import Derived.Test.YtngmaccaldhjcaaDoorDtO
set_option linter.all false
set_option linter.unusedSimpArgs false
set_option linter.unnecessarySimpa false
set_option linter.unusedVariables false
set_option linter.unusedSectionVars false
set_option maxRecDepth 100000
set_option maxHeartbeats 4000000
set_option linter.unusedSimpArgs false
set_option linter.unusedVariables false
namespace Go.Proofs.YtngmaccaldhjcaaDoor
open Go.Ds
/-- Another list was grown. -/
theorem _root_.Go.Ds.OwnE.other {g g' : GH} {s s' : Value} {vs ws : List Value} {t t' : TypeId} {base base' fam f : Nat} (h : OwnE g s vs t base f) (x : GrewE g g' s' ws t' base' fam) (h1 : f < g.next) (h2 : f ≠ fam) : OwnE g' s vs t base f :=
  h.mono (by have := x.next; omega) (fun j hj _ => x.gets j hj) fun _ => x.fams f h1 h2
theorem _root_.Go.Ds.Keeps.grewE {a g g' : GH} {s' : Value} {vs : List Value} {t : TypeId} {base fam : Nat} (h : Keeps a g) (x : GrewE g g' s' vs t base fam) : Keeps a g' :=
  h.trans ⟨by have := x.next; omega, x.gets⟩
theorem Same_rets {X : Caller} (hX : Xok X) (L : List Int) (d : Int) (M : List Int) (f : Int) (hl : L.length < 1000000) (s r : Value) (g : GH) (hs : SlR g s (ints L)) (hr : SlR g r (ints M)) :
    Rets Tryd.prog X 29 [paV s d, paV r f] g (fun v g' lo => g.next ≤ lo ∧ v = .bool (decide (L = M ∧ d = f))) := by
  have hc := hs.cell
  have hcr := hr.cell
  have hls := hs.len
  have hlr := hr.len
  rw [ints_len] at hls hlr
  unfold paV
  obtain ⟨B, hB⟩ : ∃ B, decide (L = M ∧ d = f) = B := ⟨_, rfl⟩
  rw [hB]
  refine Rets.run hX.pres p29 (hX.free 29 (by decide) _ _) rfl fun ho => ?_
  by_cases q1 : d = f
  case neg =>
    simp +decide (disch := first | assumption | exact cellV_int _ _ | exact cellV_bool _ | omega | (simp only [GH.pn, GH.sn] <;> omega) | (with_reducible ((repeat (first | apply GH.ok_push | apply GH.ok_set)); assumption)) | ((try simp only [GH.push_hid, GH.set_hid]); first | assumption | (refine GH.vis ?_ ?_ <;> first | assumption | ((try simp only [GH.pn, GH.sn]) <;> omega)))) only [go_sem, ↓reduceIte, Nat.reduceEqDiff, Nat.reduceAdd, Int.reduceToNat, Int.reduceAdd, Int.reduceNeg, Int.reduceSub, Int.reduceMul, Int.reduceLT, Int.reduceLE, Int.reduceEq, ↓GH.gp_eq, ↓GH.gp_ne, ↓GH.gs_eq, ↓GH.gs_ne, GH.push_next, GH.set_next, hc, hcr, q1]
    intro hx0
    exact ⟨by omega, by rw [← hB, decide_eq_false fun h => q1 h.2]⟩
  subst q1
  by_cases q2 : (L.length : Int) = M.length
  case neg =>
    simp +decide (disch := first | assumption | exact cellV_int _ _ | exact cellV_bool _ | omega | (simp only [GH.pn, GH.sn] <;> omega) | (with_reducible ((repeat (first | apply GH.ok_push | apply GH.ok_set)); assumption)) | ((try simp only [GH.push_hid, GH.set_hid]); first | assumption | (refine GH.vis ?_ ?_ <;> first | assumption | ((try simp only [GH.pn, GH.sn]) <;> omega)))) only [go_sem, ↓reduceIte, Nat.reduceEqDiff, Nat.reduceAdd, Int.reduceToNat, Int.reduceAdd, Int.reduceNeg, Int.reduceSub, Int.reduceMul, Int.reduceLT, Int.reduceLE, Int.reduceEq, ↓GH.gp_eq, ↓GH.gp_ne, ↓GH.gs_eq, ↓GH.gs_ne, GH.push_next, GH.set_next, hc, hcr, q2, hls, hlr]
    intro hx0
    exact ⟨by omega, by rw [← hB, decide_eq_false fun h => q2 (by rw [h.1])]⟩
  have hkS : Kept g ((g.push (cellsOb [s, .int .i64 d] 25)).push (cellsOb [r, .int .i64 d] 25)) := (by (repeat' first | exact Kept.refl _ | assumption | refine Kept.push ?_ ?_ _ | refine Kept.setV ?_ ?_ ?_ _) <;> (first | assumption | exact cellV_int _ _ | exact cellV_bool _ | omega | (simp only [GH.pn, GH.sn] <;> omega) | (with_reducible ((repeat (first | apply GH.ok_push | apply GH.ok_set)); assumption)) | ((try simp only [GH.push_hid, GH.set_hid]); first | assumption | (refine GH.vis ?_ ?_ <;> first | assumption | ((try simp only [GH.pn, GH.sn]) <;> omega)))))
  have hAS : ((g.push (cellsOb [s, .int .i64 d] 25)).push (cellsOb [r, .int .i64 d] 25)).get g.next = cellsOb [s, .int .i64 d] 25 := (by simp (disch := first | assumption | exact cellV_int _ _ | exact cellV_bool _ | omega | (simp only [GH.pn, GH.sn] <;> omega) | (with_reducible ((repeat (first | apply GH.ok_push | apply GH.ok_set)); assumption)) | ((try simp only [GH.push_hid, GH.set_hid]); first | assumption | (refine GH.vis ?_ ?_ <;> first | assumption | ((try simp only [GH.pn, GH.sn]) <;> omega)))) only [↓GH.gp_eq, ↓GH.gp_ne, ↓GH.gs_eq, ↓GH.gs_ne, GH.push_next, GH.set_next]; first | done | exact rfl)
  have hBS : ((g.push (cellsOb [s, .int .i64 d] 25)).push (cellsOb [r, .int .i64 d] 25)).get (g.next + 1) = cellsOb [r, .int .i64 d] 25 := (by simp (disch := first | assumption | exact cellV_int _ _ | exact cellV_bool _ | omega | (simp only [GH.pn, GH.sn] <;> omega) | (with_reducible ((repeat (first | apply GH.ok_push | apply GH.ok_set)); assumption)) | ((try simp only [GH.push_hid, GH.set_hid]); first | assumption | (refine GH.vis ?_ ?_ <;> first | assumption | ((try simp only [GH.pn, GH.sn]) <;> omega)))) only [↓GH.gp_eq, ↓GH.gp_ne, ↓GH.gs_eq, ↓GH.gs_ne, GH.push_next, GH.set_next]; first | done | exact rfl)
  simp +decide (disch := first | assumption | exact cellV_int _ _ | exact cellV_bool _ | omega | (simp only [GH.pn, GH.sn] <;> omega) | (with_reducible ((repeat (first | apply GH.ok_push | apply GH.ok_set)); assumption)) | ((try simp only [GH.push_hid, GH.set_hid]); first | assumption | (refine GH.vis ?_ ?_ <;> first | assumption | ((try simp only [GH.pn, GH.sn]) <;> omega)))) only [go_sem, ↓reduceIte, Nat.reduceEqDiff, Nat.reduceAdd, Int.reduceToNat, Int.reduceAdd, Int.reduceNeg, Int.reduceSub, Int.reduceMul, Int.reduceLT, Int.reduceLE, Int.reduceEq, ↓GH.gp_eq, ↓GH.gp_ne, ↓GH.gs_eq, ↓GH.gs_ne, GH.push_next, GH.set_next, hc, hcr, q2, hls, hlr]
  refine Wk.loops (fun m e g' lo => g' = ((g.push (cellsOb [s, .int .i64 d] 25)).push (cellsOb [r, .int .i64 d] 25)) ∧ g.next ≤ lo ∧ ∃ i : Nat, i + m = L.length ∧ (ev e (.s 2) = ptrTo g.next ∧ ev e (.s 3) = ptrTo (g.next + 1) ∧ ev e (.s 5) = .int .i64 i) ∧ L.take i = M.take i)
    (fun e g' lo => g.next ≤ lo ∧ L = M) (n := L.length) ?_ ?_ ?_
  · exact ⟨rfl, Nat.le_refl _, 0, by omega, (by simp +decide (disch := first | assumption | (apply GH.ok_push; assumption) | exact cellV_int _ _ | exact cellV_bool _ | omega) only [go_sem, ↓reduceIte, Nat.reduceEqDiff, Nat.reduceAdd, Int.reduceToNat]; first | done | exact rfl), rfl⟩
  · rintro e g' lo - - ⟨hlo, h⟩
    simp +decide (disch := first | assumption | exact cellV_int _ _ | exact cellV_bool _ | omega | (simp only [GH.pn, GH.sn] <;> omega) | (with_reducible ((repeat (first | apply GH.ok_push | apply GH.ok_set)); assumption)) | ((try simp only [GH.push_hid, GH.set_hid]); first | assumption | (refine GH.vis ?_ ?_ <;> first | assumption | ((try simp only [GH.pn, GH.sn]) <;> omega)))) only [go_sem, ↓reduceIte, Nat.reduceEqDiff, Nat.reduceAdd, Int.reduceToNat, Int.reduceAdd, Int.reduceNeg, Int.reduceSub, Int.reduceMul, Int.reduceLT, Int.reduceLE, Int.reduceEq, ↓GH.gp_eq, ↓GH.gp_ne, ↓GH.gs_eq, ↓GH.gs_ne, GH.push_next, GH.set_next]
    intro hx0
    exact ⟨hlo, by rw [← hB]; simp [h]⟩
  · rintro m e g' lo ho' hl' ih out ⟨hg', hlo, i, hi, he, hp⟩
    have hgn : g'.next = g.next + 1 + 1 := by rw [hg']; rfl
    rw [← hg'] at hkS hAS hBS
    by_cases ci : i < L.length
    · have ci' : (i : Int) < L.length := by omega
      obtain ⟨j1, o1, hj1, hp1, hp2⟩ := (hs.kept hkS).ptr (ints_get (D := L) (i := i) ci)
      have hp1 := hp1 (i : Int) rfl
      obtain ⟨j2, o2, hj2, hq1, hq2⟩ := (hr.kept hkS).ptr (ints_get (D := M) (i := i) (by omega))
      have hq1 := hq1 (i : Int) rfl
      have hLi := getD_get (0 : Int) ci
      have hMi := getD_get (0 : Int) (show i < M.length by omega)
      by_cases q3 : L.getD i 0 = M.getD i 0
      · simp +decide (disch := first | assumption | exact cellV_int _ _ | exact cellV_bool _ | omega | (simp only [GH.pn, GH.sn] <;> omega) | (with_reducible ((repeat (first | apply GH.ok_push | apply GH.ok_set)); assumption)) | ((try simp only [GH.push_hid, GH.set_hid]); first | assumption | (refine GH.vis ?_ ?_ <;> first | assumption | ((try simp only [GH.pn, GH.sn]) <;> omega)))) only [go_sem, ↓reduceIte, Nat.reduceEqDiff, Nat.reduceAdd, Int.reduceToNat, Int.reduceAdd, Int.reduceNeg, Int.reduceSub, Int.reduceMul, Int.reduceLT, Int.reduceLE, Int.reduceEq, ↓GH.gp_eq, ↓GH.gp_ne, ↓GH.gs_eq, ↓GH.gs_ne, GH.push_next, GH.set_next, he, hAS, hBS, hls, ci', hp1, hp2, hq1, hq2, q3]
        refine ih (m - 1) _ _ _ (by omega) ⟨hg', hlo, i + 1, by omega, (by simp +decide (disch := first | assumption | (apply GH.ok_push; assumption) | exact cellV_int _ _ | exact cellV_bool _ | omega) only [go_sem, ↓reduceIte, Nat.reduceEqDiff, Nat.reduceAdd, Int.reduceToNat, he]; first | done | exact rfl), ?_⟩
        rw [take_snoc' L i _ hLi, take_snoc' M i _ hMi, hp, q3]
      · simp +decide (disch := first | assumption | exact cellV_int _ _ | exact cellV_bool _ | omega | (simp only [GH.pn, GH.sn] <;> omega) | (with_reducible ((repeat (first | apply GH.ok_push | apply GH.ok_set)); assumption)) | ((try simp only [GH.push_hid, GH.set_hid]); first | assumption | (refine GH.vis ?_ ?_ <;> first | assumption | ((try simp only [GH.pn, GH.sn]) <;> omega)))) only [go_sem, ↓reduceIte, Nat.reduceEqDiff, Nat.reduceAdd, Int.reduceToNat, Int.reduceAdd, Int.reduceNeg, Int.reduceSub, Int.reduceMul, Int.reduceLT, Int.reduceLE, Int.reduceEq, ↓GH.gp_eq, ↓GH.gp_ne, ↓GH.gs_eq, ↓GH.gs_ne, GH.push_next, GH.set_next, he, hAS, hBS, hls, ci', hp1, hp2, hq1, hq2, q3]
        intro hx0
        exact ⟨hlo, by rw [← hB, decide_eq_false fun h => q3 (by rw [h.1])]⟩
    · have ci' : ¬ (i : Int) < L.length := by omega
      simp +decide (disch := first | assumption | exact cellV_int _ _ | exact cellV_bool _ | omega | (simp only [GH.pn, GH.sn] <;> omega) | (with_reducible ((repeat (first | apply GH.ok_push | apply GH.ok_set)); assumption)) | ((try simp only [GH.push_hid, GH.set_hid]); first | assumption | (refine GH.vis ?_ ?_ <;> first | assumption | ((try simp only [GH.pn, GH.sn]) <;> omega)))) only [go_sem, ↓reduceIte, Nat.reduceEqDiff, Nat.reduceAdd, Int.reduceToNat, Int.reduceAdd, Int.reduceNeg, Int.reduceSub, Int.reduceMul, Int.reduceLT, Int.reduceLE, Int.reduceEq, ↓GH.gp_eq, ↓GH.gp_ne, ↓GH.gs_eq, ↓GH.gs_ne, GH.push_next, GH.set_next, he, hAS, hBS, hls, ci']
      rw [List.take_of_length_le (by omega), List.take_of_length_le (by omega)] at hp
      exact out _ _ _ ⟨hlo, hp⟩
theorem Sl2.keeps {g g' : GH} {s : Value} {LL : List (List Int)} (h : Sl2 g s LL) (k : Keeps g g') : Sl2 g' s LL :=
  let ⟨vs, a, b, c⟩ := h
  ⟨vs, a.keeps k, b, fun i v L h1 h2 => (c i v L h1 h2).keeps k⟩
def rL (n : Nat) (F : Nat → Int) : List Int := (List.range n).map F
theorem rL_len (n : Nat) (F : Nat → Int) : (rL n F).length = n := by simp [rL]
theorem rL_succ (n : Nat) (F : Nat → Int) : rL (n + 1) F = rL n F ++ [F n] := by simp [rL, List.range_succ]
theorem rL_ne (n : Nat) (F : Nat → Int) (i : Nat) (h : n ≤ i → F i = 0) : ne (rL n F) i = F i := by
  unfold ne rL
  rw [List.getD_eq_getElem?_getD, List.getElem?_map]
  by_cases c : i < n
  · rw [List.getElem?_range c]; rfl
  · rw [List.getElem?_eq_none (by simp; omega), h (by omega)]; rfl
theorem ne_out {L : List Int} {i : Nat} (h : L.length ≤ i) : ne L i = 0 := by
  unfold ne
  rw [List.getD_eq_getElem?_getD, List.getElem?_eq_none h]; rfl
theorem refLimit_rets {X : Caller} (hX : Xok X) (T : List (List Int)) (hF : Few T) (L : List Int) (d : Int) (M : List Int) (f : Int) (t s r : Value) (g : GH) (ht : Sl2 g t T) (hs : SlR g s (ints L)) (hr : SlR g r (ints M)) :
    Rets Tryd.prog X 35 [t, paV s d, paV r f] g (fun v g' lo => g.next ≤ lo ∧ v = limR T L d M f) := by
  have hc := hs.cell
  have hcr := hr.cell
  unfold paV
  refine Rets.run hX.pres p35 (hX.free 35 (by decide) _ _) rfl fun ho => ?_
  have hk : Kept g ((((g.push (cellsOb [s, .int .i64 d] 25)).push (cellsOb [r, .int .i64 f] 25)).push (cellsOb [.int .i64 0, .int .i64 0] 32)).push (cellsOb [s, .int .i64 d, r, .int .i64 f] 25)) := (by (repeat' first | exact Kept.refl _ | assumption | refine Kept.push ?_ ?_ _ | refine Kept.setV ?_ ?_ ?_ _) <;> (first | assumption | exact cellV_int _ _ | exact cellV_bool _ | omega | (simp only [GH.pn, GH.sn] <;> omega) | (with_reducible ((repeat (first | apply GH.ok_push | apply GH.ok_set)); assumption)) | ((try simp only [GH.push_hid, GH.set_hid]); first | assumption | (refine GH.vis ?_ ?_ <;> first | assumption | ((try simp only [GH.pn, GH.sn]) <;> omega)))))
  have hg : ((((g.push (cellsOb [s, .int .i64 d] 25)).push (cellsOb [r, .int .i64 f] 25)).push (cellsOb [.int .i64 0, .int .i64 0] 32)).push (cellsOb [s, .int .i64 d, r, .int .i64 f] 25)).get (g.next + 1 + 1 + 1) = cellsOb [s, .int .i64 d, r, .int .i64 f] 25 := (by simp (disch := first | assumption | exact cellV_int _ _ | exact cellV_bool _ | omega | (simp only [GH.pn, GH.sn] <;> omega) | (with_reducible ((repeat (first | apply GH.ok_push | apply GH.ok_set)); assumption)) | ((try simp only [GH.push_hid, GH.set_hid]); first | assumption | (refine GH.vis ?_ ?_ <;> first | assumption | ((try simp only [GH.pn, GH.sn]) <;> omega)))) only [↓GH.gp_eq, ↓GH.gp_ne, ↓GH.gs_eq, ↓GH.gs_ne, GH.push_next, GH.set_next]; first | done | exact rfl)
  have hA : ((((g.push (cellsOb [s, .int .i64 d] 25)).push (cellsOb [r, .int .i64 f] 25)).push (cellsOb [.int .i64 0, .int .i64 0] 32)).push (cellsOb [s, .int .i64 d, r, .int .i64 f] 25)).get g.next = cellsOb [s, .int .i64 d] 25 := (by simp (disch := first | assumption | exact cellV_int _ _ | exact cellV_bool _ | omega | (simp only [GH.pn, GH.sn] <;> omega) | (with_reducible ((repeat (first | apply GH.ok_push | apply GH.ok_set)); assumption)) | ((try simp only [GH.push_hid, GH.set_hid]); first | assumption | (refine GH.vis ?_ ?_ <;> first | assumption | ((try simp only [GH.pn, GH.sn]) <;> omega)))) only [↓GH.gp_eq, ↓GH.gp_ne, ↓GH.gs_eq, ↓GH.gs_ne, GH.push_next, GH.set_next]; first | done | exact rfl)
  have hB : ((((g.push (cellsOb [s, .int .i64 d] 25)).push (cellsOb [r, .int .i64 f] 25)).push (cellsOb [.int .i64 0, .int .i64 0] 32)).push (cellsOb [s, .int .i64 d, r, .int .i64 f] 25)).get (g.next + 1) = cellsOb [r, .int .i64 f] 25 := (by simp (disch := first | assumption | exact cellV_int _ _ | exact cellV_bool _ | omega | (simp only [GH.pn, GH.sn] <;> omega) | (with_reducible ((repeat (first | apply GH.ok_push | apply GH.ok_set)); assumption)) | ((try simp only [GH.push_hid, GH.set_hid]); first | assumption | (refine GH.vis ?_ ?_ <;> first | assumption | ((try simp only [GH.pn, GH.sn]) <;> omega)))) only [↓GH.gp_eq, ↓GH.gp_ne, ↓GH.gs_eq, ↓GH.gs_ne, GH.push_next, GH.set_next]; first | done | exact rfl)
  have hC : ((((g.push (cellsOb [s, .int .i64 d] 25)).push (cellsOb [r, .int .i64 f] 25)).push (cellsOb [.int .i64 0, .int .i64 0] 32)).push (cellsOb [s, .int .i64 d, r, .int .i64 f] 25)).get (g.next + 1 + 1) = cellsOb [.int .i64 0, .int .i64 0] 32 := (by simp (disch := first | assumption | exact cellV_int _ _ | exact cellV_bool _ | omega | (simp only [GH.pn, GH.sn] <;> omega) | (with_reducible ((repeat (first | apply GH.ok_push | apply GH.ok_set)); assumption)) | ((try simp only [GH.push_hid, GH.set_hid]); first | assumption | (refine GH.vis ?_ ?_ <;> first | assumption | ((try simp only [GH.pn, GH.sn]) <;> omega)))) only [↓GH.gp_eq, ↓GH.gp_ne, ↓GH.gs_eq, ↓GH.gs_ne, GH.push_next, GH.set_next]; first | done | exact rfl)
  have hokH : ((((g.push (cellsOb [s, .int .i64 d] 25)).push (cellsOb [r, .int .i64 f] 25)).push (cellsOb [.int .i64 0, .int .i64 0] 32)).push (cellsOb [s, .int .i64 d, r, .int .i64 f] 25)).ok := GH.ok_push (GH.ok_push (GH.ok_push (GH.ok_push ho)))
  simp +decide (disch := first | assumption | exact cellV_int _ _ | exact cellV_bool _ | omega | (simp only [GH.pn, GH.sn] <;> omega) | (with_reducible ((repeat (first | apply GH.ok_push | apply GH.ok_set)); assumption)) | ((try simp only [GH.push_hid, GH.set_hid]); first | assumption | (refine GH.vis ?_ ?_ <;> first | assumption | ((try simp only [GH.pn, GH.sn]) <;> omega)))) only [go_sem, ↓reduceIte, Nat.reduceEqDiff, Nat.reduceAdd, Int.reduceToNat, Int.reduceAdd, Int.reduceNeg, Int.reduceSub, Int.reduceMul, Int.reduceLT, Int.reduceLE, Int.reduceEq, ↓GH.gp_eq, ↓GH.gp_ne, ↓GH.gs_eq, ↓GH.gs_ne, GH.push_next, GH.set_next, hc, hcr]
  obtain ⟨H, hH⟩ : ∃ H, ((((g.push (cellsOb [s, .int .i64 d] 25)).push (cellsOb [r, .int .i64 f] 25)).push (cellsOb [.int .i64 0, .int .i64 0] 32)).push (cellsOb [s, .int .i64 d, r, .int .i64 f] 25)) = H := ⟨_, rfl⟩
  have hnH : H.next = g.next + 1 + 1 + 1 + 1 := by rw [← hH]; rfl
  rw [hH] at hk hg hA hB hC hokH
  have hck := asked2_rets hX T hF L d M f t s r (g.next + 1 + 1 + 1) 25 H (ht.kept hk) (hs.kept hk) (hr.kept hk) (by omega) hg
  rw [← hH] at hck
  refine CallD.calm hck ?_
  rw [hH]
  rintro v g1 hx1 rfl
  have hn1 := hx1.next
  have hok1 := hx1.ok hokH
  have hA1 := (hx1.gets g.next (by omega)).trans hA
  have hB1 := (hx1.gets (g.next + 1) (by omega)).trans hB
  have hC1 := (hx1.gets (g.next + 1 + 1) (by omega)).trans hC
  have hvC := GH.seen hC1 Nat.one_ne_zero
  have hk1 := hk.ext hx1
  unfold limR
  rcases err2_cases T L d M f with hE | ⟨hE, hT, hm1, hm2⟩
  · rw [hE]
    simp +decide (disch := first | assumption | exact cellV_int _ _ | exact cellV_bool _ | omega | (simp only [GH.pn, GH.sn] <;> omega) | (with_reducible ((repeat (first | apply GH.ok_push | apply GH.ok_set)); assumption)) | ((try simp only [GH.push_hid, GH.set_hid]); first | assumption | (refine GH.vis ?_ ?_ <;> first | assumption | ((try simp only [GH.pn, GH.sn]) <;> omega)))) only [go_sem, ↓reduceIte, Nat.reduceEqDiff, Nat.reduceAdd, Int.reduceToNat, Int.reduceAdd, Int.reduceNeg, Int.reduceSub, Int.reduceMul, Int.reduceLT, Int.reduceLE, Int.reduceEq, ↓GH.gp_eq, ↓GH.gp_ne, ↓GH.gs_eq, ↓GH.gs_ne, GH.push_next, GH.set_next, hC1]
    intro hx0
    exact ⟨by omega, rfl⟩
  · rw [hE, if_neg (show ¬ (0 : Int) = 2 by decide)]
    obtain ⟨a1, a2, a3, a4, a5, a6, a7, a8⟩ := mix_facts hm1
    obtain ⟨b1, b2, b3, b4, b5, b6, b7, b8⟩ := mix_facts hm2
    have hsa := Same_rets hX L d M f (by omega) s r g1 (hs.kept hk1) (hr.kept hk1)
    unfold paV at hsa
    simp +decide (disch := first | assumption | exact cellV_int _ _ | exact cellV_bool _ | omega | (simp only [GH.pn, GH.sn] <;> omega) | (with_reducible ((repeat (first | apply GH.ok_push | apply GH.ok_set)); assumption)) | ((try simp only [GH.push_hid, GH.set_hid]); first | assumption | (refine GH.vis ?_ ?_ <;> first | assumption | ((try simp only [GH.pn, GH.sn]) <;> omega)))) only [go_sem, ↓reduceIte, Nat.reduceEqDiff, Nat.reduceAdd, Int.reduceToNat, Int.reduceAdd, Int.reduceNeg, Int.reduceSub, Int.reduceMul, Int.reduceLT, Int.reduceLE, Int.reduceEq, ↓GH.gp_eq, ↓GH.gp_ne, ↓GH.gs_eq, ↓GH.gs_ne, GH.push_next, GH.set_next, hA1, hB1]
    refine CallD.calm hsa ?_
    rintro v g2 hx2 rfl
    have hn2 := hx2.next
    have hok2 := hx2.ok hok1
    have hA2 := (hx2.gets g.next (by omega)).trans hA1
    have hB2 := (hx2.gets (g.next + 1) (by omega)).trans hB1
    have hC2 := (hx2.gets (g.next + 1 + 1) (by omega)).trans hC1
    have hvC2 := GH.seen hC2 Nat.one_ne_zero
    have hk2 := hk1.ext hx2
    by_cases hsm : L = M ∧ d = f
    · rw [decide_eq_true hsm, if_pos hsm]
      simp +decide (disch := first | assumption | exact cellV_int _ _ | exact cellV_bool _ | omega | (simp only [GH.pn, GH.sn] <;> omega) | (with_reducible ((repeat (first | apply GH.ok_push | apply GH.ok_set)); assumption)) | ((try simp only [GH.push_hid, GH.set_hid]); first | assumption | (refine GH.vis ?_ ?_ <;> first | assumption | ((try simp only [GH.pn, GH.sn]) <;> omega)))) only [go_sem, ↓reduceIte, Nat.reduceEqDiff, Nat.reduceAdd, Int.reduceToNat, Int.reduceAdd, Int.reduceNeg, Int.reduceSub, Int.reduceMul, Int.reduceLT, Int.reduceLE, Int.reduceEq, ↓GH.gp_eq, ↓GH.gp_ne, ↓GH.gs_eq, ↓GH.gs_ne, GH.push_next, GH.set_next, hC2]
      intro hx0
      exact ⟨by omega, rfl⟩
    · rw [decide_eq_false hsm, if_neg hsm]
      simp +decide (disch := first | assumption | exact cellV_int _ _ | exact cellV_bool _ | omega | (simp only [GH.pn, GH.sn] <;> omega) | (with_reducible ((repeat (first | apply GH.ok_push | apply GH.ok_set)); assumption)) | ((try simp only [GH.push_hid, GH.set_hid]); first | assumption | (refine GH.vis ?_ ?_ <;> first | assumption | ((try simp only [GH.pn, GH.sn]) <;> omega)))) only [go_sem, ↓reduceIte, Nat.reduceEqDiff, Nat.reduceAdd, Int.reduceToNat, Int.reduceAdd, Int.reduceNeg, Int.reduceSub, Int.reduceMul, Int.reduceLT, Int.reduceLE, Int.reduceEq, ↓GH.gp_eq, ↓GH.gp_ne, ↓GH.gs_eq, ↓GH.gs_ne, GH.push_next, GH.set_next]
      have hlt := ht.len
      refine Wk.loops (fun m e g' lo => g.next ≤ lo ∧ Keeps g2 g' ∧ ∃ i : Nat, i + m = T.length ∧ (ev e (.s 0) = t ∧ ev e (.s 4) = ptrTo g.next ∧ ev e (.s 5) = ptrTo (g.next + 1) ∧ ev e (.s 6) = ptrTo (g.next + 1 + 1) ∧ ev e (.s 12) = .int .i64 i) ∧ ∃ o1 o2 o3 f1 f2 f3, (ev e (.s 9) = o1 ∧ ev e (.s 10) = o2 ∧ ev e (.s 11) = o3) ∧ OwnE g' o1 (ints (rL i fun k => ne L k * f)) 3 g.next f1 ∧ OwnE g' o2 (ints (rL i fun k => ne M k * d)) 3 g.next f2 ∧ OwnE g' o3 (ints (rL i fun k => ne L k * f - ne M k * d)) 3 g.next f3 ∧ f1 < g'.next ∧ f2 < g'.next ∧ f3 < g'.next ∧ f1 ≠ f2 ∧ f1 ≠ f3 ∧ f2 ≠ f3)
        (fun e g' lo => g.next ≤ lo ∧ Keeps g2 g' ∧ (ev e (.s 0) = t ∧ ev e (.s 6) = ptrTo (g.next + 1 + 1)) ∧ ∃ o1 o2 o3, (ev e (.s 9) = o1 ∧ ev e (.s 10) = o2 ∧ ev e (.s 11) = o3) ∧ SlR g' o1 (ints (rL T.length fun k => ne L k * f)) ∧ SlR g' o2 (ints (rL T.length fun k => ne M k * d)) ∧ SlR g' o3 (ints (rL T.length fun k => ne L k * f - ne M k * d))) (n := T.length) ?_ ?_ ?_
      · exact ⟨by omega, Keeps.refl _, 0, by omega, (by simp +decide (disch := first | assumption | (apply GH.ok_push; assumption) | exact cellV_int _ _ | exact cellV_bool _ | omega) only [go_sem, ↓reduceIte, Nat.reduceEqDiff, Nat.reduceAdd, Int.reduceToNat]; first | done | exact rfl), .slice none 0 0, .slice none 0 0, .slice none 0 0, g.next, g.next + 1, g.next + 1 + 1, (by simp +decide (disch := first | assumption | (apply GH.ok_push; assumption) | exact cellV_int _ _ | exact cellV_bool _ | omega) only [go_sem, ↓reduceIte, Nat.reduceEqDiff, Nat.reduceAdd, Int.reduceToNat]; first | done | exact rfl), OwnE.nil, OwnE.nil, OwnE.nil, by omega, by omega, by omega, by omega, by omega, by omega⟩
      · rintro e g' lo ho' - ⟨hlo, hks, he, o1, o2, o3, hoo, r1, r2, r3⟩
        have hns := hks.next
        have hD : ∀ k, ne (rL T.length fun k => ne L k * f - ne M k * d) k = ne L k * f - ne M k * d := fun k => rL_ne _ (fun k => ne L k * f - ne M k * d) k fun h => by
          show ne L k * f - ne M k * d = 0
          rw [ne_out (show L.length ≤ k by omega), ne_out (show M.length ≤ k by omega)]; simp
        have hPk : ∀ k, ne (rL T.length fun k => ne L k * f) k = ne L k * f := fun k => rL_ne _ (fun k => ne L k * f) k fun h => by
          show ne L k * f = 0
          rw [ne_out (show L.length ≤ k by omega)]; simp
        have hQk : ∀ k, ne (rL T.length fun k => ne M k * d) k = ne M k * d := fun k => rL_ne _ (fun k => ne M k * d) k fun h => by
          show ne M k * d = 0
          rw [ne_out (show M.length ≤ k by omega)]; simp
        have bp : ∀ k, 0 ≤ ne L k * f ∧ ne L k * f ≤ 100000000 := fun k => by
          have h6 := a6 k
          have h1 := Int.mul_nonneg h6.1 (show 0 ≤ f by omega)
          have h2 := Int.mul_le_mul (show ne L k ≤ 10000 by omega) b5 (by omega) (by omega)
          omega
        have bq : ∀ k, 0 ≤ ne M k * d ∧ ne M k * d ≤ 100000000 := fun k => by
          have h6 := b6 k
          have h1 := Int.mul_nonneg h6.1 (show 0 ≤ d by omega)
          have h2 := Int.mul_le_mul (show ne M k ≤ 10000 by omega) a5 (by omega) (by omega)
          omega
        have smD : ∀ k, Sm 100000000 (ne (rL T.length fun k => ne L k * f - ne M k * d) k) := fun k => by
          rw [hD]; have h1 := bp k; have h2 := bq k; unfold Sm; omega
        have smP : ∀ k, Sm 100000000 (ne (rL T.length fun k => ne L k * f) k) := fun k => by
          rw [hPk]; have h1 := bp k; unfold Sm; omega
        have smQ : ∀ k, Sm 100000000 (ne (rL T.length fun k => ne M k * d) k) := fun k => by
          rw [hQk]; have h1 := bq k; unfold Sm; omega
        have sp0 : ∀ k, Sm 100000000 (ne L k * f) := fun k => by have h1 := bp k; unfold Sm; omega
        have sq0 : ∀ k, Sm 100000000 (ne M k * d) := fun k => by have h1 := bq k; unfold Sm; omega
        obtain ⟨smS, smE⟩ := sg_sm (L := L) (M := M) (d := d) (f := f) hT ⟨sp0 0, sp0 1, sp0 2⟩ ⟨sq0 0, sq0 1, sq0 2⟩
        have h1 := refGain_rets hX T hT _ _ (rL_len _ _) (rL_len _ _) 100000000 100000000 smD smP (by decide) (by decide) t o3 o1 g' ((ht.kept hk2).keeps hks) r3 r1
        have h2 := fun G (hk9 : Keeps g' G) => refGain_rets hX T hT _ _ (rL_len _ _) (rL_len _ _) 100000000 100000000 smD smQ (by decide) (by decide) t o3 o2 G (((ht.kept hk2).keeps hks).keeps hk9) (r3.keeps hk9) (r2.keeps hk9)
        rw [gain_same hT (rL_len _ _) (rL_len _ _), hD, hD, hD, hPk, hPk, hPk] at h1
        rw [gain_same hT (rL_len _ _) (rL_len _ _), hD, hD, hD, hQk, hQk, hQk] at h2
        have eS : gT T (ne L 0 * f - ne M 0 * d) (ne L 1 * f - ne M 1 * d) (ne L 2 * f - ne M 2 * d) (ne L 0 * f) (ne L 1 * f) (ne L 2 * f) = sgS T L d M f := by
          unfold sgS gT gainZ
          grind
        have eE : gT T (ne L 0 * f - ne M 0 * d) (ne L 1 * f - ne M 1 * d) (ne L 2 * f - ne M 2 * d) (ne M 0 * d) (ne M 1 * d) (ne M 2 * d) = sgE T L d M f := by
          unfold sgE gT gainZ
          grind
        rw [eS] at h1
        rw [eE] at h2
        obtain ⟨S, hS⟩ : ∃ S, sgS T L d M f = S := ⟨_, rfl⟩
        obtain ⟨E, hEE⟩ : ∃ E, sgE T L d M f = E := ⟨_, rfl⟩
        rw [hS] at h1 smS ⊢
        rw [hEE] at h2 smE ⊢
        have hC3 := (hks.gets (g.next + 1 + 1) (by omega)).trans hC2
        simp +decide (disch := first | assumption | exact cellV_int _ _ | exact cellV_bool _ | omega | (simp only [GH.pn, GH.sn] <;> omega) | (with_reducible ((repeat (first | apply GH.ok_push | apply GH.ok_set)); assumption)) | ((try simp only [GH.push_hid, GH.set_hid]); first | assumption | (refine GH.vis ?_ ?_ <;> first | assumption | ((try simp only [GH.pn, GH.sn]) <;> omega)))) only [go_sem, ↓reduceIte, Nat.reduceEqDiff, Nat.reduceAdd, Int.reduceToNat, Int.reduceAdd, Int.reduceNeg, Int.reduceSub, Int.reduceMul, Int.reduceLT, Int.reduceLE, Int.reduceEq, ↓GH.gp_eq, ↓GH.gp_ne, ↓GH.gs_eq, ↓GH.gs_ne, GH.push_next, GH.set_next, he, hoo]
        refine CallD.calm h1 ?_
        rintro v g7 hx7 rfl
        have hn7 := hx7.next
        have hC7 := (hx7.gets (g.next + 1 + 1) (by omega)).trans hC3
        simp +decide (disch := first | assumption | exact cellV_int _ _ | exact cellV_bool _ | omega | (simp only [GH.pn, GH.sn] <;> omega) | (with_reducible ((repeat (first | apply GH.ok_push | apply GH.ok_set)); assumption)) | ((try simp only [GH.push_hid, GH.set_hid]); first | assumption | (refine GH.vis ?_ ?_ <;> first | assumption | ((try simp only [GH.pn, GH.sn]) <;> omega)))) only [go_sem, ↓reduceIte, Nat.reduceEqDiff, Nat.reduceAdd, Int.reduceToNat, Int.reduceAdd, Int.reduceNeg, Int.reduceSub, Int.reduceMul, Int.reduceLT, Int.reduceLE, Int.reduceEq, ↓GH.gp_eq, ↓GH.gp_ne, ↓GH.gs_eq, ↓GH.gs_ne, GH.push_next, GH.set_next, he, hoo]
        refine CallD.calm (h2 _ hx7.keeps) ?_
        rintro v g8 hx8 rfl
        have hn8 := hx8.next
        have hC8 := (hx8.gets (g.next + 1 + 1) (by omega)).trans hC7
        have hvC8 := GH.seen hC8 Nat.one_ne_zero
        unfold Sm at smS smE
        by_cases q1 : S < 0
        · rw [if_pos (.inl q1)]
          simp +decide (disch := first | assumption | exact cellV_int _ _ | exact cellV_bool _ | omega | (simp only [GH.pn, GH.sn] <;> omega) | (with_reducible ((repeat (first | apply GH.ok_push | apply GH.ok_set)); assumption)) | ((try simp only [GH.push_hid, GH.set_hid]); first | assumption | (refine GH.vis ?_ ?_ <;> first | assumption | ((try simp only [GH.pn, GH.sn]) <;> omega)))) only [go_sem, ↓reduceIte, Nat.reduceEqDiff, Nat.reduceAdd, Int.reduceToNat, Int.reduceAdd, Int.reduceNeg, Int.reduceSub, Int.reduceMul, Int.reduceLT, Int.reduceLE, Int.reduceEq, ↓GH.gp_eq, ↓GH.gp_ne, ↓GH.gs_eq, ↓GH.gs_ne, GH.push_next, GH.set_next, he, q1, hC8]
          intro hx0
          exact ⟨by omega, rfl⟩
        · by_cases q2 : S = 0
          · by_cases q3 : E ≤ 0
            · rw [if_pos (.inr ⟨q2, q3⟩)]
              simp +decide (disch := first | assumption | exact cellV_int _ _ | exact cellV_bool _ | omega | (simp only [GH.pn, GH.sn] <;> omega) | (with_reducible ((repeat (first | apply GH.ok_push | apply GH.ok_set)); assumption)) | ((try simp only [GH.push_hid, GH.set_hid]); first | assumption | (refine GH.vis ?_ ?_ <;> first | assumption | ((try simp only [GH.pn, GH.sn]) <;> omega)))) only [go_sem, ↓reduceIte, Nat.reduceEqDiff, Nat.reduceAdd, Int.reduceToNat, Int.reduceAdd, Int.reduceNeg, Int.reduceSub, Int.reduceMul, Int.reduceLT, Int.reduceLE, Int.reduceEq, ↓GH.gp_eq, ↓GH.gp_ne, ↓GH.gs_eq, ↓GH.gs_ne, GH.push_next, GH.set_next, he, q1, q2, q3, hC8]
              intro hx0
              exact ⟨by omega, rfl⟩
            · rw [if_neg (by omega), if_pos (by omega)]
              have q4 : 0 ≤ E := by omega
              simp +decide (disch := first | assumption | exact cellV_int _ _ | exact cellV_bool _ | omega | (simp only [GH.pn, GH.sn] <;> omega) | (with_reducible ((repeat (first | apply GH.ok_push | apply GH.ok_set)); assumption)) | ((try simp only [GH.push_hid, GH.set_hid]); first | assumption | (refine GH.vis ?_ ?_ <;> first | assumption | ((try simp only [GH.pn, GH.sn]) <;> omega)))) only [go_sem, ↓reduceIte, Nat.reduceEqDiff, Nat.reduceAdd, Int.reduceToNat, Int.reduceAdd, Int.reduceNeg, Int.reduceSub, Int.reduceMul, Int.reduceLT, Int.reduceLE, Int.reduceEq, ↓GH.gp_eq, ↓GH.gp_ne, ↓GH.gs_eq, ↓GH.gs_ne, GH.push_next, GH.set_next, he, q1, q2, q3, q4, hC8]
              intro hx0
              exact ⟨by omega, rfl⟩
          · rw [if_neg (by omega)]
            by_cases q4 : 0 ≤ E
            · rw [if_pos q4]
              simp +decide (disch := first | assumption | exact cellV_int _ _ | exact cellV_bool _ | omega | (simp only [GH.pn, GH.sn] <;> omega) | (with_reducible ((repeat (first | apply GH.ok_push | apply GH.ok_set)); assumption)) | ((try simp only [GH.push_hid, GH.set_hid]); first | assumption | (refine GH.vis ?_ ?_ <;> first | assumption | ((try simp only [GH.pn, GH.sn]) <;> omega)))) only [go_sem, ↓reduceIte, Nat.reduceEqDiff, Nat.reduceAdd, Int.reduceToNat, Int.reduceAdd, Int.reduceNeg, Int.reduceSub, Int.reduceMul, Int.reduceLT, Int.reduceLE, Int.reduceEq, ↓GH.gp_eq, ↓GH.gp_ne, ↓GH.gs_eq, ↓GH.gs_ne, GH.push_next, GH.set_next, he, q1, q2, q4, hC8]
              intro hx0
              exact ⟨by omega, rfl⟩
            · rw [if_neg q4]
              simp +decide (disch := first | assumption | exact cellV_int _ _ | exact cellV_bool _ | omega | (simp only [GH.pn, GH.sn] <;> omega) | (with_reducible ((repeat (first | apply GH.ok_push | apply GH.ok_set)); assumption)) | ((try simp only [GH.push_hid, GH.set_hid]); first | assumption | (refine GH.vis ?_ ?_ <;> first | assumption | ((try simp only [GH.pn, GH.sn]) <;> omega)))) only [go_sem, ↓reduceIte, Nat.reduceEqDiff, Nat.reduceAdd, Int.reduceToNat, Int.reduceAdd, Int.reduceNeg, Int.reduceSub, Int.reduceMul, Int.reduceLT, Int.reduceLE, Int.reduceEq, ↓GH.gp_eq, ↓GH.gp_ne, ↓GH.gs_eq, ↓GH.gs_ne, GH.push_next, GH.set_next, he, q1, q2, q4]
              refine CallD.calm (refRatio_rets hX S (S - E) ⟨by omega, by omega⟩ (by omega) _) ?_
              rintro v g9 hx9 rfl
              have hn9 := hx9.next
              have hC9 := (hx9.gets (g.next + 1 + 1) (by omega)).trans hC8
              have hvC9 := GH.seen hC9 Nat.one_ne_zero
              unfold raV
              simp +decide (disch := first | assumption | exact cellV_int _ _ | exact cellV_bool _ | omega | (simp only [GH.pn, GH.sn] <;> omega) | (with_reducible ((repeat (first | apply GH.ok_push | apply GH.ok_set)); assumption)) | ((try simp only [GH.push_hid, GH.set_hid]); first | assumption | (refine GH.vis ?_ ?_ <;> first | assumption | ((try simp only [GH.pn, GH.sn]) <;> omega)))) only [go_sem, ↓reduceIte, Nat.reduceEqDiff, Nat.reduceAdd, Int.reduceToNat, Int.reduceAdd, Int.reduceNeg, Int.reduceSub, Int.reduceMul, Int.reduceLT, Int.reduceLE, Int.reduceEq, ↓GH.gp_eq, ↓GH.gp_ne, ↓GH.gs_eq, ↓GH.gs_ne, GH.push_next, GH.set_next, he, hC9]
              intro hx0
              exact ⟨by omega, rfl⟩
      · rintro m e g' lo ho' hl' ih out ⟨hlo, hks, i, hi, he, o1, o2, o3, f1, f2, f3, hoo, w1, w2, w3, l1, l2, l3, n12, n13, n23⟩
        have hns := hks.next
        by_cases ci : i < T.length
        · have ci' : (i : Int) < T.length := by omega
          have hA0 := (hks.gets g.next (by omega)).trans hA2
          have hB0 := (hks.gets (g.next + 1) (by omega)).trans hB2
          obtain ⟨ja0, pa0, hja0, ha0, hb0⟩ := ((hs.kept hk2).keeps hks).ptr (ints_get (D := L) (i := i) (by omega))
          have ha0 := ha0 (i : Int) rfl
          obtain ⟨jb0, pb0, hjb0, hc0, hd0⟩ := ((hr.kept hk2).keeps hks).ptr (ints_get (D := M) (i := i) (by omega))
          have hc0 := hc0 (i : Int) rfl
          have b1 : Sm 100000000 (L.getD i 0 * f) := ((mix_sm hm1 i).mul (show Sm 10000 f from ⟨by omega, by omega⟩)).up (by decide)
          have b2 : Sm 100000000 (M.getD i 0 * d) := ((mix_sm hm2 i).mul (show Sm 10000 d from ⟨by omega, by omega⟩)).up (by decide)
          unfold Sm at b1 b2
          simp +decide (disch := first | assumption | exact cellV_int _ _ | exact cellV_bool _ | omega | (simp only [GH.pn, GH.sn] <;> omega) | (with_reducible ((repeat (first | apply GH.ok_push | apply GH.ok_set)); assumption)) | ((try simp only [GH.push_hid, GH.set_hid]); first | assumption | (refine GH.vis ?_ ?_ <;> first | assumption | ((try simp only [GH.pn, GH.sn]) <;> omega)))) only [go_sem, ↓reduceIte, Nat.reduceEqDiff, Nat.reduceAdd, Int.reduceToNat, Int.reduceAdd, Int.reduceNeg, Int.reduceSub, Int.reduceMul, Int.reduceLT, Int.reduceLE, Int.reduceEq, ↓GH.gp_eq, ↓GH.gp_ne, ↓GH.gs_eq, ↓GH.gs_ne, GH.push_next, GH.set_next, he, hoo, hlt, ci', hA0, hB0, ha0, hb0, hc0, hd0]
          refine AppD.ownE (lw := g.next) (w1.kept ((Kept.refl _).push ho' _)) (SlR.one ho' _ _) (by simp) rfl (by simp [ints_len, rL_len]; omega) (by simp only [GH.push_next]; omega) hlo (Nat.le_refl _) (GH.ok_push ho') (fun s1 h1 lo1 sp wr u1 gr1 hu1 hlo1 => ?_)
          have hok1 := gr1.ok
          have hnx1 : h1.next = g'.next + 1 + 1 := gr1.next
          have hu1 : u1 = g'.next + 1 ∨ u1 = f1 := hu1.imp (fun h => h) And.left
          have hks1 : Keeps g2 h1 := (hks.push ho' _).grewE gr1
          have v1 : OwnE h1 s1 (ints (rL (i + 1) fun k => ne L k * f)) 3 g.next u1 := by rw [rL_succ, ints_app]; exact gr1.own
          have v2 := (w2.kept ((Kept.refl _).push ho' _)).other gr1 (by simp only [GH.push_next]; omega) (by omega)
          have v3 := (w3.kept ((Kept.refl _).push ho' _)).other gr1 (by simp only [GH.push_next]; omega) (by omega)
          have m1 : u1 < h1.next := by omega
          have hA1 := (hks1.gets g.next (by omega)).trans hA2
          have hB1 := (hks1.gets (g.next + 1) (by omega)).trans hB2
          obtain ⟨ja1, pa1, hja1, ha1, hb1⟩ := ((hs.kept hk2).keeps hks1).ptr (ints_get (D := L) (i := i) (by omega))
          have ha1 := ha1 (i : Int) rfl
          obtain ⟨jb1, pb1, hjb1, hc1, hd1⟩ := ((hr.kept hk2).keeps hks1).ptr (ints_get (D := M) (i := i) (by omega))
          have hc1 := hc1 (i : Int) rfl
          simp +decide (disch := first | assumption | exact cellV_int _ _ | exact cellV_bool _ | omega | (simp only [GH.pn, GH.sn] <;> omega) | (with_reducible ((repeat (first | apply GH.ok_push | apply GH.ok_set)); assumption)) | ((try simp only [GH.push_hid, GH.set_hid]); first | assumption | (refine GH.vis ?_ ?_ <;> first | assumption | ((try simp only [GH.pn, GH.sn]) <;> omega)))) only [go_sem, ↓reduceIte, Nat.reduceEqDiff, Nat.reduceAdd, Int.reduceToNat, Int.reduceAdd, Int.reduceNeg, Int.reduceSub, Int.reduceMul, Int.reduceLT, Int.reduceLE, Int.reduceEq, ↓GH.gp_eq, ↓GH.gp_ne, ↓GH.gs_eq, ↓GH.gs_ne, GH.push_next, GH.set_next, he, hoo, hlt, ci', hA1, hB1, ha1, hb1, hc1, hd1]
          refine AppD.ownE (lw := g.next) (v2.kept ((Kept.refl _).push hok1 _)) (SlR.one hok1 _ _) (by simp) rfl (by simp [ints_len, rL_len]; omega) (by simp only [GH.push_next]; omega) hlo1 (Nat.le_refl _) (GH.ok_push hok1) (fun s2 h2 lo2 sp wr u2 gr2 hu2 hlo2 => ?_)
          have hok2 := gr2.ok
          have hnx2 : h2.next = h1.next + 1 + 1 := gr2.next
          have hu2 : u2 = h1.next + 1 ∨ u2 = f2 := hu2.imp (fun h => h) And.left
          have hks2 : Keeps g2 h2 := (hks1.push hok1 _).grewE gr2
          have z2 : OwnE h2 s2 (ints (rL (i + 1) fun k => ne M k * d)) 3 g.next u2 := by rw [rL_succ, ints_app]; exact gr2.own
          have z1 := (v1.kept ((Kept.refl _).push hok1 _)).other gr2 (by simp only [GH.push_next]; omega) (by omega)
          have z3 := (v3.kept ((Kept.refl _).push hok1 _)).other gr2 (by simp only [GH.push_next]; omega) (by omega)
          have x1 : (rL (i + 1) fun k => ne L k * f).getD i 0 = L.getD i 0 * f := rL_ne (i + 1) (fun k => ne L k * f) i (by omega)
          have x2 : (rL (i + 1) fun k => ne M k * d).getD i 0 = M.getD i 0 * d := rL_ne (i + 1) (fun k => ne M k * d) i (by omega)
          obtain ⟨ja, pa, hja, ya, yb⟩ := z1.read.ptr (ints_get (D := rL (i + 1) fun k => ne L k * f) (i := i) (by rw [rL_len]; omega))
          have ya := ya (i : Int) rfl
          obtain ⟨jb, pb, hjb, yc, yd⟩ := z2.read.ptr (ints_get (D := rL (i + 1) fun k => ne M k * d) (i := i) (by rw [rL_len]; omega))
          have yc := yc (i : Int) rfl
          rw [x1] at yb
          rw [x2] at yd
          simp +decide (disch := first | assumption | exact cellV_int _ _ | exact cellV_bool _ | omega | (simp only [GH.pn, GH.sn] <;> omega) | (with_reducible ((repeat (first | apply GH.ok_push | apply GH.ok_set)); assumption)) | ((try simp only [GH.push_hid, GH.set_hid]); first | assumption | (refine GH.vis ?_ ?_ <;> first | assumption | ((try simp only [GH.pn, GH.sn]) <;> omega)))) only [go_sem, ↓reduceIte, Nat.reduceEqDiff, Nat.reduceAdd, Int.reduceToNat, Int.reduceAdd, Int.reduceNeg, Int.reduceSub, Int.reduceMul, Int.reduceLT, Int.reduceLE, Int.reduceEq, ↓GH.gp_eq, ↓GH.gp_ne, ↓GH.gs_eq, ↓GH.gs_ne, GH.push_next, GH.set_next, he, hoo, hlt, ci', ya, yb, yc, yd]
          refine AppD.ownE (lw := g.next) (z3.kept ((Kept.refl _).push hok2 _)) (SlR.one hok2 _ _) (by simp) rfl (by simp [ints_len, rL_len]; omega) (by simp only [GH.push_next]; omega) hlo2 (Nat.le_refl _) (GH.ok_push hok2) (fun s3 h3 lo3 sp wr u3 gr3 hu3 hlo3 => ?_)
          have hok3 := gr3.ok
          have hnx3 : h3.next = h2.next + 1 + 1 := gr3.next
          have hu3 : u3 = h2.next + 1 ∨ u3 = f3 := hu3.imp (fun h => h) And.left
          have hks3 : Keeps g2 h3 := (hks2.push hok2 _).grewE gr3
          have k3 : OwnE h3 s3 (ints (rL (i + 1) fun k => ne L k * f - ne M k * d)) 3 g.next u3 := by rw [rL_succ, ints_app]; exact gr3.own
          have k1 := (z1.kept ((Kept.refl _).push hok2 _)).other gr3 (by simp only [GH.push_next]; omega) (by omega)
          have k2 := (z2.kept ((Kept.refl _).push hok2 _)).other gr3 (by simp only [GH.push_next]; omega) (by omega)
          simp +decide (disch := first | assumption | exact cellV_int _ _ | exact cellV_bool _ | omega | (simp only [GH.pn, GH.sn] <;> omega) | (with_reducible ((repeat (first | apply GH.ok_push | apply GH.ok_set)); assumption)) | ((try simp only [GH.push_hid, GH.set_hid]); first | assumption | (refine GH.vis ?_ ?_ <;> first | assumption | ((try simp only [GH.pn, GH.sn]) <;> omega)))) only [go_sem, ↓reduceIte, Nat.reduceEqDiff, Nat.reduceAdd, Int.reduceToNat, Int.reduceAdd, Int.reduceNeg, Int.reduceSub, Int.reduceMul, Int.reduceLT, Int.reduceLE, Int.reduceEq, ↓GH.gp_eq, ↓GH.gp_ne, ↓GH.gs_eq, ↓GH.gs_ne, GH.push_next, GH.set_next, he]
          exact ih (m - 1) _ _ _ (by omega) ⟨hlo3, hks3, i + 1, by omega, (by simp +decide (disch := first | assumption | (apply GH.ok_push; assumption) | exact cellV_int _ _ | exact cellV_bool _ | omega) only [go_sem, ↓reduceIte, Nat.reduceEqDiff, Nat.reduceAdd, Int.reduceToNat, he]; first | done | exact rfl), s1, s2, s3, u1, u2, u3, (by simp +decide (disch := first | assumption | (apply GH.ok_push; assumption) | exact cellV_int _ _ | exact cellV_bool _ | omega) only [go_sem, ↓reduceIte, Nat.reduceEqDiff, Nat.reduceAdd, Int.reduceToNat]; first | done | exact rfl), k1, k2, k3, by omega, by omega, by omega, by omega, by omega, by omega⟩
        · have ci' : ¬ (i : Int) < T.length := by omega
          simp +decide (disch := first | assumption | exact cellV_int _ _ | exact cellV_bool _ | omega | (simp only [GH.pn, GH.sn] <;> omega) | (with_reducible ((repeat (first | apply GH.ok_push | apply GH.ok_set)); assumption)) | ((try simp only [GH.push_hid, GH.set_hid]); first | assumption | (refine GH.vis ?_ ?_ <;> first | assumption | ((try simp only [GH.pn, GH.sn]) <;> omega)))) only [go_sem, ↓reduceIte, Nat.reduceEqDiff, Nat.reduceAdd, Int.reduceToNat, Int.reduceAdd, Int.reduceNeg, Int.reduceSub, Int.reduceMul, Int.reduceLT, Int.reduceLE, Int.reduceEq, ↓GH.gp_eq, ↓GH.gp_ne, ↓GH.gs_eq, ↓GH.gs_ne, GH.push_next, GH.set_next, he, hlt, ci']
          have hiT : i = T.length := by omega
          subst hiT
          exact out _ _ _ ⟨hlo, hks, (by simp +decide (disch := first | assumption | (apply GH.ok_push; assumption) | exact cellV_int _ _ | exact cellV_bool _ | omega) only [go_sem, ↓reduceIte, Nat.reduceEqDiff, Nat.reduceAdd, Int.reduceToNat, he]; first | done | exact rfl), o1, o2, o3, (by simp +decide (disch := first | assumption | (apply GH.ok_push; assumption) | exact cellV_int _ _ | exact cellV_bool _ | omega) only [go_sem, ↓reduceIte, Nat.reduceEqDiff, Nat.reduceAdd, Int.reduceToNat, hoo]; first | done | exact rfl), w1.read, w2.read, w3.read⟩
end Go.Proofs.YtngmaccaldhjcaaDoor
set_option maxRecDepth 100000
set_option maxHeartbeats 4000000
set_option linter.unusedSimpArgs false
set_option linter.unusedVariables false
namespace Go.Proofs.YtngmaccaldhjcaaDoor
open Go.Ds
theorem eqA2_same (neg : Bool) (a b : Int) : eqAF neg 2 (.agg #[.int .i64 a, .int .i64 b]) (.agg #[.int .i64 a, .int .i64 b]) = some (.bool (!neg)) := by
  have hk : kindEq .i64 .i64 = true := rfl
  have h1 : ∀ x : Int, ieq x x = true := fun x => by rw [eq_i]; simp
  simp only [eqAF, intEqs, hk, h1, cond_true]
  cases neg <;> rfl
theorem limR_form (T : List (List Int)) (L : List Int) (d : Int) (M : List Int) (f : Int) : ∃ a b c : Int, limR T L d M f = .tuple #[.agg #[.int .i64 a, .int .i64 b], .int .i64 c] := by
  unfold limR raV
  repeat' split
  all_goals exact ⟨_, _, _, rfl⟩
theorem limitsLaw_rets {X : Caller} (hX : Xok X) (T : List (List Int)) (L : List Int) (d : Int) (M : List Int) (f : Int) (t s r : Value) (g : GH) (hT : HasTab g) (ht : Sl2 g t T) (hs : SlR g s (ints L)) (hr : SlR g r (ints M)) :
    Rets Tryd.prog X 6 [t, paV s d, paV r f] g (fun v g' lo => g.next ≤ lo ∧ v = .bool true) := by
  have e0 : ∀ a b : Value, extF (.tuple #[a, b]) 0 = some a := fun _ _ => rfl
  have e1 : ∀ a b : Value, extF (.tuple #[a, b]) 1 = some b := fun _ _ => rfl
  have hc := hs.cell
  have hcr := hr.cell
  unfold paV
  refine Rets.run hX.pres p6 (hX.free 6 (by decide) _ _) rfl fun ho => ?_
  obtain ⟨H, hH⟩ : ∃ H, ((g.push (cellsOb [s, .int .i64 d] 25)).push (cellsOb [r, .int .i64 f] 25)) = H := ⟨_, rfl⟩
  have hnH : H.next = g.next + 1 + 1 := by rw [← hH]; rfl
  have hokH : H.ok := by rw [← hH]; exact GH.ok_push (GH.ok_push ho)
  have hkH : Kept g H := by rw [← hH]; exact (by (repeat' first | exact Kept.refl _ | assumption | refine Kept.push ?_ ?_ _ | refine Kept.setV ?_ ?_ ?_ _) <;> (first | assumption | exact cellV_int _ _ | exact cellV_bool _ | omega | (simp only [GH.pn, GH.sn] <;> omega) | (with_reducible ((repeat (first | apply GH.ok_push | apply GH.ok_set)); assumption)) | ((try simp only [GH.push_hid, GH.set_hid]); first | assumption | (refine GH.vis ?_ ?_ <;> first | assumption | ((try simp only [GH.pn, GH.sn]) <;> omega)))))
  have hA : H.get g.next = cellsOb [s, .int .i64 d] 25 := by rw [← hH]; exact (by simp (disch := first | assumption | exact cellV_int _ _ | exact cellV_bool _ | omega | (simp only [GH.pn, GH.sn] <;> omega) | (with_reducible ((repeat (first | apply GH.ok_push | apply GH.ok_set)); assumption)) | ((try simp only [GH.push_hid, GH.set_hid]); first | assumption | (refine GH.vis ?_ ?_ <;> first | assumption | ((try simp only [GH.pn, GH.sn]) <;> omega)))) only [↓GH.gp_eq, ↓GH.gp_ne, ↓GH.gs_eq, ↓GH.gs_ne, GH.push_next, GH.set_next]; first | done | exact rfl)
  have hB : H.get (g.next + 1) = cellsOb [r, .int .i64 f] 25 := by rw [← hH]; exact (by simp (disch := first | assumption | exact cellV_int _ _ | exact cellV_bool _ | omega | (simp only [GH.pn, GH.sn] <;> omega) | (with_reducible ((repeat (first | apply GH.ok_push | apply GH.ok_set)); assumption)) | ((try simp only [GH.push_hid, GH.set_hid]); first | assumption | (refine GH.vis ?_ ?_ <;> first | assumption | ((try simp only [GH.pn, GH.sn]) <;> omega)))) only [↓GH.gp_eq, ↓GH.gp_ne, ↓GH.gs_eq, ↓GH.gs_ne, GH.push_next, GH.set_next]; first | done | exact rfl)
  simp +decide (disch := first | assumption | exact cellV_int _ _ | exact cellV_bool _ | omega | (simp only [GH.pn, GH.sn] <;> omega) | (with_reducible ((repeat (first | apply GH.ok_push | apply GH.ok_set)); assumption)) | ((try simp only [GH.push_hid, GH.set_hid]); first | assumption | (refine GH.vis ?_ ?_ <;> first | assumption | ((try simp only [GH.pn, GH.sn]) <;> omega)))) only [go_sem, ↓reduceIte, Nat.reduceEqDiff, Nat.reduceAdd, Int.reduceToNat, Int.reduceAdd, Int.reduceNeg, Int.reduceSub, Int.reduceMul, Int.reduceLT, Int.reduceLE, Int.reduceEq, ↓GH.gp_eq, ↓GH.gp_ne, ↓GH.gs_eq, ↓GH.gs_ne, GH.push_next, GH.set_next, hc, hcr]
  refine CallD.name fun G0 hG0 => ?_
  have hk0 : Kept H G0 := by rw [hG0, ← hH]; exact (by (repeat' first | exact Kept.refl _ | assumption | refine Kept.push ?_ ?_ _ | refine Kept.setV ?_ ?_ ?_ _) <;> (first | assumption | exact cellV_int _ _ | exact cellV_bool _ | omega | (simp only [GH.pn, GH.sn] <;> omega) | (with_reducible ((repeat (first | apply GH.ok_push | apply GH.ok_set)); assumption)) | ((try simp only [GH.push_hid, GH.set_hid]); first | assumption | (refine GH.vis ?_ ?_ <;> first | assumption | ((try simp only [GH.pn, GH.sn]) <;> omega)))))
  have hok0 : G0.ok := by rw [hG0]; exact GH.ok_push (GH.ok_push (GH.ok_push ho))
  have hn0 : G0.next = g.next + 1 + 1 + 1 := by rw [hG0]; rfl
  have hg0 : G0.get (g.next + 1 + 1) = cellsOb [s, .int .i64 d, r, .int .i64 f] 25 := by rw [hG0]; exact (by simp (disch := first | assumption | exact cellV_int _ _ | exact cellV_bool _ | omega | (simp only [GH.pn, GH.sn] <;> omega) | (with_reducible ((repeat (first | apply GH.ok_push | apply GH.ok_set)); assumption)) | ((try simp only [GH.push_hid, GH.set_hid]); first | assumption | (refine GH.vis ?_ ?_ <;> first | assumption | ((try simp only [GH.pn, GH.sn]) <;> omega)))) only [↓GH.gp_eq, ↓GH.gp_ne, ↓GH.gs_eq, ↓GH.gs_ne, GH.push_next, GH.set_next]; first | done | exact rfl)
  have kk := hkH.trans hk0
  refine CallD.calm (few2_rets hX T L s d M r f t G0 (ht.kept kk) (hs.kept kk) (hr.kept kk) (g.next + 1 + 1) 25 (by omega) hg0) ?_
  rintro v g1 hx1 rfl
  have hn1 := hx1.next
  have hok1 := hx1.ok hok0
  have hk1 := hk0.ext hx1
  have hA1 := (hk1.gets g.next (by omega)).trans hA
  have hB1 := (hk1.gets (g.next + 1) (by omega)).trans hB
  cases hf : (fewT T && decide (L.length ≤ 20) && decide (M.length ≤ 20)) with
  | false =>
    simp +decide (disch := first | assumption | exact cellV_int _ _ | exact cellV_bool _ | omega | (simp only [GH.pn, GH.sn] <;> omega) | (with_reducible ((repeat (first | apply GH.ok_push | apply GH.ok_set)); assumption)) | ((try simp only [GH.push_hid, GH.set_hid]); first | assumption | (refine GH.vis ?_ ?_ <;> first | assumption | ((try simp only [GH.pn, GH.sn]) <;> omega)))) only [go_sem, ↓reduceIte, Nat.reduceEqDiff, Nat.reduceAdd, Int.reduceToNat, Int.reduceAdd, Int.reduceNeg, Int.reduceSub, Int.reduceMul, Int.reduceLT, Int.reduceLE, Int.reduceEq, ↓GH.gp_eq, ↓GH.gp_ne, ↓GH.gs_eq, ↓GH.gs_ne, GH.push_next, GH.set_next]
    refine CallD.calm (hX.alive _ (hT.kept (hkH.trans hk1))) ?_
    rintro v g2 hx2 rfl
    have hn2 := hx2.next
    simp +decide (disch := first | assumption | exact cellV_int _ _ | exact cellV_bool _ | omega | (simp only [GH.pn, GH.sn] <;> omega) | (with_reducible ((repeat (first | apply GH.ok_push | apply GH.ok_set)); assumption)) | ((try simp only [GH.push_hid, GH.set_hid]); first | assumption | (refine GH.vis ?_ ?_ <;> first | assumption | ((try simp only [GH.pn, GH.sn]) <;> omega)))) only [go_sem, ↓reduceIte, Nat.reduceEqDiff, Nat.reduceAdd, Int.reduceToNat, Int.reduceAdd, Int.reduceNeg, Int.reduceSub, Int.reduceMul, Int.reduceLT, Int.reduceLE, Int.reduceEq, ↓GH.gp_eq, ↓GH.gp_ne, ↓GH.gs_eq, ↓GH.gs_ne, GH.push_next, GH.set_next]
    intro hx0
    exact ⟨by omega, rfl⟩
  | true =>
    simp only [Bool.and_eq_true] at hf
    have hF := fewT_Few hf.1.1
    have w1 := fun G h1 h2 h3 => Limit_rets hX T hF L d M f t s r G h1 h2 h3
    have w2 := fun G h1 h2 h3 => refLimit_rets hX T hF L d M f t s r G h1 h2 h3
    obtain ⟨ga, gb, gc, hgf⟩ := limR_form T L d M f
    rw [hgf] at w1 w2
    unfold paV at w1 w2
    simp +decide (disch := first | assumption | exact cellV_int _ _ | exact cellV_bool _ | omega | (simp only [GH.pn, GH.sn] <;> omega) | (with_reducible ((repeat (first | apply GH.ok_push | apply GH.ok_set)); assumption)) | ((try simp only [GH.push_hid, GH.set_hid]); first | assumption | (refine GH.vis ?_ ?_ <;> first | assumption | ((try simp only [GH.pn, GH.sn]) <;> omega)))) only [go_sem, ↓reduceIte, Nat.reduceEqDiff, Nat.reduceAdd, Int.reduceToNat, Int.reduceAdd, Int.reduceNeg, Int.reduceSub, Int.reduceMul, Int.reduceLT, Int.reduceLE, Int.reduceEq, ↓GH.gp_eq, ↓GH.gp_ne, ↓GH.gs_eq, ↓GH.gs_ne, GH.push_next, GH.set_next, hA1, hB1]
    refine CallD.calm (w1 g1 (ht.kept (hkH.trans hk1)) (hs.kept (hkH.trans hk1)) (hr.kept (hkH.trans hk1))) ?_
    rintro v g5 hx5 rfl
    have hn5 := hx5.next
    have hok5 := hx5.ok hok1
    have hk5 := hk1.ext hx5
    have hA5 := (hk5.gets g.next (by omega)).trans hA
    have hB5 := (hk5.gets (g.next + 1) (by omega)).trans hB
    simp +decide (disch := first | assumption | exact cellV_int _ _ | exact cellV_bool _ | omega | (simp only [GH.pn, GH.sn] <;> omega) | (with_reducible ((repeat (first | apply GH.ok_push | apply GH.ok_set)); assumption)) | ((try simp only [GH.push_hid, GH.set_hid]); first | assumption | (refine GH.vis ?_ ?_ <;> first | assumption | ((try simp only [GH.pn, GH.sn]) <;> omega)))) only [go_sem, ↓reduceIte, Nat.reduceEqDiff, Nat.reduceAdd, Int.reduceToNat, Int.reduceAdd, Int.reduceNeg, Int.reduceSub, Int.reduceMul, Int.reduceLT, Int.reduceLE, Int.reduceEq, ↓GH.gp_eq, ↓GH.gp_ne, ↓GH.gs_eq, ↓GH.gs_ne, GH.push_next, GH.set_next, e0, e1, hA5, hB5]
    refine CallD.name fun G6 hG6 => ?_
    have hk6 : Kept g5 G6 := by rw [hG6]; exact (by (repeat' first | exact Kept.refl _ | assumption | refine Kept.push ?_ ?_ _ | refine Kept.setV ?_ ?_ ?_ _) <;> (first | assumption | exact cellV_int _ _ | exact cellV_bool _ | omega | (simp only [GH.pn, GH.sn] <;> omega) | (with_reducible ((repeat (first | apply GH.ok_push | apply GH.ok_set)); assumption)) | ((try simp only [GH.push_hid, GH.set_hid]); first | assumption | (refine GH.vis ?_ ?_ <;> first | assumption | ((try simp only [GH.pn, GH.sn]) <;> omega)))))
    have hok6 : G6.ok := by rw [hG6]; exact GH.ok_set (GH.ok_push hok5)
    have hn6 : G6.next = g5.next + 1 := by rw [hG6]; rfl
    have hR6 : G6.get g5.next = cellsOb [.int .i64 ga, .int .i64 gb] 32 := by rw [hG6]; exact (by simp (disch := first | assumption | exact cellV_int _ _ | exact cellV_bool _ | omega | (simp only [GH.pn, GH.sn] <;> omega) | (with_reducible ((repeat (first | apply GH.ok_push | apply GH.ok_set)); assumption)) | ((try simp only [GH.push_hid, GH.set_hid]); first | assumption | (refine GH.vis ?_ ?_ <;> first | assumption | ((try simp only [GH.pn, GH.sn]) <;> omega)))) only [↓GH.gp_eq, ↓GH.gp_ne, ↓GH.gs_eq, ↓GH.gs_ne, GH.push_next, GH.set_next]; first | done | exact rfl)
    have hkk6 := hk5.trans hk6
    refine CallD.calm (w2 G6 (ht.kept (hkH.trans hkk6)) (hs.kept (hkH.trans hkk6)) (hr.kept (hkH.trans hkk6))) ?_
    rintro v g7 hx7 rfl
    have hn7 := hx7.next
    have hok7 := hx7.ok hok6
    have hk7 := hkk6.ext hx7
    have hR7 := (hx7.gets g5.next (by omega)).trans hR6
    have hself := eqA2_same false ga gb
    simp +decide (disch := first | assumption | exact cellV_int _ _ | exact cellV_bool _ | omega | (simp only [GH.pn, GH.sn] <;> omega) | (with_reducible ((repeat (first | apply GH.ok_push | apply GH.ok_set)); assumption)) | ((try simp only [GH.push_hid, GH.set_hid]); first | assumption | (refine GH.vis ?_ ?_ <;> first | assumption | ((try simp only [GH.pn, GH.sn]) <;> omega)))) only [go_sem, ↓reduceIte, Nat.reduceEqDiff, Nat.reduceAdd, Int.reduceToNat, Int.reduceAdd, Int.reduceNeg, Int.reduceSub, Int.reduceMul, Int.reduceLT, Int.reduceLE, Int.reduceEq, ↓GH.gp_eq, ↓GH.gp_ne, ↓GH.gs_eq, ↓GH.gs_ne, GH.push_next, GH.set_next, e0, e1, hR7, hself]
    refine CallD.name fun G8 hG8 => ?_
    have hk8 : Kept g7 G8 := by rw [hG8]; exact (by (repeat' first | exact Kept.refl _ | assumption | refine Kept.push ?_ ?_ _ | refine Kept.setV ?_ ?_ ?_ _) <;> (first | assumption | exact cellV_int _ _ | exact cellV_bool _ | omega | (simp only [GH.pn, GH.sn] <;> omega) | (with_reducible ((repeat (first | apply GH.ok_push | apply GH.ok_set)); assumption)) | ((try simp only [GH.push_hid, GH.set_hid]); first | assumption | (refine GH.vis ?_ ?_ <;> first | assumption | ((try simp only [GH.pn, GH.sn]) <;> omega)))))
    have hn8 : G8.next = g7.next + 1 := by rw [hG8]; rfl
    refine CallD.calm (hX.alive _ (hT.kept ((hkH.trans hk7).trans hk8))) ?_
    rintro v g9 hx9 rfl
    have hn9 := hx9.next
    simp +decide (disch := first | assumption | exact cellV_int _ _ | exact cellV_bool _ | omega | (simp only [GH.pn, GH.sn] <;> omega) | (with_reducible ((repeat (first | apply GH.ok_push | apply GH.ok_set)); assumption)) | ((try simp only [GH.push_hid, GH.set_hid]); first | assumption | (refine GH.vis ?_ ?_ <;> first | assumption | ((try simp only [GH.pn, GH.sn]) <;> omega)))) only [go_sem, ↓reduceIte, Nat.reduceEqDiff, Nat.reduceAdd, Int.reduceToNat, Int.reduceAdd, Int.reduceNeg, Int.reduceSub, Int.reduceMul, Int.reduceLT, Int.reduceLE, Int.reduceEq, ↓GH.gp_eq, ↓GH.gp_ne, ↓GH.gs_eq, ↓GH.gs_ne, GH.push_next, GH.set_next]
    intro hx0
    exact ⟨by omega, rfl⟩
end Go.Proofs.YtngmaccaldhjcaaDoor
