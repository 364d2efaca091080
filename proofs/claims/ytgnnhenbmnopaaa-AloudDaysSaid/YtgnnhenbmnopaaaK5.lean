import Derived.Test.YtgnnhenbmnopaaaK4
import Derived.Test.YtgnnhenbmnopaaaDtO
set_option linter.all false
set_option linter.unusedSimpArgs false
set_option linter.unnecessarySimpa false
set_option linter.unusedVariables false
set_option linter.unusedSectionVars false
set_option maxRecDepth 100000
set_option maxHeartbeats 4000000
set_option linter.unusedSimpArgs false
set_option linter.unusedVariables false
namespace Go.Proofs.Ytgnnhenbmnopaaa
open Go.Ds Go.Aw
theorem idx_s (s : ByteArray) (i : Nat) (h : i < s.size) (n : Int) (hn : n = i) : idxSF (.string s) (.int .i64 n) = some (.int .u8 ((s[i]'h).toNat : Int)) := by
  subst hn
  simp only [idxSF, asNat_nat]
  rw [getElem?_pos s i h]
theorem idx_w {ds : List Nat} (hd : Dig ds) (i : Nat) (h : i < ds.length) (n : Int) (hn : n = i) : idxSF (.string (Try.txt ds)) (.int .i64 n) = some (.int .u8 (48 + (ds[i] : Int))) := by
  have h' : i < (Try.txt ds).size := by rw [Try.txt_size]; exact h
  rw [idx_s _ i h' n hn, Try.txt_get hd i h']
  congr 2
/-- The specification's judgement of a word. -/
theorem refIsWord_rets {X : Caller} (hX : Xfr X) (s : ByteArray) (h200 : s.size ≤ 200) (g : GH) : Rets Try.prog X 39 [.string s] g (fun v g' lo => g.next ≤ lo ∧ v = .bool (decide (s.size ≠ 0) && allD s) ∧ g' = g) := by
  refine Rets.run hX.pres p39 (hX.free 39 (by decide) _ _) rfl fun ho => ?_
  simp +decide (disch := first | assumption | (apply GH.ok_push; assumption) | exact cellV_int _ _ | exact cellV_bool _ | omega) only [go_sem, ↓reduceIte, Nat.reduceEqDiff, Nat.reduceAdd, Int.reduceToNat]
  refine Wk.loops (fun m e g' lo => g' = g ∧ g.next ≤ lo ∧ ∃ i : Nat, (i ≤ s.size ∧ m = s.size - i) ∧ (ev e (.s 0) = .string s ∧ ev e (.s 3) = .int .i64 i) ∧ ∀ (k : Nat) (h : k < s.size), k < i → 49 ≤ (s[k]'h).toNat ∧ (s[k]'h).toNat ≤ 57)
    (fun e g' lo => g' = g ∧ g.next ≤ lo ∧ ev e (.s 0) = .string s ∧ allD s = true) (n := s.size) ?_ ?_ ?_
  · exact ⟨rfl, Nat.le_refl _, 0, ⟨Nat.zero_le _, rfl⟩, (by simp +decide (disch := first | assumption | (apply GH.ok_push; assumption) | exact cellV_int _ _ | exact cellV_bool _ | omega) only [go_sem, ↓reduceIte, Nat.reduceEqDiff, Nat.reduceAdd, Int.reduceToNat]; first | done | exact rfl), fun k h q => by omega⟩
  · rintro e g' lo - - ⟨rfl, hlo, he, h⟩
    simp +decide (disch := first | assumption | (apply GH.ok_push; assumption) | exact cellV_int _ _ | exact cellV_bool _ | omega) only [go_sem, ↓reduceIte, Nat.reduceEqDiff, Nat.reduceAdd, Int.reduceToNat, he]
    intro hx
    refine ⟨hlo, ?_, rfl⟩
    rw [h]
    by_cases c : s.size = 0
    · simp [c]
    · simp [c]; omega
  · rintro m e g' lo ho' hl' ih out ⟨rfl, hlo, i, ⟨hi, hm⟩, he, hp⟩
    by_cases c : i < s.size
    · have hg := idx_s s i c i rfl
      have fall : ∀ (q : ¬ (49 ≤ (s[i]'c).toNat ∧ (s[i]'c).toNat ≤ 57)), allD s = false := fun q => by
        cases h : allD s with
        | false => rfl
        | true => exact absurd (allD_get.1 h i c) q
      by_cases d1 : 49 ≤ (s[i]'c).toNat
      · by_cases d2 : (s[i]'c).toNat ≤ 57
        · simp +decide (disch := first | assumption | (apply GH.ok_push; assumption) | exact cellV_int _ _ | exact cellV_bool _ | omega) only [go_sem, ↓reduceIte, Nat.reduceEqDiff, Nat.reduceAdd, Int.reduceToNat, he, hg, d1, d2]
          refine ih (m - 1) _ _ _ (by omega) ⟨rfl, hlo, i + 1, ⟨by omega, by omega⟩, (by simp +decide (disch := first | assumption | (apply GH.ok_push; assumption) | exact cellV_int _ _ | exact cellV_bool _ | omega) only [go_sem, ↓reduceIte, Nat.reduceEqDiff, Nat.reduceAdd, Int.reduceToNat, he]; first | done | exact rfl), ?_⟩
          intro k h hk
          rcases Nat.lt_or_ge k i with q | q
          · exact hp k h q
          · obtain rfl : k = i := by omega
            exact ⟨d1, d2⟩
        · simp +decide (disch := first | assumption | (apply GH.ok_push; assumption) | exact cellV_int _ _ | exact cellV_bool _ | omega) only [go_sem, ↓reduceIte, Nat.reduceEqDiff, Nat.reduceAdd, Int.reduceToNat, he, hg, d1, d2]
          intro hx
          refine ⟨hlo, ?_, rfl⟩
          simp [fall (fun q => d2 q.2)]
      · simp +decide (disch := first | assumption | (apply GH.ok_push; assumption) | exact cellV_int _ _ | exact cellV_bool _ | omega) only [go_sem, ↓reduceIte, Nat.reduceEqDiff, Nat.reduceAdd, Int.reduceToNat, he, hg, d1]
        intro hx
        refine ⟨hlo, ?_, rfl⟩
        simp [fall (fun q => d1 q.1)]
    · simp +decide (disch := first | assumption | (apply GH.ok_push; assumption) | exact cellV_int _ _ | exact cellV_bool _ | omega) only [go_sem, ↓reduceIte, Nat.reduceEqDiff, Nat.reduceAdd, Int.reduceToNat, he]
      refine out _ _ _ ⟨rfl, hlo, (by simp +decide (disch := first | assumption | (apply GH.ok_push; assumption) | exact cellV_int _ _ | exact cellV_bool _ | omega) only [go_sem, ↓reduceIte, Nat.reduceEqDiff, Nat.reduceAdd, Int.reduceToNat, he]; first | done | exact rfl), allD_get.2 fun k h => hp k h (by omega)⟩
theorem refWord_rets {X : Caller} (hX : Xfr X) (s : ByteArray) (g : GH) : Rets Try.prog X 19 [.string s] g (fun v g' lo => g.next ≤ lo ∧ v = .int .i64 (werr s) ∧ g' = g) := by
  refine Rets.run hX.pres p19 (hX.free 19 (by decide) _ _) rfl fun ho => ?_
  by_cases h2 : 200 < s.size
  · simp +decide (disch := first | assumption | (apply GH.ok_push; assumption) | exact cellV_int _ _ | exact cellV_bool _ | omega) only [go_sem, ↓reduceIte, Nat.reduceEqDiff, Nat.reduceAdd, Int.reduceToNat, h2]
    intro hx
    exact ⟨Nat.le_refl _, by simp [werr, h2], rfl⟩
  · simp +decide (disch := first | assumption | (apply GH.ok_push; assumption) | exact cellV_int _ _ | exact cellV_bool _ | omega) only [go_sem, ↓reduceIte, Nat.reduceEqDiff, Nat.reduceAdd, Int.reduceToNat, h2]
    refine CallD.calm (refIsWord_rets hX s (by omega) _) ?_
    rintro v g' hg ⟨rfl, rfl⟩
    cases q : (decide (s.size ≠ 0) && allD s) with
    | true =>
      simp +decide (disch := first | assumption | (apply GH.ok_push; assumption) | exact cellV_int _ _ | exact cellV_bool _ | omega) only [go_sem, ↓reduceIte, Nat.reduceEqDiff, Nat.reduceAdd, Int.reduceToNat]
      intro hx
      simp only [Bool.and_eq_true, decide_eq_true_eq] at q
      exact ⟨Nat.le_refl _, by rw [werr, if_neg h2, if_pos ⟨q.1, q.2⟩], rfl⟩
    | false =>
      simp +decide (disch := first | assumption | (apply GH.ok_push; assumption) | exact cellV_int _ _ | exact cellV_bool _ | omega) only [go_sem, ↓reduceIte, Nat.reduceEqDiff, Nat.reduceAdd, Int.reduceToNat]
      intro hx
      refine ⟨Nat.le_refl _, ?_, rfl⟩
      rw [werr, if_neg h2, if_neg]
      rintro ⟨a, b⟩
      simp [a, b] at q
end Go.Proofs.Ytgnnhenbmnopaaa
set_option maxRecDepth 100000
set_option maxHeartbeats 8000000
set_option linter.unusedSimpArgs false
set_option linter.unusedVariables false
namespace Go.Proofs.Ytgnnhenbmnopaaa
open Go.Ds Go.Aw
theorem take_last {l : List Nat} {i : Nat} (h0 : i ≠ 0) (h : i ≤ l.length) : (l.take i).getLast? = some (l[i - 1]'(by omega)) := by
  rw [List.getLast?_eq_getElem?, List.length_take, List.getElem?_take, if_pos (by omega), List.getElem?_eq_getElem (by omega)]
  congr 2
  omega
theorem take_succ' {l : List Nat} {i : Nat} (h : i < l.length) : l.take (i + 1) = l.take i ++ [l[i]] := by
  rw [List.take_add_one, List.getElem?_eq_getElem h]; rfl
theorem cellsP_inc (R : List (Nat × Nat)) (m e : Nat) : cellsP (R ++ [(m + 1, e)]) = (cellsP (R ++ [(m, e)])).set (R.length * 2) (.int .i64 ((m : Int) + 1)) := by
  rw [cellsP_snoc, cellsP_snoc, List.set_append_right _ _ (by rw [cellsP_len]; exact Nat.le_refl _), cellsP_len, Nat.sub_self]
  rfl
theorem cellsP_last (R : List (Nat × Nat)) (m e : Nat) : (cellsP (R ++ [(m, e)]))[R.length * 2]? = some (.int .i64 m) := by
  rw [cellsP_snoc, List.getElem?_append_right (by rw [cellsP_len]; exact Nat.le_refl _), cellsP_len, Nat.sub_self]
  rfl
theorem runsFrom_le : ∀ (l : List Nat) (k d : Nat), ∀ p ∈ runsFrom k d l, p.1 ≤ k + l.length
  | [], k, d, p, h => by simp [runsFrom] at h; simp [h]
  | x :: l, k, d, p, h => by
    unfold runsFrom at h
    split at h
    · have := runsFrom_le l _ _ p h; simp; omega
    · rcases List.mem_cons.1 h with q | q
      · subst q; simp
      · have := runsFrom_le l _ _ p q; simp; omega
theorem runs_le (w : List Nat) : ∀ p ∈ runs w, p.1 ≤ w.length := by
  cases w with
  | nil => intro p h; cases h
  | cons x l => intro p h; have := runsFrom_le l 1 x p h; simp; omega
theorem conv_dig (x : Nat) (h : x ≤ 9) : convF .i64 (.int .u8 (wrapF .u8 (48 + (x : Int) - 48))) = some (.int .i64 x) := by
  have e : (48 + (x : Int) - 48) = x := by omega
  rw [e]
  have : x = 0 ∨ x = 1 ∨ x = 2 ∨ x = 3 ∨ x = 4 ∨ x = 5 ∨ x = 6 ∨ x = 7 ∨ x = 8 ∨ x = 9 := by omega
  rcases this with rfl | rfl | rfl | rfl | rfl | rfl | rfl | rfl | rfl | rfl <;> rfl
theorem bslQ (x y a b : Value) : bsl 2 #[x, y] [(0, .agg #[a, b])] = some #[a, b] := rfl
theorem refRuns_rets {X : Caller} (hX : Xfr X) (ds : List Nat) (hd : Dig ds) (hlen : ds.length ≤ 1000000) (g : GH) :
    Rets Try.prog X 42 [.string (Try.txt ds)] g (fun v g' lo => g.next ≤ lo ∧ OwnQ g' v 2 (runs ds).length (cellsP (runs ds)) 52 g.next) := by
  refine Rets.run hX.pres p42 (hX.free 42 (by decide) _ _) rfl fun ho => ?_
  have hsz := Try.txt_size ds
  simp +decide (disch := first | assumption | (apply GH.ok_push; assumption) | exact cellV_int _ _ | exact cellV_bool _ | omega) only [go_sem, ↓reduceIte, Nat.reduceEqDiff, Nat.reduceAdd, Int.reduceToNat]
  refine Wk.loops (fun m e g' lo => g.next ≤ lo ∧ Kept g g' ∧ ∃ i : Nat, (i ≤ ds.length ∧ m = ds.length - i) ∧ ∃ o, (ev e (.s 0) = .string (Try.txt ds) ∧ ev e (.s 4) = .int .i64 i ∧ ev e (.s 3) = o) ∧ OwnQ g' o 2 (runs (ds.take i)).length (cellsP (runs (ds.take i))) 52 g.next)
    (fun e g' lo => g.next ≤ lo ∧ ∃ o, ev e (.s 3) = o ∧ OwnQ g' o 2 (runs ds).length (cellsP (runs ds)) 52 g.next) (n := ds.length) ?_ ?_ ?_
  · exact ⟨Nat.le_refl _, Kept.refl g, 0, ⟨Nat.zero_le _, rfl⟩, _, (by simp +decide (disch := first | assumption | (apply GH.ok_push; assumption) | exact cellV_int _ _ | exact cellV_bool _ | omega) only [go_sem, ↓reduceIte, Nat.reduceEqDiff, Nat.reduceAdd, Int.reduceToNat]; first | done | exact rfl), OwnQ.nil⟩
  · rintro e g' lo - - ⟨hlo, o, he, h⟩
    simp +decide (disch := first | assumption | (apply GH.ok_push; assumption) | exact cellV_int _ _ | exact cellV_bool _ | omega) only [go_sem, ↓reduceIte, Nat.reduceEqDiff, Nat.reduceAdd, Int.reduceToNat, he]
    intro hx
    exact ⟨hlo, h⟩
  · rintro m e g' lo ho' hl' ih out ⟨hlo, hk, i, ⟨hi, hm⟩, o, he, hown⟩
    have hkn := hk.next
    have hRl : (runs (ds.take i)).length ≤ i := by have := runs_len (ds.take i); rw [List.length_take] at this; omega
    by_cases c : i < ds.length
    · have hg := idx_w hd i c i rfl
      have hx9 := hd (ds[i]) (List.getElem_mem c)
      obtain ⟨x, hx⟩ : ∃ x, ds[i] = x := ⟨_, rfl⟩
      rw [hx] at hg hx9
      have ht : ds.take (i + 1) = ds.take i ++ [x] := by rw [take_succ' c, hx]
      -- a new run
      by_cases c0 : i = 0
      · subst c0
        have hg0 : idxSF (.string (Try.txt ds)) (.int .i64 0) = some (.int .u8 (48 + (x : Int))) := hg
        have hcv := conv_dig x hx9.2
        simp +decide (disch := first | assumption | exact cellV_int _ _ | exact cellV_bool _ | omega | (simp only [GH.pn, GH.sn] <;> omega) | (with_reducible ((repeat (first | apply GH.ok_push | apply GH.ok_set)); assumption)) | ((try simp only [GH.push_hid, GH.set_hid]); first | assumption | (refine GH.vis ?_ ?_ <;> first | assumption | ((try simp only [GH.pn, GH.sn]) <;> omega)))) only [go_sem, ↓reduceIte, Nat.reduceEqDiff, Nat.reduceAdd, Int.reduceToNat, Int.reduceAdd, Int.reduceNeg, Int.reduceSub, Int.reduceMul, Int.reduceLT, Int.reduceLE, Int.reduceEq, ↓GH.gp_eq, ↓GH.gp_ne, ↓GH.gs_eq, ↓GH.gs_ne, GH.push_next, GH.set_next, he, hsz, hg0, c, hcv, bslQ]
        refine AppD.ownQ (lw := g.next) (new := [.int .i64 (1 : Nat), .int .i64 x]) (tx := 52) (hown.kept ((Kept.refl g').push ho' _)) (by simp (disch := first | assumption | exact cellV_int _ _ | exact cellV_bool _ | omega | (simp only [GH.pn, GH.sn] <;> omega) | (with_reducible ((repeat (first | apply GH.ok_push | apply GH.ok_set)); assumption)) | ((try simp only [GH.push_hid, GH.set_hid]); first | assumption | (refine GH.vis ?_ ?_ <;> first | assumption | ((try simp only [GH.pn, GH.sn]) <;> omega)))) only [↓GH.gp_eq, ↓GH.gp_ne, ↓GH.gs_eq, ↓GH.gs_ne, GH.push_next, GH.set_next]; first | done | exact rfl) rfl (by omega) (by omega) rfl (by omega) (by simp only [GH.push_next]; omega) hlo (Nat.le_refl _) (GH.ok_push ho') (fun s' g8 lo8 sp wr hgr hlo8 => ?_)
        simp +decide (disch := first | assumption | (apply GH.ok_push; assumption) | exact cellV_int _ _ | exact cellV_bool _ | omega) only [go_sem, ↓reduceIte, Nat.reduceEqDiff, Nat.reduceAdd, Int.reduceToNat, he]
        refine ih (m - 1) _ _ _ (by omega) ⟨hlo8, (hk.push ho' _).grewQ hgr (Nat.le_refl _), 0 + 1, ⟨by omega, by omega⟩, s', (by simp +decide (disch := first | assumption | (apply GH.ok_push; assumption) | exact cellV_int _ _ | exact cellV_bool _ | omega) only [go_sem, ↓reduceIte, Nat.reduceEqDiff, Nat.reduceAdd, Int.reduceToNat, he]; first | done | exact rfl), ?_⟩
        have e1 : runs (ds.take (0 + 1)) = [(1, x)] := by rw [ht]; rfl
        rw [e1]
        exact hgr.own
      · obtain ⟨R, k, e, h1, h2, h3⟩ := runs_snoc (l := ds.take i) (by intro q; have := congrArg List.length q; rw [List.length_take, List.length_nil] at this; omega) x
        rw [← ht] at h3
        have he2 : (ds.take i).getLast? = some (ds[i - 1]'(by omega)) := take_last c0 hi
        rw [h2] at he2
        have hee : e = ds[i - 1]'(by omega) := Option.some.inj he2
        have hgm := idx_w hd (i - 1) (by omega) ((i : Int) - 1) (by omega)
        rw [← hee] at hgm
        rw [h1] at hown hRl
        have hk9 : k ≤ i := by
          have := runs_le (ds.take i) (k, e) (by rw [h1]; simp)
          rw [List.length_take] at this
          simp at this; omega
        have hi0 : (i : Int) > 0 := by omega
        by_cases cx : x = e
        · subst cx
          have hln := hown.read.len
          rw [List.length_append] at hln hRl
          obtain ⟨j, hj, hp1, hp2, hat⟩ := hown.at (i := R.length) (by simp)
          have hp := hp1 ((R.length : Int) + 1 - 1) (by omega)
          have hv := hp2 (lo := g'.next) (R.length * 2) _ (cellsP_last R k x)
          simp +decide (disch := first | assumption | exact cellV_int _ _ | exact cellV_bool _ | omega | (simp only [GH.pn, GH.sn] <;> omega) | (with_reducible ((repeat (first | apply GH.ok_push | apply GH.ok_set)); assumption)) | ((try simp only [GH.push_hid, GH.set_hid]); first | assumption | (refine GH.vis ?_ ?_ <;> first | assumption | ((try simp only [GH.pn, GH.sn]) <;> omega)))) only [go_sem, ↓reduceIte, Nat.reduceEqDiff, Nat.reduceAdd, Int.reduceToNat, Int.reduceAdd, Int.reduceNeg, Int.reduceSub, Int.reduceMul, Int.reduceLT, Int.reduceLE, Int.reduceEq, ↓GH.gp_eq, ↓GH.gp_ne, ↓GH.gs_eq, ↓GH.gs_ne, GH.push_next, GH.set_next, he, hsz, hg, hgm, c, hi0, hln, hp, hv]
          refine OwnQ.put hown hat (by rw [cellsP_len]; simp) (by simp +decide (disch := first | assumption | (apply GH.ok_push; assumption) | exact cellV_int _ _ | exact cellV_bool _ | omega) only [go_sem, ↓reduceIte, Nat.reduceEqDiff, Nat.reduceAdd, Int.reduceToNat, he, hp]; first | done | exact rfl) (by simp +decide (disch := first | assumption | (apply GH.ok_push; assumption) | exact cellV_int _ _ | exact cellV_bool _ | omega) only [go_sem, ↓reduceIte, Nat.reduceEqDiff, Nat.reduceAdd, Int.reduceToNat, he]; first | done | exact rfl) rfl rfl ho' hlo (Nat.le_refl _) fun g8 lo8 wr hw hown8 hlo8 => ?_
          simp +decide (disch := first | assumption | (apply GH.ok_push; assumption) | exact cellV_int _ _ | exact cellV_bool _ | omega) only [go_sem, ↓reduceIte, Nat.reduceEqDiff, Nat.reduceAdd, Int.reduceToNat, he]
          refine ih (m - 1) _ _ _ (by omega) ⟨hlo8, hk.write hw (Nat.le_refl _), i + 1, ⟨by omega, by omega⟩, o, (by simp +decide (disch := first | assumption | (apply GH.ok_push; assumption) | exact cellV_int _ _ | exact cellV_bool _ | omega) only [go_sem, ↓reduceIte, Nat.reduceEqDiff, Nat.reduceAdd, Int.reduceToNat, he]; first | done | exact rfl), ?_⟩
          rw [h3, if_pos rfl, cellsP_inc]
          simpa using hown8
        · have cx' : ¬ ((x : Int) = e) := by omega
          have hcv := conv_dig x hx9.2
          simp +decide (disch := first | assumption | exact cellV_int _ _ | exact cellV_bool _ | omega | (simp only [GH.pn, GH.sn] <;> omega) | (with_reducible ((repeat (first | apply GH.ok_push | apply GH.ok_set)); assumption)) | ((try simp only [GH.push_hid, GH.set_hid]); first | assumption | (refine GH.vis ?_ ?_ <;> first | assumption | ((try simp only [GH.pn, GH.sn]) <;> omega)))) only [go_sem, ↓reduceIte, Nat.reduceEqDiff, Nat.reduceAdd, Int.reduceToNat, Int.reduceAdd, Int.reduceNeg, Int.reduceSub, Int.reduceMul, Int.reduceLT, Int.reduceLE, Int.reduceEq, ↓GH.gp_eq, ↓GH.gp_ne, ↓GH.gs_eq, ↓GH.gs_ne, GH.push_next, GH.set_next, he, hsz, hg, hgm, c, hi0, hcv, bslQ, cx, cx']
          refine AppD.ownQ (lw := g.next) (new := [.int .i64 (1 : Nat), .int .i64 x]) (tx := 52) (hown.kept ((Kept.refl g').push ho' _)) (by simp (disch := first | assumption | exact cellV_int _ _ | exact cellV_bool _ | omega | (simp only [GH.pn, GH.sn] <;> omega) | (with_reducible ((repeat (first | apply GH.ok_push | apply GH.ok_set)); assumption)) | ((try simp only [GH.push_hid, GH.set_hid]); first | assumption | (refine GH.vis ?_ ?_ <;> first | assumption | ((try simp only [GH.pn, GH.sn]) <;> omega)))) only [↓GH.gp_eq, ↓GH.gp_ne, ↓GH.gs_eq, ↓GH.gs_ne, GH.push_next, GH.set_next]; first | done | exact rfl) rfl (by omega) (by omega) rfl (by omega) (by simp only [GH.push_next]; omega) hlo (Nat.le_refl _) (GH.ok_push ho') (fun s' g8 lo8 sp wr hgr hlo8 => ?_)
          simp +decide (disch := first | assumption | (apply GH.ok_push; assumption) | exact cellV_int _ _ | exact cellV_bool _ | omega) only [go_sem, ↓reduceIte, Nat.reduceEqDiff, Nat.reduceAdd, Int.reduceToNat, he]
          refine ih (m - 1) _ _ _ (by omega) ⟨hlo8, (hk.push ho' _).grewQ hgr (Nat.le_refl _), i + 1, ⟨by omega, by omega⟩, s', (by simp +decide (disch := first | assumption | (apply GH.ok_push; assumption) | exact cellV_int _ _ | exact cellV_bool _ | omega) only [go_sem, ↓reduceIte, Nat.reduceEqDiff, Nat.reduceAdd, Int.reduceToNat, he]; first | done | exact rfl), ?_⟩
          have e1 : runs (ds.take (i + 1)) = (R ++ [(k, e)]) ++ [(1, x)] := by rw [h3, if_neg cx]; simp
          rw [e1, cellsP_snoc, List.length_append]
          exact hgr.own
    · have hie : i = ds.length := by omega
      subst hie
      simp +decide (disch := first | assumption | exact cellV_int _ _ | exact cellV_bool _ | omega | (simp only [GH.pn, GH.sn] <;> omega) | (with_reducible ((repeat (first | apply GH.ok_push | apply GH.ok_set)); assumption)) | ((try simp only [GH.push_hid, GH.set_hid]); first | assumption | (refine GH.vis ?_ ?_ <;> first | assumption | ((try simp only [GH.pn, GH.sn]) <;> omega)))) only [go_sem, ↓reduceIte, Nat.reduceEqDiff, Nat.reduceAdd, Int.reduceToNat, Int.reduceAdd, Int.reduceNeg, Int.reduceSub, Int.reduceMul, Int.reduceLT, Int.reduceLE, Int.reduceEq, ↓GH.gp_eq, ↓GH.gp_ne, ↓GH.gs_eq, ↓GH.gs_ne, GH.push_next, GH.set_next, he, hsz]
      refine out _ _ _ ⟨hlo, o, (by simp +decide (disch := first | assumption | (apply GH.ok_push; assumption) | exact cellV_int _ _ | exact cellV_bool _ | omega) only [go_sem, ↓reduceIte, Nat.reduceEqDiff, Nat.reduceAdd, Int.reduceToNat, he]; first | done | exact rfl), ?_⟩
      rwa [List.take_length] at hown
end Go.Proofs.Ytgnnhenbmnopaaa
set_option maxRecDepth 100000
set_option maxHeartbeats 8000000
set_option linter.unusedSimpArgs false
set_option linter.unusedVariables false
namespace Go.Proofs.Ytgnnhenbmnopaaa
open Go.Ds Go.Aw
def bytesW (w : List Nat) : List Value := w.map fun (d : Nat) => Value.int .u8 (48 + (d : Int))
theorem bytesW_len (w : List Nat) : (bytesW w).length = w.length := by simp [bytesW]
theorem textGo_bytes : ∀ (w : List Nat) (s : ByteArray), (∀ d ∈ w, d ≤ 9) → textGo (bytesW w) s = some ⟨s.data ++ (w.map fun d => UInt8.ofNat (48 + d)).toArray⟩
  | [], s, h => by simp [bytesW, textGo]
  | d :: w, s, h => by
    have hd := h d (List.mem_cons_self ..)
    have ih := textGo_bytes w (s.push (UInt8.ofNat (48 + d))) (fun x hx => h x (List.mem_cons_of_mem _ hx))
    show textGo (bytesW w) (s.push (UInt8.ofNat (48 + (d : Int)).toNat)) = _
    rw [show (48 + (d : Int)).toNat = 48 + d by omega, ih]
    simp [ByteArray.push]
theorem text_bytes (w : List Nat) (h : ∀ d ∈ w, d ≤ 9) : textGo (bytesW w) .empty = some (Try.txt w) := by
  rw [textGo_bytes w _ h]
  simp [Try.txt, ByteArray.empty, ByteArray.emptyWithCapacity]
  rfl
theorem conv8_dig (x : Nat) (h : x ≤ 9) : convF .u8 (.int .i64 (48 + (x : Int))) = some (.int .u8 (48 + (x : Int))) := by
  have : x = 0 ∨ x = 1 ∨ x = 2 ∨ x = 3 ∨ x = 4 ∨ x = 5 ∨ x = 6 ∨ x = 7 ∨ x = 8 ∨ x = 9 := by omega
  rcases this with rfl | rfl | rfl | rfl | rfl | rfl | rfl | rfl | rfl | rfl <;> rfl
theorem bsl1V (x a : Value) (h : cellV a = true) : bsl 1 #[x] [(0, a)] = some #[a] := bsl1 h
theorem spell_dig {L : List (Nat × Nat)} (h : ∀ p ∈ L, p.1 ≤ 1000 ∧ p.2 ≤ 9) : ∀ d ∈ spell L, d ≤ 9 := by
  intro d hd
  simp only [spell, List.mem_flatMap] at hd
  obtain ⟨p, hp, hd⟩ := hd
  rw [(List.mem_replicate.1 hd).2]
  exact (h p hp).2
theorem take_pair {L : List (Nat × Nat)} {i : Nat} (h : i < L.length) : L.take (i + 1) = L.take i ++ [L[i]] := by
  rw [List.take_add_one, List.getElem?_eq_getElem h]; rfl
theorem spell_snoc (L : List (Nat × Nat)) (p : Nat × Nat) : spell (L ++ [p]) = spell L ++ List.replicate p.1 p.2 := by simp [spell]
/-- The specification's word with some runs. -/
theorem spelled_rets {X : Caller} (hX : Xfr X) (L : List (Nat × Nat)) (hL : ∀ p ∈ L, p.1 ≤ 1000 ∧ p.2 ≤ 9) (hlen : L.length ≤ 100000) (x : Value) (g : GH) (hs : SlQ g x 2 L.length (cellsP L)) :
    Rets Try.prog X 44 [x] g (fun v g' lo => g.next ≤ lo ∧ v = .string (Try.txt (spell L))) := by
  refine Rets.run hX.pres p44 (hX.free 44 (by decide) _ _) rfl fun ho => ?_
  have hln := hs.len
  simp +decide (disch := first | assumption | (apply GH.ok_push; assumption) | exact cellV_int _ _ | exact cellV_bool _ | omega) only [go_sem, ↓reduceIte, Nat.reduceEqDiff, Nat.reduceAdd, Int.reduceToNat]
  refine Wk.loops (fun m e g' lo => g.next ≤ lo ∧ Kept g g' ∧ ∃ i : Nat, (i ≤ L.length ∧ m = L.length - i) ∧ ∃ o, (ev e (.s 0) = x ∧ ev e (.s 4) = .int .i64 i ∧ ev e (.s 3) = o) ∧ OwnQ g' o 1 (spell (L.take i)).length (bytesW (spell (L.take i))) 5 g.next)
    (fun e g' lo => g.next ≤ lo ∧ ∃ o, ev e (.s 3) = o ∧ OwnQ g' o 1 (spell L).length (bytesW (spell L)) 5 g.next) (n := L.length) ?_ ?_ ?_
  · exact ⟨Nat.le_refl _, Kept.refl g, 0, ⟨Nat.zero_le _, rfl⟩, _, (by simp +decide (disch := first | assumption | (apply GH.ok_push; assumption) | exact cellV_int _ _ | exact cellV_bool _ | omega) only [go_sem, ↓reduceIte, Nat.reduceEqDiff, Nat.reduceAdd, Int.reduceToNat]; first | done | exact rfl), OwnQ.nil⟩
  · rintro e g' lo ho' - ⟨hlo, o, he, h⟩
    simp +decide (disch := first | assumption | (apply GH.ok_push; assumption) | exact cellV_int _ _ | exact cellV_bool _ | omega) only [go_sem, ↓reduceIte, Nat.reduceEqDiff, Nat.reduceAdd, Int.reduceToNat, he]
    refine Wk.txtQ (by simp +decide (disch := first | assumption | (apply GH.ok_push; assumption) | exact cellV_int _ _ | exact cellV_bool _ | omega) only [go_sem, ↓reduceIte, Nat.reduceEqDiff, Nat.reduceAdd, Int.reduceToNat, he]; first | done | exact rfl) h (text_bytes _ (spell_dig hL)) ?_
    simp +decide (disch := first | assumption | (apply GH.ok_push; assumption) | exact cellV_int _ _ | exact cellV_bool _ | omega) only [go_sem, ↓reduceIte, Nat.reduceEqDiff, Nat.reduceAdd, Int.reduceToNat, he]
    intro hx
    exact ⟨hlo, rfl⟩
  · rintro m e g' lo ho' hl' ih out ⟨hlo, hk, i, ⟨hi, hm⟩, o, he, hown⟩
    have hkn := hk.next
    by_cases c : i < L.length
    · have hp9 := hL L[i] (List.getElem_mem c)
      have hsl : (spell (L.take i)).length ≤ 1000 * i := by
        have := spell_len (L.take i) (fun p hp => (hL p (List.mem_of_mem_take hp)).1)
        rw [List.length_take] at this
        have e : min i L.length = i := by omega
        rwa [e] at this
      obtain ⟨q1, q2⟩ := cellsP_get L i c
      have ht := take_pair c
      obtain ⟨p, hp⟩ : ∃ p, L[i] = p := ⟨_, rfl⟩
      rw [hp] at hp9 q1 q2 ht
      simp +decide (disch := first | assumption | (apply GH.ok_push; assumption) | exact cellV_int _ _ | exact cellV_bool _ | omega) only [go_sem, ↓reduceIte, Nat.reduceEqDiff, Nat.reduceAdd, Int.reduceToNat, he, hln, c]
      refine Wk.loops (fun m e g' lo => g.next ≤ lo ∧ Kept g g' ∧ ∃ k : Nat, (k ≤ p.1 ∧ m = p.1 - k) ∧ ∃ o, (ev e (.s 0) = x ∧ ev e (.s 4) = .int .i64 i ∧ ev e (.s 3) = o ∧ ev e (.s 5) = .int .i64 k) ∧ OwnQ g' o 1 ((spell (L.take i)).length + k) (bytesW (spell (L.take i) ++ List.replicate k p.2)) 5 g.next)
        (fun e g' lo => g.next ≤ lo ∧ Kept g g' ∧ ∃ o, (ev e (.s 0) = x ∧ ev e (.s 4) = .int .i64 i ∧ ev e (.s 3) = o) ∧ OwnQ g' o 1 (spell (L.take (i + 1))).length (bytesW (spell (L.take (i + 1)))) 5 g.next) (n := p.1) ?_ ?_ ?_
      · exact ⟨hlo, hk, 0, ⟨Nat.zero_le _, rfl⟩, o, (by simp +decide (disch := first | assumption | (apply GH.ok_push; assumption) | exact cellV_int _ _ | exact cellV_bool _ | omega) only [go_sem, ↓reduceIte, Nat.reduceEqDiff, Nat.reduceAdd, Int.reduceToNat, he]; first | done | exact rfl), by simpa using hown⟩
      · rintro e g' lo - - ⟨hlo, hk, o, he, hown⟩
        simp +decide (disch := first | assumption | (apply GH.ok_push; assumption) | exact cellV_int _ _ | exact cellV_bool _ | omega) only [go_sem, ↓reduceIte, Nat.reduceEqDiff, Nat.reduceAdd, Int.reduceToNat, he]
        exact ih (m - 1) _ _ _ (by omega) ⟨hlo, hk, i + 1, ⟨by omega, by omega⟩, o, (by simp +decide (disch := first | assumption | (apply GH.ok_push; assumption) | exact cellV_int _ _ | exact cellV_bool _ | omega) only [go_sem, ↓reduceIte, Nat.reduceEqDiff, Nat.reduceAdd, Int.reduceToNat, he]; first | done | exact rfl), hown⟩
      · rintro m2 e g' lo ho' hl' ih2 out2 ⟨hlo, hk, k, ⟨hk1, hm2⟩, o, he, hown⟩
        have hkn := hk.next
        obtain ⟨j, a, hj, hp1, hp2, -⟩ := (hs.kept hk).ptr c
        have hp1 := hp1 (i : Int) rfl
        have hv0 : ∀ lo, loadF none (g'.at lo) (.pointer (some ⟨j, a, none⟩)) = some (.int .i64 p.1) := fun lo => hp2 lo 0 _ (by omega) q1
        have hv1 : ∀ lo, loadF none (g'.at lo) (.pointer (some ⟨j, a + 1, none⟩)) = some (.int .i64 p.2) := fun lo => hp2 lo 1 _ (by omega) q2
        by_cases c2 : k < p.1
        · have hcv := conv8_dig p.2 hp9.2
          simp +decide (disch := first | assumption | exact cellV_int _ _ | exact cellV_bool _ | omega | (simp only [GH.pn, GH.sn] <;> omega) | (with_reducible ((repeat (first | apply GH.ok_push | apply GH.ok_set)); assumption)) | ((try simp only [GH.push_hid, GH.set_hid]); first | assumption | (refine GH.vis ?_ ?_ <;> first | assumption | ((try simp only [GH.pn, GH.sn]) <;> omega)))) only [go_sem, ↓reduceIte, Nat.reduceEqDiff, Nat.reduceAdd, Int.reduceToNat, Int.reduceAdd, Int.reduceNeg, Int.reduceSub, Int.reduceMul, Int.reduceLT, Int.reduceLE, Int.reduceEq, ↓GH.gp_eq, ↓GH.gp_ne, ↓GH.gs_eq, ↓GH.gs_ne, GH.push_next, GH.set_next, he, hp1, hv0, hv1, c2, hcv, bsl1V]
          refine AppD.ownQ (lw := g.next) (new := [.int .u8 (48 + (p.2 : Int))]) (tx := 5) (hown.kept ((Kept.refl g').push ho' _)) (by simp (disch := first | assumption | exact cellV_int _ _ | exact cellV_bool _ | omega | (simp only [GH.pn, GH.sn] <;> omega) | (with_reducible ((repeat (first | apply GH.ok_push | apply GH.ok_set)); assumption)) | ((try simp only [GH.push_hid, GH.set_hid]); first | assumption | (refine GH.vis ?_ ?_ <;> first | assumption | ((try simp only [GH.pn, GH.sn]) <;> omega)))) only [↓GH.gp_eq, ↓GH.gp_ne, ↓GH.gs_eq, ↓GH.gs_ne, GH.push_next, GH.set_next]; first | done | exact rfl) rfl (by omega) (by omega) rfl (by omega) (by simp only [GH.push_next]; omega) hlo (Nat.le_refl _) (GH.ok_push ho') (fun s' g8 lo8 sp wr hgr hlo8 => ?_)
          simp +decide (disch := first | assumption | (apply GH.ok_push; assumption) | exact cellV_int _ _ | exact cellV_bool _ | omega) only [go_sem, ↓reduceIte, Nat.reduceEqDiff, Nat.reduceAdd, Int.reduceToNat, he]
          refine ih2 (m2 - 1) _ _ _ (by omega) ⟨hlo8, (hk.push ho' _).grewQ hgr (Nat.le_refl _), k + 1, ⟨by omega, by omega⟩, s', (by simp +decide (disch := first | assumption | (apply GH.ok_push; assumption) | exact cellV_int _ _ | exact cellV_bool _ | omega) only [go_sem, ↓reduceIte, Nat.reduceEqDiff, Nat.reduceAdd, Int.reduceToNat, he]; first | done | exact rfl), ?_⟩
          have e1 : bytesW (spell (L.take i) ++ List.replicate (k + 1) p.2) = bytesW (spell (L.take i) ++ List.replicate k p.2) ++ [.int .u8 (48 + (p.2 : Int))] := by
            rw [List.replicate_succ', ← List.append_assoc]
            simp [bytesW]
          rw [e1]
          exact hgr.own
        · have : k = p.1 := by omega
          subst this
          simp +decide (disch := first | assumption | exact cellV_int _ _ | exact cellV_bool _ | omega | (simp only [GH.pn, GH.sn] <;> omega) | (with_reducible ((repeat (first | apply GH.ok_push | apply GH.ok_set)); assumption)) | ((try simp only [GH.push_hid, GH.set_hid]); first | assumption | (refine GH.vis ?_ ?_ <;> first | assumption | ((try simp only [GH.pn, GH.sn]) <;> omega)))) only [go_sem, ↓reduceIte, Nat.reduceEqDiff, Nat.reduceAdd, Int.reduceToNat, Int.reduceAdd, Int.reduceNeg, Int.reduceSub, Int.reduceMul, Int.reduceLT, Int.reduceLE, Int.reduceEq, ↓GH.gp_eq, ↓GH.gp_ne, ↓GH.gs_eq, ↓GH.gs_ne, GH.push_next, GH.set_next, he, hp1, hv0]
          refine out2 _ _ _ ⟨hlo, hk, o, (by simp +decide (disch := first | assumption | (apply GH.ok_push; assumption) | exact cellV_int _ _ | exact cellV_bool _ | omega) only [go_sem, ↓reduceIte, Nat.reduceEqDiff, Nat.reduceAdd, Int.reduceToNat, he]; first | done | exact rfl), ?_⟩
          rw [ht, spell_snoc, List.length_append, List.length_replicate]
          exact hown
    · have hie : i = L.length := by omega
      subst hie
      simp +decide (disch := first | assumption | exact cellV_int _ _ | exact cellV_bool _ | omega | (simp only [GH.pn, GH.sn] <;> omega) | (with_reducible ((repeat (first | apply GH.ok_push | apply GH.ok_set)); assumption)) | ((try simp only [GH.push_hid, GH.set_hid]); first | assumption | (refine GH.vis ?_ ?_ <;> first | assumption | ((try simp only [GH.pn, GH.sn]) <;> omega)))) only [go_sem, ↓reduceIte, Nat.reduceEqDiff, Nat.reduceAdd, Int.reduceToNat, Int.reduceAdd, Int.reduceNeg, Int.reduceSub, Int.reduceMul, Int.reduceLT, Int.reduceLE, Int.reduceEq, ↓GH.gp_eq, ↓GH.gp_ne, ↓GH.gs_eq, ↓GH.gs_ne, GH.push_next, GH.set_next, he, hln]
      refine out _ _ _ ⟨hlo, o, (by simp +decide (disch := first | assumption | (apply GH.ok_push; assumption) | exact cellV_int _ _ | exact cellV_bool _ | omega) only [go_sem, ↓reduceIte, Nat.reduceEqDiff, Nat.reduceAdd, Int.reduceToNat, he]; first | done | exact rfl), ?_⟩
      rwa [List.take_length] at hown
end Go.Proofs.Ytgnnhenbmnopaaa
set_option maxRecDepth 100000
set_option maxHeartbeats 8000000
set_option linter.unusedSimpArgs false
set_option linter.unusedVariables false
namespace Go.Proofs.Ytgnnhenbmnopaaa
open Go.Ds Go.Aw
theorem flat_snoc (L : List (Nat × Nat)) (p : Nat × Nat) : flat (L ++ [p]) = flat L ++ [p.1, p.2] := by simp [flat]
theorem flat_dig {L : List (Nat × Nat)} (h : ∀ p ∈ L, p.1 ≤ 9 ∧ p.2 ≤ 9) : ∀ d ∈ flat L, d ≤ 9 := by
  intro d hd
  simp only [flat, List.mem_flatMap] at hd
  obtain ⟨p, hp, hd⟩ := hd
  have := h p hp
  simp at hd
  rcases hd with e | e <;> omega
theorem bsl2V (x y a b : Value) (h : cellV a = true) (h2 : cellV b = true) : bsl 1 #[x, y] [(0, a), (1, b)] = some #[a, b] := bsl2 h h2
/-- What the specification says of a word. -/
def rsaidV (ds : List Nat) : Value := .tuple #[.string (if Sayable ds then Try.txt (say ds) else ⟨#[]⟩), .bool (decide (Sayable ds))]
theorem refSaid_rets {X : Caller} (hX : Xfr X) (ds : List Nat) (hd : Dig ds) (hlen : ds.length ≤ 1000000) (g : GH) :
    Rets Try.prog X 46 [.string (Try.txt ds)] g (fun v g' lo => g.next ≤ lo ∧ v = rsaidV ds) := by
  refine Rets.run hX.pres p46 (hX.free 46 (by decide) _ _) rfl fun ho => ?_
  simp +decide (disch := first | assumption | (apply GH.ok_push; assumption) | exact cellV_int _ _ | exact cellV_bool _ | omega) only [go_sem, ↓reduceIte, Nat.reduceEqDiff, Nat.reduceAdd, Int.reduceToNat]
  refine CallD.calm (refRuns_rets hX ds hd hlen _) ?_
  rintro r g1 hx1 hrow
  have hn1 := hx1.next
  have ho1 := hx1.ok ho
  have hln := hrow.read.len
  have hRl := runs_len ds
  simp +decide (disch := first | assumption | (apply GH.ok_push; assumption) | exact cellV_int _ _ | exact cellV_bool _ | omega) only [go_sem, ↓reduceIte, Nat.reduceEqDiff, Nat.reduceAdd, Int.reduceToNat]
  refine Wk.loops (fun m e g' lo => g.next ≤ lo ∧ Kept g1 g' ∧ ∃ i : Nat, (i ≤ (runs ds).length ∧ m = (runs ds).length - i) ∧ (∀ p ∈ (runs ds).take i, p.1 ≤ 9) ∧ ∃ o, (ev e (.s 4) = r ∧ ev e (.s 6) = .int .i64 i ∧ ev e (.s 5) = o) ∧ OwnQ g' o 1 (2 * i) (bytesW (flat ((runs ds).take i))) 5 g1.next)
    (fun e g' lo => g.next ≤ lo ∧ Sayable ds ∧ ∃ o, ev e (.s 5) = o ∧ OwnQ g' o 1 (2 * (runs ds).length) (bytesW (flat (runs ds))) 5 g1.next) (n := (runs ds).length) ?_ ?_ ?_
  · exact ⟨Nat.le_refl _, Kept.refl g1, 0, ⟨Nat.zero_le _, rfl⟩, by simp, _, (by simp +decide (disch := first | assumption | (apply GH.ok_push; assumption) | exact cellV_int _ _ | exact cellV_bool _ | omega) only [go_sem, ↓reduceIte, Nat.reduceEqDiff, Nat.reduceAdd, Int.reduceToNat]; first | done | exact rfl), OwnQ.nil⟩
  · rintro e g' lo ho' - ⟨hlo, hsy, o, he, h⟩
    simp +decide (disch := first | assumption | (apply GH.ok_push; assumption) | exact cellV_int _ _ | exact cellV_bool _ | omega) only [go_sem, ↓reduceIte, Nat.reduceEqDiff, Nat.reduceAdd, Int.reduceToNat, he]
    refine Wk.txtQ (by simp +decide (disch := first | assumption | (apply GH.ok_push; assumption) | exact cellV_int _ _ | exact cellV_bool _ | omega) only [go_sem, ↓reduceIte, Nat.reduceEqDiff, Nat.reduceAdd, Int.reduceToNat, he]; first | done | exact rfl) h (text_bytes _ (flat_dig fun p hp => ⟨hsy p hp, (runs_dig hd p hp).2⟩)) ?_
    simp +decide (disch := first | assumption | (apply GH.ok_push; assumption) | exact cellV_int _ _ | exact cellV_bool _ | omega) only [go_sem, ↓reduceIte, Nat.reduceEqDiff, Nat.reduceAdd, Int.reduceToNat, he]
    intro hx
    refine ⟨hlo, ?_⟩
    simp only [rsaidV, if_pos hsy, decide_eq_true hsy]
    rfl
  · rintro m e g' lo ho' hl' ih out ⟨hlo, hk, i, ⟨hi, hm⟩, hp9, o, he, hown⟩
    have hkn := hk.next
    by_cases c : i < (runs ds).length
    · obtain ⟨q1, q2⟩ := cellsP_get (runs ds) i c
      have ht := take_pair c
      have hmem := List.getElem_mem c
      obtain ⟨p, hp⟩ : ∃ p, (runs ds)[i] = p := ⟨_, rfl⟩
      rw [hp] at q1 q2 ht hmem
      have hp2 := runs_dig hd p hmem
      obtain ⟨j, a, hj, hp1, hv, -⟩ := (hrow.read.kept hk).ptr c
      have hp1 := hp1 (i : Int) rfl
      have hv0 : ∀ lo, loadF none (g'.at lo) (.pointer (some ⟨j, a, none⟩)) = some (.int .i64 p.1) := fun lo => hv lo 0 _ (by omega) q1
      have hv1 : ∀ lo, loadF none (g'.at lo) (.pointer (some ⟨j, a + 1, none⟩)) = some (.int .i64 p.2) := fun lo => hv lo 1 _ (by omega) q2
      by_cases c9 : p.1 ≤ 9
      · have c9' : ¬ (p.1 : Int) > 9 := by omega
        have hcv := conv8_dig p.1 c9
        have hcv2 := conv8_dig p.2 hp2.2
        simp +decide (disch := first | assumption | exact cellV_int _ _ | exact cellV_bool _ | omega | (simp only [GH.pn, GH.sn] <;> omega) | (with_reducible ((repeat (first | apply GH.ok_push | apply GH.ok_set)); assumption)) | ((try simp only [GH.push_hid, GH.set_hid]); first | assumption | (refine GH.vis ?_ ?_ <;> first | assumption | ((try simp only [GH.pn, GH.sn]) <;> omega)))) only [go_sem, ↓reduceIte, Nat.reduceEqDiff, Nat.reduceAdd, Int.reduceToNat, Int.reduceAdd, Int.reduceNeg, Int.reduceSub, Int.reduceMul, Int.reduceLT, Int.reduceLE, Int.reduceEq, ↓GH.gp_eq, ↓GH.gp_ne, ↓GH.gs_eq, ↓GH.gs_ne, GH.push_next, GH.set_next, he, hln, hp1, hv0, hv1, c, c9, c9', hcv, hcv2, bsl2V]
        refine AppD.ownQ (lw := g.next) (new := [.int .u8 (48 + (p.1 : Int)), .int .u8 (48 + (p.2 : Int))]) (tx := 5) (hown.kept ((Kept.refl g').push ho' _)) (by simp (disch := first | assumption | exact cellV_int _ _ | exact cellV_bool _ | omega | (simp only [GH.pn, GH.sn] <;> omega) | (with_reducible ((repeat (first | apply GH.ok_push | apply GH.ok_set)); assumption)) | ((try simp only [GH.push_hid, GH.set_hid]); first | assumption | (refine GH.vis ?_ ?_ <;> first | assumption | ((try simp only [GH.pn, GH.sn]) <;> omega)))) only [↓GH.gp_eq, ↓GH.gp_ne, ↓GH.gs_eq, ↓GH.gs_ne, GH.push_next, GH.set_next]; first | done | exact rfl) rfl (by omega) (by omega) rfl (by omega) (by simp only [GH.push_next]; omega) hlo (by omega) (GH.ok_push ho') (fun s' g8 lo8 sp wr hgr hlo8 => ?_)
        simp +decide (disch := first | assumption | (apply GH.ok_push; assumption) | exact cellV_int _ _ | exact cellV_bool _ | omega) only [go_sem, ↓reduceIte, Nat.reduceEqDiff, Nat.reduceAdd, Int.reduceToNat, he]
        refine ih (m - 1) _ _ _ (by omega) ⟨hlo8, (hk.push ho' _).grewQ hgr (Nat.le_refl _), i + 1, ⟨by omega, by omega⟩, ?_, s', (by simp +decide (disch := first | assumption | (apply GH.ok_push; assumption) | exact cellV_int _ _ | exact cellV_bool _ | omega) only [go_sem, ↓reduceIte, Nat.reduceEqDiff, Nat.reduceAdd, Int.reduceToNat, he]; first | done | exact rfl), ?_⟩
        · rw [ht]
          intro q hq
          rcases List.mem_append.1 hq with z | z
          · exact hp9 q z
          · simp at z; subst z; exact c9
        · have e1 : bytesW (flat ((runs ds).take (i + 1))) = bytesW (flat ((runs ds).take i)) ++ [.int .u8 (48 + (p.1 : Int)), .int .u8 (48 + (p.2 : Int))] := by
            rw [ht, flat_snoc]
            simp [bytesW]
          rw [e1, show 2 * (i + 1) = 2 * i + 2 by omega]
          exact hgr.own
      · have c9' : (p.1 : Int) > 9 := by omega
        simp +decide (disch := first | assumption | exact cellV_int _ _ | exact cellV_bool _ | omega | (simp only [GH.pn, GH.sn] <;> omega) | (with_reducible ((repeat (first | apply GH.ok_push | apply GH.ok_set)); assumption)) | ((try simp only [GH.push_hid, GH.set_hid]); first | assumption | (refine GH.vis ?_ ?_ <;> first | assumption | ((try simp only [GH.pn, GH.sn]) <;> omega)))) only [go_sem, ↓reduceIte, Nat.reduceEqDiff, Nat.reduceAdd, Int.reduceToNat, Int.reduceAdd, Int.reduceNeg, Int.reduceSub, Int.reduceMul, Int.reduceLT, Int.reduceLE, Int.reduceEq, ↓GH.gp_eq, ↓GH.gp_ne, ↓GH.gs_eq, ↓GH.gs_ne, GH.push_next, GH.set_next, he, hln, hp1, hv0, c, c9, c9']
        intro hx
        have hsn : ¬ Sayable ds := fun hs => c9 (hs p hmem)
        refine ⟨hlo, ?_⟩
        simp only [rsaidV, if_neg hsn, decide_eq_false hsn]
    · have hie : i = (runs ds).length := by omega
      subst hie
      simp +decide (disch := first | assumption | exact cellV_int _ _ | exact cellV_bool _ | omega | (simp only [GH.pn, GH.sn] <;> omega) | (with_reducible ((repeat (first | apply GH.ok_push | apply GH.ok_set)); assumption)) | ((try simp only [GH.push_hid, GH.set_hid]); first | assumption | (refine GH.vis ?_ ?_ <;> first | assumption | ((try simp only [GH.pn, GH.sn]) <;> omega)))) only [go_sem, ↓reduceIte, Nat.reduceEqDiff, Nat.reduceAdd, Int.reduceToNat, Int.reduceAdd, Int.reduceNeg, Int.reduceSub, Int.reduceMul, Int.reduceLT, Int.reduceLE, Int.reduceEq, ↓GH.gp_eq, ↓GH.gp_ne, ↓GH.gs_eq, ↓GH.gs_ne, GH.push_next, GH.set_next, he, hln]
      rw [List.take_length] at hown hp9
      exact out _ _ _ ⟨hlo, hp9, o, (by simp +decide (disch := first | assumption | (apply GH.ok_push; assumption) | exact cellV_int _ _ | exact cellV_bool _ | omega) only [go_sem, ↓reduceIte, Nat.reduceEqDiff, Nat.reduceAdd, Int.reduceToNat, he]; first | done | exact rfl), hown⟩
end Go.Proofs.Ytgnnhenbmnopaaa
