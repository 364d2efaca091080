import Derived.Test.YtgnnhenbmnopaaaK4
import Derived.Test.YtgnnhenbmnopaaaDtO
import Derived.Test.YtgnnhenbmnopaaaKa
set_option linter.all false
set_option linter.unusedSimpArgs false
set_option linter.unnecessarySimpa false
set_option linter.unusedVariables false
set_option linter.unusedSectionVars false
set_option maxRecDepth 100000
set_option maxHeartbeats 4000000
set_option linter.unusedSimpArgs false
set_option linter.unusedVariables false
namespace Go.Proofs.Ytgnnhenbmnopaaa
open Go.Ds Go.Aw
theorem idx_s (s : ByteArray) (i : Nat) (h : i < s.size) (n : Int) (hn : n = i) : idxSF (.string s) (.int .i64 n) = some (.int .u8 ((s[i]'h).toNat : Int)) := by
  subst hn
  simp only [idxSF, asNat_nat]
  rw [getElem?_pos s i h]
theorem idx_w {ds : List Nat} (hd : Dig ds) (i : Nat) (h : i < ds.length) (n : Int) (hn : n = i) : idxSF (.string (Try.txt ds)) (.int .i64 n) = some (.int .u8 (48 + (ds[i] : Int))) := by
  have h' : i < (Try.txt ds).size := by rw [Try.txt_size]; exact h
  rw [idx_s _ i h' n hn, Try.txt_get hd i h']
  congr 2
/-- The specification's judgement of a word. -/
theorem refIsWord_rets {X : Caller} (hX : Xfr X) (s : ByteArray) (h200 : s.size ≤ 200) (g : GH) : Rets Try.prog X 39 [.string s] g (fun v g' lo => g.next ≤ lo ∧ v = .bool (decide (s.size ≠ 0) && allD s) ∧ g' = g) := by
  refine Rets.run hX.pres p39 (hX.free 39 (by decide) _ _) rfl fun ho => ?_
  simp +decide (disch := first | assumption | (apply GH.ok_push; assumption) | exact cellV_int _ _ | exact cellV_bool _ | omega) only [go_sem, ↓reduceIte, Nat.reduceEqDiff, Nat.reduceAdd, Int.reduceToNat]
  refine Wk.loops (fun m e g' lo => g' = g ∧ g.next ≤ lo ∧ ∃ i : Nat, (i ≤ s.size ∧ m = s.size - i) ∧ (ev e (.s 0) = .string s ∧ ev e (.s 3) = .int .i64 i) ∧ ∀ (k : Nat) (h : k < s.size), k < i → 49 ≤ (s[k]'h).toNat ∧ (s[k]'h).toNat ≤ 57)
    (fun e g' lo => g' = g ∧ g.next ≤ lo ∧ ev e (.s 0) = .string s ∧ allD s = true) (n := s.size) ?_ ?_ ?_
  · exact ⟨rfl, Nat.le_refl _, 0, ⟨Nat.zero_le _, rfl⟩, (by simp +decide (disch := first | assumption | (apply GH.ok_push; assumption) | exact cellV_int _ _ | exact cellV_bool _ | omega) only [go_sem, ↓reduceIte, Nat.reduceEqDiff, Nat.reduceAdd, Int.reduceToNat]; first | done | exact rfl), fun k h q => by omega⟩
  · rintro e g' lo - - ⟨rfl, hlo, he, h⟩
    simp +decide (disch := first | assumption | (apply GH.ok_push; assumption) | exact cellV_int _ _ | exact cellV_bool _ | omega) only [go_sem, ↓reduceIte, Nat.reduceEqDiff, Nat.reduceAdd, Int.reduceToNat, he]
    intro hx
    refine ⟨hlo, ?_, rfl⟩
    rw [h]
    by_cases c : s.size = 0
    · simp [c]
    · simp [c]; omega
  · rintro m e g' lo ho' hl' ih out ⟨rfl, hlo, i, ⟨hi, hm⟩, he, hp⟩
    by_cases c : i < s.size
    · have hg := idx_s s i c i rfl
      have fall : ∀ (q : ¬ (49 ≤ (s[i]'c).toNat ∧ (s[i]'c).toNat ≤ 57)), allD s = false := fun q => by
        cases h : allD s with
        | false => rfl
        | true => exact absurd (allD_get.1 h i c) q
      by_cases d1 : 49 ≤ (s[i]'c).toNat
      · by_cases d2 : (s[i]'c).toNat ≤ 57
        · simp +decide (disch := first | assumption | (apply GH.ok_push; assumption) | exact cellV_int _ _ | exact cellV_bool _ | omega) only [go_sem, ↓reduceIte, Nat.reduceEqDiff, Nat.reduceAdd, Int.reduceToNat, he, hg, d1, d2]
          refine ih (m - 1) _ _ _ (by omega) ⟨rfl, hlo, i + 1, ⟨by omega, by omega⟩, (by simp +decide (disch := first | assumption | (apply GH.ok_push; assumption) | exact cellV_int _ _ | exact cellV_bool _ | omega) only [go_sem, ↓reduceIte, Nat.reduceEqDiff, Nat.reduceAdd, Int.reduceToNat, he]; first | done | exact rfl), ?_⟩
          intro k h hk
          rcases Nat.lt_or_ge k i with q | q
          · exact hp k h q
          · obtain rfl : k = i := by omega
            exact ⟨d1, d2⟩
        · simp +decide (disch := first | assumption | (apply GH.ok_push; assumption) | exact cellV_int _ _ | exact cellV_bool _ | omega) only [go_sem, ↓reduceIte, Nat.reduceEqDiff, Nat.reduceAdd, Int.reduceToNat, he, hg, d1, d2]
          intro hx
          refine ⟨hlo, ?_, rfl⟩
          simp [fall (fun q => d2 q.2)]
      · simp +decide (disch := first | assumption | (apply GH.ok_push; assumption) | exact cellV_int _ _ | exact cellV_bool _ | omega) only [go_sem, ↓reduceIte, Nat.reduceEqDiff, Nat.reduceAdd, Int.reduceToNat, he, hg, d1]
        intro hx
        refine ⟨hlo, ?_, rfl⟩
        simp [fall (fun q => d1 q.1)]
    · simp +decide (disch := first | assumption | (apply GH.ok_push; assumption) | exact cellV_int _ _ | exact cellV_bool _ | omega) only [go_sem, ↓reduceIte, Nat.reduceEqDiff, Nat.reduceAdd, Int.reduceToNat, he]
      refine out _ _ _ ⟨rfl, hlo, (by simp +decide (disch := first | assumption | (apply GH.ok_push; assumption) | exact cellV_int _ _ | exact cellV_bool _ | omega) only [go_sem, ↓reduceIte, Nat.reduceEqDiff, Nat.reduceAdd, Int.reduceToNat, he]; first | done | exact rfl), allD_get.2 fun k h => hp k h (by omega)⟩
theorem refWord_rets {X : Caller} (hX : Xfr X) (s : ByteArray) (g : GH) : Rets Try.prog X 19 [.string s] g (fun v g' lo => g.next ≤ lo ∧ v = .int .i64 (werr s) ∧ g' = g) := by
  refine Rets.run hX.pres p19 (hX.free 19 (by decide) _ _) rfl fun ho => ?_
  by_cases h2 : 200 < s.size
  · simp +decide (disch := first | assumption | (apply GH.ok_push; assumption) | exact cellV_int _ _ | exact cellV_bool _ | omega) only [go_sem, ↓reduceIte, Nat.reduceEqDiff, Nat.reduceAdd, Int.reduceToNat, h2]
    intro hx
    exact ⟨Nat.le_refl _, by simp [werr, h2], rfl⟩
  · simp +decide (disch := first | assumption | (apply GH.ok_push; assumption) | exact cellV_int _ _ | exact cellV_bool _ | omega) only [go_sem, ↓reduceIte, Nat.reduceEqDiff, Nat.reduceAdd, Int.reduceToNat, h2]
    refine CallD.calm (refIsWord_rets hX s (by omega) _) ?_
    rintro v g' hg ⟨rfl, rfl⟩
    cases q : (decide (s.size ≠ 0) && allD s) with
    | true =>
      simp +decide (disch := first | assumption | (apply GH.ok_push; assumption) | exact cellV_int _ _ | exact cellV_bool _ | omega) only [go_sem, ↓reduceIte, Nat.reduceEqDiff, Nat.reduceAdd, Int.reduceToNat]
      intro hx
      simp only [Bool.and_eq_true, decide_eq_true_eq] at q
      exact ⟨Nat.le_refl _, by rw [werr, if_neg h2, if_pos ⟨q.1, q.2⟩], rfl⟩
    | false =>
      simp +decide (disch := first | assumption | (apply GH.ok_push; assumption) | exact cellV_int _ _ | exact cellV_bool _ | omega) only [go_sem, ↓reduceIte, Nat.reduceEqDiff, Nat.reduceAdd, Int.reduceToNat]
      intro hx
      refine ⟨Nat.le_refl _, ?_, rfl⟩
      rw [werr, if_neg h2, if_neg]
      rintro ⟨a, b⟩
      simp [a, b] at q
end Go.Proofs.Ytgnnhenbmnopaaa
set_option maxRecDepth 100000
set_option maxHeartbeats 8000000
set_option linter.unusedSimpArgs false
set_option linter.unusedVariables false
namespace Go.Proofs.Ytgnnhenbmnopaaa
open Go.Ds Go.Aw
theorem take_last {l : List Nat} {i : Nat} (h0 : i ≠ 0) (h : i ≤ l.length) : (l.take i).getLast? = some (l[i - 1]'(by omega)) := by
  rw [List.getLast?_eq_getElem?, List.length_take, List.getElem?_take, if_pos (by omega), List.getElem?_eq_getElem (by omega)]
  congr 2
  omega
theorem take_succ' {l : List Nat} {i : Nat} (h : i < l.length) : l.take (i + 1) = l.take i ++ [l[i]] := by
  rw [List.take_add_one, List.getElem?_eq_getElem h]; rfl
theorem cellsP_inc (R : List (Nat × Nat)) (m e : Nat) : cellsP (R ++ [(m + 1, e)]) = (cellsP (R ++ [(m, e)])).set (R.length * 2) (.int .i64 ((m : Int) + 1)) := by
  rw [cellsP_snoc, cellsP_snoc, List.set_append_right _ _ (by rw [cellsP_len]; exact Nat.le_refl _), cellsP_len, Nat.sub_self]
  rfl
theorem cellsP_last (R : List (Nat × Nat)) (m e : Nat) : (cellsP (R ++ [(m, e)]))[R.length * 2]? = some (.int .i64 m) := by
  rw [cellsP_snoc, List.getElem?_append_right (by rw [cellsP_len]; exact Nat.le_refl _), cellsP_len, Nat.sub_self]
  rfl
theorem runsFrom_le : ∀ (l : List Nat) (k d : Nat), ∀ p ∈ runsFrom k d l, p.1 ≤ k + l.length
  | [], k, d, p, h => by simp [runsFrom] at h; simp [h]
  | x :: l, k, d, p, h => by
    unfold runsFrom at h
    split at h
    · have := runsFrom_le l _ _ p h; simp; omega
    · rcases List.mem_cons.1 h with q | q
      · subst q; simp
      · have := runsFrom_le l _ _ p q; simp; omega
theorem runs_le (w : List Nat) : ∀ p ∈ runs w, p.1 ≤ w.length := by
  cases w with
  | nil => intro p h; cases h
  | cons x l => intro p h; have := runsFrom_le l 1 x p h; simp; omega
theorem conv_dig (x : Nat) (h : x ≤ 9) : convF .i64 (.int .u8 (wrapF .u8 (48 + (x : Int) - 48))) = some (.int .i64 x) := by
  have e : (48 + (x : Int) - 48) = x := by omega
  rw [e]
  have : x = 0 ∨ x = 1 ∨ x = 2 ∨ x = 3 ∨ x = 4 ∨ x = 5 ∨ x = 6 ∨ x = 7 ∨ x = 8 ∨ x = 9 := by omega
  rcases this with rfl | rfl | rfl | rfl | rfl | rfl | rfl | rfl | rfl | rfl <;> rfl
theorem bslQ (x y a b : Value) : bsl 2 #[x, y] [(0, .agg #[a, b])] = some #[a, b] := rfl
theorem refRuns_rets {X : Caller} (hX : Xfr X) (ds : List Nat) (hd : Dig ds) (hlen : ds.length ≤ 1000000) (g : GH) :
    Rets Try.prog X 42 [.string (Try.txt ds)] g (fun v g' lo => g.next ≤ lo ∧ OwnQ g' v 2 (runs ds).length (cellsP (runs ds)) 52 g.next) := by
  refine Rets.run hX.pres p42 (hX.free 42 (by decide) _ _) rfl fun ho => ?_
  have hsz := Try.txt_size ds
  simp +decide (disch := first | assumption | (apply GH.ok_push; assumption) | exact cellV_int _ _ | exact cellV_bool _ | omega) only [go_sem, ↓reduceIte, Nat.reduceEqDiff, Nat.reduceAdd, Int.reduceToNat]
  refine Wk.loops (fun m e g' lo => g.next ≤ lo ∧ Kept g g' ∧ ∃ i : Nat, (i ≤ ds.length ∧ m = ds.length - i) ∧ ∃ o, (ev e (.s 0) = .string (Try.txt ds) ∧ ev e (.s 4) = .int .i64 i ∧ ev e (.s 3) = o) ∧ OwnQ g' o 2 (runs (ds.take i)).length (cellsP (runs (ds.take i))) 52 g.next)
    (fun e g' lo => g.next ≤ lo ∧ ∃ o, ev e (.s 3) = o ∧ OwnQ g' o 2 (runs ds).length (cellsP (runs ds)) 52 g.next) (n := ds.length) ?_ ?_ ?_
  · exact ⟨Nat.le_refl _, Kept.refl g, 0, ⟨Nat.zero_le _, rfl⟩, _, (by simp +decide (disch := first | assumption | (apply GH.ok_push; assumption) | exact cellV_int _ _ | exact cellV_bool _ | omega) only [go_sem, ↓reduceIte, Nat.reduceEqDiff, Nat.reduceAdd, Int.reduceToNat]; first | done | exact rfl), OwnQ.nil⟩
  · rintro e g' lo - - ⟨hlo, o, he, h⟩
    simp +decide (disch := first | assumption | (apply GH.ok_push; assumption) | exact cellV_int _ _ | exact cellV_bool _ | omega) only [go_sem, ↓reduceIte, Nat.reduceEqDiff, Nat.reduceAdd, Int.reduceToNat, he]
    intro hx
    exact ⟨hlo, h⟩
  · rintro m e g' lo ho' hl' ih out ⟨hlo, hk, i, ⟨hi, hm⟩, o, he, hown⟩
    have hkn := hk.next
    have hRl : (runs (ds.take i)).length ≤ i := by have := runs_len (ds.take i); rw [List.length_take] at this; omega
    by_cases c : i < ds.length
    · have hg := idx_w hd i c i rfl
      have hx9 := hd (ds[i]) (List.getElem_mem c)
      obtain ⟨x, hx⟩ : ∃ x, ds[i] = x := ⟨_, rfl⟩
      rw [hx] at hg hx9
      have ht : ds.take (i + 1) = ds.take i ++ [x] := by rw [take_succ' c, hx]
      -- a new run
      by_cases c0 : i = 0
      · subst c0
        have hg0 : idxSF (.string (Try.txt ds)) (.int .i64 0) = some (.int .u8 (48 + (x : Int))) := hg
        have hcv := conv_dig x hx9.2
        simp +decide (disch := first | assumption | exact cellV_int _ _ | exact cellV_bool _ | omega | (simp only [GH.pn, GH.sn] <;> omega) | (with_reducible ((repeat (first | apply GH.ok_push | apply GH.ok_set)); assumption)) | ((try simp only [GH.push_hid, GH.set_hid]); first | assumption | (refine GH.vis ?_ ?_ <;> first | assumption | ((try simp only [GH.pn, GH.sn]) <;> omega)))) only [go_sem, ↓reduceIte, Nat.reduceEqDiff, Nat.reduceAdd, Int.reduceToNat, Int.reduceAdd, Int.reduceNeg, Int.reduceSub, Int.reduceMul, Int.reduceLT, Int.reduceLE, Int.reduceEq, ↓GH.gp_eq, ↓GH.gp_ne, ↓GH.gs_eq, ↓GH.gs_ne, GH.push_next, GH.set_next, he, hsz, hg0, c, hcv, bslQ]
        refine AppD.ownQ (lw := g.next) (new := [.int .i64 (1 : Nat), .int .i64 x]) (tx := 52) (hown.kept ((Kept.refl g').push ho' _)) (by simp (disch := first | assumption | exact cellV_int _ _ | exact cellV_bool _ | omega | (simp only [GH.pn, GH.sn] <;> omega) | (with_reducible ((repeat (first | apply GH.ok_push | apply GH.ok_set)); assumption)) | ((try simp only [GH.push_hid, GH.set_hid]); first | assumption | (refine GH.vis ?_ ?_ <;> first | assumption | ((try simp only [GH.pn, GH.sn]) <;> omega)))) only [↓GH.gp_eq, ↓GH.gp_ne, ↓GH.gs_eq, ↓GH.gs_ne, GH.push_next, GH.set_next]; first | done | exact rfl) rfl (by omega) (by omega) rfl (by omega) (by simp only [GH.push_next]; omega) hlo (Nat.le_refl _) (GH.ok_push ho') (fun s' g8 lo8 sp wr hgr hlo8 => ?_)
        simp +decide (disch := first | assumption | (apply GH.ok_push; assumption) | exact cellV_int _ _ | exact cellV_bool _ | omega) only [go_sem, ↓reduceIte, Nat.reduceEqDiff, Nat.reduceAdd, Int.reduceToNat, he]
        refine ih (m - 1) _ _ _ (by omega) ⟨hlo8, (hk.push ho' _).grewQ hgr (Nat.le_refl _), 0 + 1, ⟨by omega, by omega⟩, s', (by simp +decide (disch := first | assumption | (apply GH.ok_push; assumption) | exact cellV_int _ _ | exact cellV_bool _ | omega) only [go_sem, ↓reduceIte, Nat.reduceEqDiff, Nat.reduceAdd, Int.reduceToNat, he]; first | done | exact rfl), ?_⟩
        have e1 : runs (ds.take (0 + 1)) = [(1, x)] := by rw [ht]; rfl
        rw [e1]
        exact hgr.own
      · obtain ⟨R, k, e, h1, h2, h3⟩ := runs_snoc (l := ds.take i) (by intro q; have := congrArg List.length q; rw [List.length_take, List.length_nil] at this; omega) x
        rw [← ht] at h3
        have he2 : (ds.take i).getLast? = some (ds[i - 1]'(by omega)) := take_last c0 hi
        rw [h2] at he2
        have hee : e = ds[i - 1]'(by omega) := Option.some.inj he2
        have hgm := idx_w hd (i - 1) (by omega) ((i : Int) - 1) (by omega)
        rw [← hee] at hgm
        rw [h1] at hown hRl
        have hk9 : k ≤ i := by
          have := runs_le (ds.take i) (k, e) (by rw [h1]; simp)
          rw [List.length_take] at this
          simp at this; omega
        have hi0 : (i : Int) > 0 := by omega
        by_cases cx : x = e
        · subst cx
          have hln := hown.read.len
          rw [List.length_append] at hln hRl
          obtain ⟨j, hj, hp1, hp2, hat⟩ := hown.at (i := R.length) (by simp)
          have hp := hp1 ((R.length : Int) + 1 - 1) (by omega)
          have hv := hp2 (lo := g'.next) (R.length * 2) _ (cellsP_last R k x)
          simp +decide (disch := first | assumption | exact cellV_int _ _ | exact cellV_bool _ | omega | (simp only [GH.pn, GH.sn] <;> omega) | (with_reducible ((repeat (first | apply GH.ok_push | apply GH.ok_set)); assumption)) | ((try simp only [GH.push_hid, GH.set_hid]); first | assumption | (refine GH.vis ?_ ?_ <;> first | assumption | ((try simp only [GH.pn, GH.sn]) <;> omega)))) only [go_sem, ↓reduceIte, Nat.reduceEqDiff, Nat.reduceAdd, Int.reduceToNat, Int.reduceAdd, Int.reduceNeg, Int.reduceSub, Int.reduceMul, Int.reduceLT, Int.reduceLE, Int.reduceEq, ↓GH.gp_eq, ↓GH.gp_ne, ↓GH.gs_eq, ↓GH.gs_ne, GH.push_next, GH.set_next, he, hsz, hg, hgm, c, hi0, hln, hp, hv]
          refine OwnQ.put hown hat (by rw [cellsP_len]; simp) (by simp +decide (disch := first | assumption | (apply GH.ok_push; assumption) | exact cellV_int _ _ | exact cellV_bool _ | omega) only [go_sem, ↓reduceIte, Nat.reduceEqDiff, Nat.reduceAdd, Int.reduceToNat, he, hp]; first | done | exact rfl) (by simp +decide (disch := first | assumption | (apply GH.ok_push; assumption) | exact cellV_int _ _ | exact cellV_bool _ | omega) only [go_sem, ↓reduceIte, Nat.reduceEqDiff, Nat.reduceAdd, Int.reduceToNat, he]; first | done | exact rfl) rfl rfl ho' hlo (Nat.le_refl _) fun g8 lo8 wr hw hown8 hlo8 => ?_
          simp +decide (disch := first | assumption | (apply GH.ok_push; assumption) | exact cellV_int _ _ | exact cellV_bool _ | omega) only [go_sem, ↓reduceIte, Nat.reduceEqDiff, Nat.reduceAdd, Int.reduceToNat, he]
          refine ih (m - 1) _ _ _ (by omega) ⟨hlo8, hk.write hw (Nat.le_refl _), i + 1, ⟨by omega, by omega⟩, o, (by simp +decide (disch := first | assumption | (apply GH.ok_push; assumption) | exact cellV_int _ _ | exact cellV_bool _ | omega) only [go_sem, ↓reduceIte, Nat.reduceEqDiff, Nat.reduceAdd, Int.reduceToNat, he]; first | done | exact rfl), ?_⟩
          rw [h3, if_pos rfl, cellsP_inc]
          simpa using hown8
        · have cx' : ¬ ((x : Int) = e) := by omega
          have hcv := conv_dig x hx9.2
          simp +decide (disch := first | assumption | exact cellV_int _ _ | exact cellV_bool _ | omega | (simp only [GH.pn, GH.sn] <;> omega) | (with_reducible ((repeat (first | apply GH.ok_push | apply GH.ok_set)); assumption)) | ((try simp only [GH.push_hid, GH.set_hid]); first | assumption | (refine GH.vis ?_ ?_ <;> first | assumption | ((try simp only [GH.pn, GH.sn]) <;> omega)))) only [go_sem, ↓reduceIte, Nat.reduceEqDiff, Nat.reduceAdd, Int.reduceToNat, Int.reduceAdd, Int.reduceNeg, Int.reduceSub, Int.reduceMul, Int.reduceLT, Int.reduceLE, Int.reduceEq, ↓GH.gp_eq, ↓GH.gp_ne, ↓GH.gs_eq, ↓GH.gs_ne, GH.push_next, GH.set_next, he, hsz, hg, hgm, c, hi0, hcv, bslQ, cx, cx']
          refine AppD.ownQ (lw := g.next) (new := [.int .i64 (1 : Nat), .int .i64 x]) (tx := 52) (hown.kept ((Kept.refl g').push ho' _)) (by simp (disch := first | assumption | exact cellV_int _ _ | exact cellV_bool _ | omega | (simp only [GH.pn, GH.sn] <;> omega) | (with_reducible ((repeat (first | apply GH.ok_push | apply GH.ok_set)); assumption)) | ((try simp only [GH.push_hid, GH.set_hid]); first | assumption | (refine GH.vis ?_ ?_ <;> first | assumption | ((try simp only [GH.pn, GH.sn]) <;> omega)))) only [↓GH.gp_eq, ↓GH.gp_ne, ↓GH.gs_eq, ↓GH.gs_ne, GH.push_next, GH.set_next]; first | done | exact rfl) rfl (by omega) (by omega) rfl (by omega) (by simp only [GH.push_next]; omega) hlo (Nat.le_refl _) (GH.ok_push ho') (fun s' g8 lo8 sp wr hgr hlo8 => ?_)
          simp +decide (disch := first | assumption | (apply GH.ok_push; assumption) | exact cellV_int _ _ | exact cellV_bool _ | omega) only [go_sem, ↓reduceIte, Nat.reduceEqDiff, Nat.reduceAdd, Int.reduceToNat, he]
          refine ih (m - 1) _ _ _ (by omega) ⟨hlo8, (hk.push ho' _).grewQ hgr (Nat.le_refl _), i + 1, ⟨by omega, by omega⟩, s', (by simp +decide (disch := first | assumption | (apply GH.ok_push; assumption) | exact cellV_int _ _ | exact cellV_bool _ | omega) only [go_sem, ↓reduceIte, Nat.reduceEqDiff, Nat.reduceAdd, Int.reduceToNat, he]; first | done | exact rfl), ?_⟩
          have e1 : runs (ds.take (i + 1)) = (R ++ [(k, e)]) ++ [(1, x)] := by rw [h3, if_neg cx]; simp
          rw [e1, cellsP_snoc, List.length_append]
          exact hgr.own
    · have hie : i = ds.length := by omega
      subst hie
      simp +decide (disch := first | assumption | exact cellV_int _ _ | exact cellV_bool _ | omega | (simp only [GH.pn, GH.sn] <;> omega) | (with_reducible ((repeat (first | apply GH.ok_push | apply GH.ok_set)); assumption)) | ((try simp only [GH.push_hid, GH.set_hid]); first | assumption | (refine GH.vis ?_ ?_ <;> first | assumption | ((try simp only [GH.pn, GH.sn]) <;> omega)))) only [go_sem, ↓reduceIte, Nat.reduceEqDiff, Nat.reduceAdd, Int.reduceToNat, Int.reduceAdd, Int.reduceNeg, Int.reduceSub, Int.reduceMul, Int.reduceLT, Int.reduceLE, Int.reduceEq, ↓GH.gp_eq, ↓GH.gp_ne, ↓GH.gs_eq, ↓GH.gs_ne, GH.push_next, GH.set_next, he, hsz]
      refine out _ _ _ ⟨hlo, o, (by simp +decide (disch := first | assumption | (apply GH.ok_push; assumption) | exact cellV_int _ _ | exact cellV_bool _ | omega) only [go_sem, ↓reduceIte, Nat.reduceEqDiff, Nat.reduceAdd, Int.reduceToNat, he]; first | done | exact rfl), ?_⟩
      rwa [List.take_length] at hown
end Go.Proofs.Ytgnnhenbmnopaaa
set_option maxRecDepth 100000
set_option maxHeartbeats 8000000
set_option linter.unusedSimpArgs false
set_option linter.unusedVariables false
namespace Go.Proofs.Ytgnnhenbmnopaaa
open Go.Ds Go.Aw
def bytesW (w : List Nat) : List Value := w.map fun (d : Nat) => Value.int .u8 (48 + (d : Int))
theorem bytesW_len (w : List Nat) : (bytesW w).length = w.length := by simp [bytesW]
theorem textGo_bytes : ∀ (w : List Nat) (s : ByteArray), (∀ d ∈ w, d ≤ 9) → textGo (bytesW w) s = some ⟨s.data ++ (w.map fun d => UInt8.ofNat (48 + d)).toArray⟩
  | [], s, h => by simp [bytesW, textGo]
  | d :: w, s, h => by
    have hd := h d (List.mem_cons_self ..)
    have ih := textGo_bytes w (s.push (UInt8.ofNat (48 + d))) (fun x hx => h x (List.mem_cons_of_mem _ hx))
    show textGo (bytesW w) (s.push (UInt8.ofNat (48 + (d : Int)).toNat)) = _
    rw [show (48 + (d : Int)).toNat = 48 + d by omega, ih]
    simp [ByteArray.push]
theorem text_bytes (w : List Nat) (h : ∀ d ∈ w, d ≤ 9) : textGo (bytesW w) .empty = some (Try.txt w) := by
  rw [textGo_bytes w _ h]
  simp [Try.txt, ByteArray.empty, ByteArray.emptyWithCapacity]
  rfl
theorem conv8_dig (x : Nat) (h : x ≤ 9) : convF .u8 (.int .i64 (48 + (x : Int))) = some (.int .u8 (48 + (x : Int))) := by
  have : x = 0 ∨ x = 1 ∨ x = 2 ∨ x = 3 ∨ x = 4 ∨ x = 5 ∨ x = 6 ∨ x = 7 ∨ x = 8 ∨ x = 9 := by omega
  rcases this with rfl | rfl | rfl | rfl | rfl | rfl | rfl | rfl | rfl | rfl <;> rfl
theorem bsl1V (x a : Value) (h : cellV a = true) : bsl 1 #[x] [(0, a)] = some #[a] := bsl1 h
theorem spell_dig {L : List (Nat × Nat)} (h : ∀ p ∈ L, p.1 ≤ 1000 ∧ p.2 ≤ 9) : ∀ d ∈ spell L, d ≤ 9 := by
  intro d hd
  simp only [spell, List.mem_flatMap] at hd
  obtain ⟨p, hp, hd⟩ := hd
  rw [(List.mem_replicate.1 hd).2]
  exact (h p hp).2
theorem take_pair {L : List (Nat × Nat)} {i : Nat} (h : i < L.length) : L.take (i + 1) = L.take i ++ [L[i]] := by
  rw [List.take_add_one, List.getElem?_eq_getElem h]; rfl
theorem spell_snoc (L : List (Nat × Nat)) (p : Nat × Nat) : spell (L ++ [p]) = spell L ++ List.replicate p.1 p.2 := by simp [spell]
/-- The specification's word with some runs. -/
theorem spelled_rets {X : Caller} (hX : Xfr X) (L : List (Nat × Nat)) (hL : ∀ p ∈ L, p.1 ≤ 1000 ∧ p.2 ≤ 9) (hlen : L.length ≤ 100000) (x : Value) (g : GH) (hs : SlQ g x 2 L.length (cellsP L)) :
    Rets Try.prog X 44 [x] g (fun v g' lo => g.next ≤ lo ∧ v = .string (Try.txt (spell L))) := by
  refine Rets.run hX.pres p44 (hX.free 44 (by decide) _ _) rfl fun ho => ?_
  have hln := hs.len
  simp +decide (disch := first | assumption | (apply GH.ok_push; assumption) | exact cellV_int _ _ | exact cellV_bool _ | omega) only [go_sem, ↓reduceIte, Nat.reduceEqDiff, Nat.reduceAdd, Int.reduceToNat]
  refine Wk.loops (fun m e g' lo => g.next ≤ lo ∧ Kept g g' ∧ ∃ i : Nat, (i ≤ L.length ∧ m = L.length - i) ∧ ∃ o, (ev e (.s 0) = x ∧ ev e (.s 4) = .int .i64 i ∧ ev e (.s 3) = o) ∧ OwnQ g' o 1 (spell (L.take i)).length (bytesW (spell (L.take i))) 5 g.next)
    (fun e g' lo => g.next ≤ lo ∧ ∃ o, ev e (.s 3) = o ∧ OwnQ g' o 1 (spell L).length (bytesW (spell L)) 5 g.next) (n := L.length) ?_ ?_ ?_
  · exact ⟨Nat.le_refl _, Kept.refl g, 0, ⟨Nat.zero_le _, rfl⟩, _, (by simp +decide (disch := first | assumption | (apply GH.ok_push; assumption) | exact cellV_int _ _ | exact cellV_bool _ | omega) only [go_sem, ↓reduceIte, Nat.reduceEqDiff, Nat.reduceAdd, Int.reduceToNat]; first | done | exact rfl), OwnQ.nil⟩
  · rintro e g' lo ho' - ⟨hlo, o, he, h⟩
    simp +decide (disch := first | assumption | (apply GH.ok_push; assumption) | exact cellV_int _ _ | exact cellV_bool _ | omega) only [go_sem, ↓reduceIte, Nat.reduceEqDiff, Nat.reduceAdd, Int.reduceToNat, he]
    refine Wk.txtQ (by simp +decide (disch := first | assumption | (apply GH.ok_push; assumption) | exact cellV_int _ _ | exact cellV_bool _ | omega) only [go_sem, ↓reduceIte, Nat.reduceEqDiff, Nat.reduceAdd, Int.reduceToNat, he]; first | done | exact rfl) h (text_bytes _ (spell_dig hL)) ?_
    simp +decide (disch := first | assumption | (apply GH.ok_push; assumption) | exact cellV_int _ _ | exact cellV_bool _ | omega) only [go_sem, ↓reduceIte, Nat.reduceEqDiff, Nat.reduceAdd, Int.reduceToNat, he]
    intro hx
    exact ⟨hlo, rfl⟩
  · rintro m e g' lo ho' hl' ih out ⟨hlo, hk, i, ⟨hi, hm⟩, o, he, hown⟩
    have hkn := hk.next
    by_cases c : i < L.length
    · have hp9 := hL L[i] (List.getElem_mem c)
      have hsl : (spell (L.take i)).length ≤ 1000 * i := by
        have := spell_len (L.take i) (fun p hp => (hL p (List.mem_of_mem_take hp)).1)
        rw [List.length_take] at this
        have e : min i L.length = i := by omega
        rwa [e] at this
      obtain ⟨q1, q2⟩ := cellsP_get L i c
      have ht := take_pair c
      obtain ⟨p, hp⟩ : ∃ p, L[i] = p := ⟨_, rfl⟩
      rw [hp] at hp9 q1 q2 ht
      simp +decide (disch := first | assumption | (apply GH.ok_push; assumption) | exact cellV_int _ _ | exact cellV_bool _ | omega) only [go_sem, ↓reduceIte, Nat.reduceEqDiff, Nat.reduceAdd, Int.reduceToNat, he, hln, c]
      refine Wk.loops (fun m e g' lo => g.next ≤ lo ∧ Kept g g' ∧ ∃ k : Nat, (k ≤ p.1 ∧ m = p.1 - k) ∧ ∃ o, (ev e (.s 0) = x ∧ ev e (.s 4) = .int .i64 i ∧ ev e (.s 3) = o ∧ ev e (.s 5) = .int .i64 k) ∧ OwnQ g' o 1 ((spell (L.take i)).length + k) (bytesW (spell (L.take i) ++ List.replicate k p.2)) 5 g.next)
        (fun e g' lo => g.next ≤ lo ∧ Kept g g' ∧ ∃ o, (ev e (.s 0) = x ∧ ev e (.s 4) = .int .i64 i ∧ ev e (.s 3) = o) ∧ OwnQ g' o 1 (spell (L.take (i + 1))).length (bytesW (spell (L.take (i + 1)))) 5 g.next) (n := p.1) ?_ ?_ ?_
      · exact ⟨hlo, hk, 0, ⟨Nat.zero_le _, rfl⟩, o, (by simp +decide (disch := first | assumption | (apply GH.ok_push; assumption) | exact cellV_int _ _ | exact cellV_bool _ | omega) only [go_sem, ↓reduceIte, Nat.reduceEqDiff, Nat.reduceAdd, Int.reduceToNat, he]; first | done | exact rfl), by simpa using hown⟩
      · rintro e g' lo - - ⟨hlo, hk, o, he, hown⟩
        simp +decide (disch := first | assumption | (apply GH.ok_push; assumption) | exact cellV_int _ _ | exact cellV_bool _ | omega) only [go_sem, ↓reduceIte, Nat.reduceEqDiff, Nat.reduceAdd, Int.reduceToNat, he]
        exact ih (m - 1) _ _ _ (by omega) ⟨hlo, hk, i + 1, ⟨by omega, by omega⟩, o, (by simp +decide (disch := first | assumption | (apply GH.ok_push; assumption) | exact cellV_int _ _ | exact cellV_bool _ | omega) only [go_sem, ↓reduceIte, Nat.reduceEqDiff, Nat.reduceAdd, Int.reduceToNat, he]; first | done | exact rfl), hown⟩
      · rintro m2 e g' lo ho' hl' ih2 out2 ⟨hlo, hk, k, ⟨hk1, hm2⟩, o, he, hown⟩
        have hkn := hk.next
        obtain ⟨j, a, hj, hp1, hp2, -⟩ := (hs.kept hk).ptr c
        have hp1 := hp1 (i : Int) rfl
        have hv0 : ∀ lo, loadF none (g'.at lo) (.pointer (some ⟨j, a, none⟩)) = some (.int .i64 p.1) := fun lo => hp2 lo 0 _ (by omega) q1
        have hv1 : ∀ lo, loadF none (g'.at lo) (.pointer (some ⟨j, a + 1, none⟩)) = some (.int .i64 p.2) := fun lo => hp2 lo 1 _ (by omega) q2
        by_cases c2 : k < p.1
        · have hcv := conv8_dig p.2 hp9.2
          simp +decide (disch := first | assumption | exact cellV_int _ _ | exact cellV_bool _ | omega | (simp only [GH.pn, GH.sn] <;> omega) | (with_reducible ((repeat (first | apply GH.ok_push | apply GH.ok_set)); assumption)) | ((try simp only [GH.push_hid, GH.set_hid]); first | assumption | (refine GH.vis ?_ ?_ <;> first | assumption | ((try simp only [GH.pn, GH.sn]) <;> omega)))) only [go_sem, ↓reduceIte, Nat.reduceEqDiff, Nat.reduceAdd, Int.reduceToNat, Int.reduceAdd, Int.reduceNeg, Int.reduceSub, Int.reduceMul, Int.reduceLT, Int.reduceLE, Int.reduceEq, ↓GH.gp_eq, ↓GH.gp_ne, ↓GH.gs_eq, ↓GH.gs_ne, GH.push_next, GH.set_next, he, hp1, hv0, hv1, c2, hcv, bsl1V]
          refine AppD.ownQ (lw := g.next) (new := [.int .u8 (48 + (p.2 : Int))]) (tx := 5) (hown.kept ((Kept.refl g').push ho' _)) (by simp (disch := first | assumption | exact cellV_int _ _ | exact cellV_bool _ | omega | (simp only [GH.pn, GH.sn] <;> omega) | (with_reducible ((repeat (first | apply GH.ok_push | apply GH.ok_set)); assumption)) | ((try simp only [GH.push_hid, GH.set_hid]); first | assumption | (refine GH.vis ?_ ?_ <;> first | assumption | ((try simp only [GH.pn, GH.sn]) <;> omega)))) only [↓GH.gp_eq, ↓GH.gp_ne, ↓GH.gs_eq, ↓GH.gs_ne, GH.push_next, GH.set_next]; first | done | exact rfl) rfl (by omega) (by omega) rfl (by omega) (by simp only [GH.push_next]; omega) hlo (Nat.le_refl _) (GH.ok_push ho') (fun s' g8 lo8 sp wr hgr hlo8 => ?_)
          simp +decide (disch := first | assumption | (apply GH.ok_push; assumption) | exact cellV_int _ _ | exact cellV_bool _ | omega) only [go_sem, ↓reduceIte, Nat.reduceEqDiff, Nat.reduceAdd, Int.reduceToNat, he]
          refine ih2 (m2 - 1) _ _ _ (by omega) ⟨hlo8, (hk.push ho' _).grewQ hgr (Nat.le_refl _), k + 1, ⟨by omega, by omega⟩, s', (by simp +decide (disch := first | assumption | (apply GH.ok_push; assumption) | exact cellV_int _ _ | exact cellV_bool _ | omega) only [go_sem, ↓reduceIte, Nat.reduceEqDiff, Nat.reduceAdd, Int.reduceToNat, he]; first | done | exact rfl), ?_⟩
          have e1 : bytesW (spell (L.take i) ++ List.replicate (k + 1) p.2) = bytesW (spell (L.take i) ++ List.replicate k p.2) ++ [.int .u8 (48 + (p.2 : Int))] := by
            rw [List.replicate_succ', ← List.append_assoc]
            simp [bytesW]
          rw [e1]
          exact hgr.own
        · have : k = p.1 := by omega
          subst this
          simp +decide (disch := first | assumption | exact cellV_int _ _ | exact cellV_bool _ | omega | (simp only [GH.pn, GH.sn] <;> omega) | (with_reducible ((repeat (first | apply GH.ok_push | apply GH.ok_set)); assumption)) | ((try simp only [GH.push_hid, GH.set_hid]); first | assumption | (refine GH.vis ?_ ?_ <;> first | assumption | ((try simp only [GH.pn, GH.sn]) <;> omega)))) only [go_sem, ↓reduceIte, Nat.reduceEqDiff, Nat.reduceAdd, Int.reduceToNat, Int.reduceAdd, Int.reduceNeg, Int.reduceSub, Int.reduceMul, Int.reduceLT, Int.reduceLE, Int.reduceEq, ↓GH.gp_eq, ↓GH.gp_ne, ↓GH.gs_eq, ↓GH.gs_ne, GH.push_next, GH.set_next, he, hp1, hv0]
          refine out2 _ _ _ ⟨hlo, hk, o, (by simp +decide (disch := first | assumption | (apply GH.ok_push; assumption) | exact cellV_int _ _ | exact cellV_bool _ | omega) only [go_sem, ↓reduceIte, Nat.reduceEqDiff, Nat.reduceAdd, Int.reduceToNat, he]; first | done | exact rfl), ?_⟩
          rw [ht, spell_snoc, List.length_append, List.length_replicate]
          exact hown
    · have hie : i = L.length := by omega
      subst hie
      simp +decide (disch := first | assumption | exact cellV_int _ _ | exact cellV_bool _ | omega | (simp only [GH.pn, GH.sn] <;> omega) | (with_reducible ((repeat (first | apply GH.ok_push | apply GH.ok_set)); assumption)) | ((try simp only [GH.push_hid, GH.set_hid]); first | assumption | (refine GH.vis ?_ ?_ <;> first | assumption | ((try simp only [GH.pn, GH.sn]) <;> omega)))) only [go_sem, ↓reduceIte, Nat.reduceEqDiff, Nat.reduceAdd, Int.reduceToNat, Int.reduceAdd, Int.reduceNeg, Int.reduceSub, Int.reduceMul, Int.reduceLT, Int.reduceLE, Int.reduceEq, ↓GH.gp_eq, ↓GH.gp_ne, ↓GH.gs_eq, ↓GH.gs_ne, GH.push_next, GH.set_next, he, hln]
      refine out _ _ _ ⟨hlo, o, (by simp +decide (disch := first | assumption | (apply GH.ok_push; assumption) | exact cellV_int _ _ | exact cellV_bool _ | omega) only [go_sem, ↓reduceIte, Nat.reduceEqDiff, Nat.reduceAdd, Int.reduceToNat, he]; first | done | exact rfl), ?_⟩
      rwa [List.take_length] at hown
end Go.Proofs.Ytgnnhenbmnopaaa
set_option maxRecDepth 100000
set_option maxHeartbeats 8000000
set_option linter.unusedSimpArgs false
set_option linter.unusedVariables false
namespace Go.Proofs.Ytgnnhenbmnopaaa
open Go.Ds Go.Aw
theorem flat_snoc (L : List (Nat × Nat)) (p : Nat × Nat) : flat (L ++ [p]) = flat L ++ [p.1, p.2] := by simp [flat]
theorem flat_dig {L : List (Nat × Nat)} (h : ∀ p ∈ L, p.1 ≤ 9 ∧ p.2 ≤ 9) : ∀ d ∈ flat L, d ≤ 9 := by
  intro d hd
  simp only [flat, List.mem_flatMap] at hd
  obtain ⟨p, hp, hd⟩ := hd
  have := h p hp
  simp at hd
  rcases hd with e | e <;> omega
theorem bsl2V (x y a b : Value) (h : cellV a = true) (h2 : cellV b = true) : bsl 1 #[x, y] [(0, a), (1, b)] = some #[a, b] := bsl2 h h2
/-- What the specification says of a word. -/
def rsaidV (ds : List Nat) : Value := .tuple #[.string (if Sayable ds then Try.txt (say ds) else ⟨#[]⟩), .bool (decide (Sayable ds))]
theorem refSaid_rets {X : Caller} (hX : Xfr X) (ds : List Nat) (hd : Dig ds) (hlen : ds.length ≤ 1000000) (g : GH) :
    Rets Try.prog X 46 [.string (Try.txt ds)] g (fun v g' lo => g.next ≤ lo ∧ v = rsaidV ds) := by
  refine Rets.run hX.pres p46 (hX.free 46 (by decide) _ _) rfl fun ho => ?_
  simp +decide (disch := first | assumption | (apply GH.ok_push; assumption) | exact cellV_int _ _ | exact cellV_bool _ | omega) only [go_sem, ↓reduceIte, Nat.reduceEqDiff, Nat.reduceAdd, Int.reduceToNat]
  refine CallD.calm (refRuns_rets hX ds hd hlen _) ?_
  rintro r g1 hx1 hrow
  have hn1 := hx1.next
  have ho1 := hx1.ok ho
  have hln := hrow.read.len
  have hRl := runs_len ds
  simp +decide (disch := first | assumption | (apply GH.ok_push; assumption) | exact cellV_int _ _ | exact cellV_bool _ | omega) only [go_sem, ↓reduceIte, Nat.reduceEqDiff, Nat.reduceAdd, Int.reduceToNat]
  refine Wk.loops (fun m e g' lo => g.next ≤ lo ∧ Kept g1 g' ∧ ∃ i : Nat, (i ≤ (runs ds).length ∧ m = (runs ds).length - i) ∧ (∀ p ∈ (runs ds).take i, p.1 ≤ 9) ∧ ∃ o, (ev e (.s 4) = r ∧ ev e (.s 6) = .int .i64 i ∧ ev e (.s 5) = o) ∧ OwnQ g' o 1 (2 * i) (bytesW (flat ((runs ds).take i))) 5 g1.next)
    (fun e g' lo => g.next ≤ lo ∧ Sayable ds ∧ ∃ o, ev e (.s 5) = o ∧ OwnQ g' o 1 (2 * (runs ds).length) (bytesW (flat (runs ds))) 5 g1.next) (n := (runs ds).length) ?_ ?_ ?_
  · exact ⟨Nat.le_refl _, Kept.refl g1, 0, ⟨Nat.zero_le _, rfl⟩, by simp, _, (by simp +decide (disch := first | assumption | (apply GH.ok_push; assumption) | exact cellV_int _ _ | exact cellV_bool _ | omega) only [go_sem, ↓reduceIte, Nat.reduceEqDiff, Nat.reduceAdd, Int.reduceToNat]; first | done | exact rfl), OwnQ.nil⟩
  · rintro e g' lo ho' - ⟨hlo, hsy, o, he, h⟩
    simp +decide (disch := first | assumption | (apply GH.ok_push; assumption) | exact cellV_int _ _ | exact cellV_bool _ | omega) only [go_sem, ↓reduceIte, Nat.reduceEqDiff, Nat.reduceAdd, Int.reduceToNat, he]
    refine Wk.txtQ (by simp +decide (disch := first | assumption | (apply GH.ok_push; assumption) | exact cellV_int _ _ | exact cellV_bool _ | omega) only [go_sem, ↓reduceIte, Nat.reduceEqDiff, Nat.reduceAdd, Int.reduceToNat, he]; first | done | exact rfl) h (text_bytes _ (flat_dig fun p hp => ⟨hsy p hp, (runs_dig hd p hp).2⟩)) ?_
    simp +decide (disch := first | assumption | (apply GH.ok_push; assumption) | exact cellV_int _ _ | exact cellV_bool _ | omega) only [go_sem, ↓reduceIte, Nat.reduceEqDiff, Nat.reduceAdd, Int.reduceToNat, he]
    intro hx
    refine ⟨hlo, ?_⟩
    simp only [rsaidV, if_pos hsy, decide_eq_true hsy]
    rfl
  · rintro m e g' lo ho' hl' ih out ⟨hlo, hk, i, ⟨hi, hm⟩, hp9, o, he, hown⟩
    have hkn := hk.next
    by_cases c : i < (runs ds).length
    · obtain ⟨q1, q2⟩ := cellsP_get (runs ds) i c
      have ht := take_pair c
      have hmem := List.getElem_mem c
      obtain ⟨p, hp⟩ : ∃ p, (runs ds)[i] = p := ⟨_, rfl⟩
      rw [hp] at q1 q2 ht hmem
      have hp2 := runs_dig hd p hmem
      obtain ⟨j, a, hj, hp1, hv, -⟩ := (hrow.read.kept hk).ptr c
      have hp1 := hp1 (i : Int) rfl
      have hv0 : ∀ lo, loadF none (g'.at lo) (.pointer (some ⟨j, a, none⟩)) = some (.int .i64 p.1) := fun lo => hv lo 0 _ (by omega) q1
      have hv1 : ∀ lo, loadF none (g'.at lo) (.pointer (some ⟨j, a + 1, none⟩)) = some (.int .i64 p.2) := fun lo => hv lo 1 _ (by omega) q2
      by_cases c9 : p.1 ≤ 9
      · have c9' : ¬ (p.1 : Int) > 9 := by omega
        have hcv := conv8_dig p.1 c9
        have hcv2 := conv8_dig p.2 hp2.2
        simp +decide (disch := first | assumption | exact cellV_int _ _ | exact cellV_bool _ | omega | (simp only [GH.pn, GH.sn] <;> omega) | (with_reducible ((repeat (first | apply GH.ok_push | apply GH.ok_set)); assumption)) | ((try simp only [GH.push_hid, GH.set_hid]); first | assumption | (refine GH.vis ?_ ?_ <;> first | assumption | ((try simp only [GH.pn, GH.sn]) <;> omega)))) only [go_sem, ↓reduceIte, Nat.reduceEqDiff, Nat.reduceAdd, Int.reduceToNat, Int.reduceAdd, Int.reduceNeg, Int.reduceSub, Int.reduceMul, Int.reduceLT, Int.reduceLE, Int.reduceEq, ↓GH.gp_eq, ↓GH.gp_ne, ↓GH.gs_eq, ↓GH.gs_ne, GH.push_next, GH.set_next, he, hln, hp1, hv0, hv1, c, c9, c9', hcv, hcv2, bsl2V]
        refine AppD.ownQ (lw := g.next) (new := [.int .u8 (48 + (p.1 : Int)), .int .u8 (48 + (p.2 : Int))]) (tx := 5) (hown.kept ((Kept.refl g').push ho' _)) (by simp (disch := first | assumption | exact cellV_int _ _ | exact cellV_bool _ | omega | (simp only [GH.pn, GH.sn] <;> omega) | (with_reducible ((repeat (first | apply GH.ok_push | apply GH.ok_set)); assumption)) | ((try simp only [GH.push_hid, GH.set_hid]); first | assumption | (refine GH.vis ?_ ?_ <;> first | assumption | ((try simp only [GH.pn, GH.sn]) <;> omega)))) only [↓GH.gp_eq, ↓GH.gp_ne, ↓GH.gs_eq, ↓GH.gs_ne, GH.push_next, GH.set_next]; first | done | exact rfl) rfl (by omega) (by omega) rfl (by omega) (by simp only [GH.push_next]; omega) hlo (by omega) (GH.ok_push ho') (fun s' g8 lo8 sp wr hgr hlo8 => ?_)
        simp +decide (disch := first | assumption | (apply GH.ok_push; assumption) | exact cellV_int _ _ | exact cellV_bool _ | omega) only [go_sem, ↓reduceIte, Nat.reduceEqDiff, Nat.reduceAdd, Int.reduceToNat, he]
        refine ih (m - 1) _ _ _ (by omega) ⟨hlo8, (hk.push ho' _).grewQ hgr (Nat.le_refl _), i + 1, ⟨by omega, by omega⟩, ?_, s', (by simp +decide (disch := first | assumption | (apply GH.ok_push; assumption) | exact cellV_int _ _ | exact cellV_bool _ | omega) only [go_sem, ↓reduceIte, Nat.reduceEqDiff, Nat.reduceAdd, Int.reduceToNat, he]; first | done | exact rfl), ?_⟩
        · rw [ht]
          intro q hq
          rcases List.mem_append.1 hq with z | z
          · exact hp9 q z
          · simp at z; subst z; exact c9
        · have e1 : bytesW (flat ((runs ds).take (i + 1))) = bytesW (flat ((runs ds).take i)) ++ [.int .u8 (48 + (p.1 : Int)), .int .u8 (48 + (p.2 : Int))] := by
            rw [ht, flat_snoc]
            simp [bytesW]
          rw [e1, show 2 * (i + 1) = 2 * i + 2 by omega]
          exact hgr.own
      · have c9' : (p.1 : Int) > 9 := by omega
        simp +decide (disch := first | assumption | exact cellV_int _ _ | exact cellV_bool _ | omega | (simp only [GH.pn, GH.sn] <;> omega) | (with_reducible ((repeat (first | apply GH.ok_push | apply GH.ok_set)); assumption)) | ((try simp only [GH.push_hid, GH.set_hid]); first | assumption | (refine GH.vis ?_ ?_ <;> first | assumption | ((try simp only [GH.pn, GH.sn]) <;> omega)))) only [go_sem, ↓reduceIte, Nat.reduceEqDiff, Nat.reduceAdd, Int.reduceToNat, Int.reduceAdd, Int.reduceNeg, Int.reduceSub, Int.reduceMul, Int.reduceLT, Int.reduceLE, Int.reduceEq, ↓GH.gp_eq, ↓GH.gp_ne, ↓GH.gs_eq, ↓GH.gs_ne, GH.push_next, GH.set_next, he, hln, hp1, hv0, c, c9, c9']
        intro hx
        have hsn : ¬ Sayable ds := fun hs => c9 (hs p hmem)
        refine ⟨hlo, ?_⟩
        simp only [rsaidV, if_neg hsn, decide_eq_false hsn]
    · have hie : i = (runs ds).length := by omega
      subst hie
      simp +decide (disch := first | assumption | exact cellV_int _ _ | exact cellV_bool _ | omega | (simp only [GH.pn, GH.sn] <;> omega) | (with_reducible ((repeat (first | apply GH.ok_push | apply GH.ok_set)); assumption)) | ((try simp only [GH.push_hid, GH.set_hid]); first | assumption | (refine GH.vis ?_ ?_ <;> first | assumption | ((try simp only [GH.pn, GH.sn]) <;> omega)))) only [go_sem, ↓reduceIte, Nat.reduceEqDiff, Nat.reduceAdd, Int.reduceToNat, Int.reduceAdd, Int.reduceNeg, Int.reduceSub, Int.reduceMul, Int.reduceLT, Int.reduceLE, Int.reduceEq, ↓GH.gp_eq, ↓GH.gp_ne, ↓GH.gs_eq, ↓GH.gs_ne, GH.push_next, GH.set_next, he, hln]
      rw [List.take_length] at hown hp9
      exact out _ _ _ ⟨hlo, hp9, o, (by simp +decide (disch := first | assumption | (apply GH.ok_push; assumption) | exact cellV_int _ _ | exact cellV_bool _ | omega) only [go_sem, ↓reduceIte, Nat.reduceEqDiff, Nat.reduceAdd, Int.reduceToNat, he]; first | done | exact rfl), hown⟩
end Go.Proofs.Ytgnnhenbmnopaaa
set_option maxRecDepth 100000
set_option maxHeartbeats 8000000
set_option linter.unusedSimpArgs false
set_option linter.unusedVariables false
namespace Go.Proofs.Ytgnnhenbmnopaaa
open Go.Ds Go.Aw
/-- What was heard. -/
def heardV (ds : List Nat) : Value := match heard ds with
  | some v => .tuple #[.string (Try.txt v), .bool true]
  | none => .tuple #[.string ⟨#[]⟩, .bool false]
theorem heardV_none {ds : List Nat} (h : heard ds = none) : heardV ds = .tuple #[.string ⟨#[]⟩, .bool false] := by rw [heardV, h]
theorem heardV_some {ds v : List Nat} (h : heard ds = some v) : heardV ds = .tuple #[.string (Try.txt v), .bool true] := by rw [heardV, h]
theorem pairs_dig {ds : List Nat} (hd : Dig ds) : ∀ p ∈ pairs ds, 1 ≤ p.1 ∧ p.1 ≤ 9 ∧ 1 ≤ p.2 ∧ p.2 ≤ 9 := by
  intro p hp
  obtain ⟨h1, h2⟩ := pairs_mem ds p hp
  exact ⟨(hd _ h1).1, (hd _ h1).2, (hd _ h2).1, (hd _ h2).2⟩
theorem refHeard_rets {X : Caller} (hX : Xfr X) (ds : List Nat) (hd : Dig ds) (hlen : ds.length ≤ 200000) (g : GH) :
    Rets Try.prog X 48 [.string (Try.txt ds)] g (fun v g' lo => g.next ≤ lo ∧ v = heardV ds) := by
  refine Rets.run hX.pres p48 (hX.free 48 (by decide) _ _) rfl fun ho => ?_
  have hsz := Try.txt_size ds
  have hPl := pairs_len ds
  by_cases ho2 : ds.length % 2 = 1
  · have hrem : ((ds.length : Int)).tmod 2 = 1 := by have := Int.ofNat_tmod ds.length 2; rw [ho2] at this; exact this.symm
    simp +decide (disch := first | assumption | (apply GH.ok_push; assumption) | exact cellV_int _ _ | exact cellV_bool _ | omega) only [go_sem, ↓reduceIte, Nat.reduceEqDiff, Nat.reduceAdd, Int.reduceToNat, hsz, hrem]
    intro hx
    refine ⟨Nat.le_refl _, (heardV_none ?_).symm⟩
    unfold heard
    rw [if_neg]
    rintro ⟨a, _⟩
    omega
  · have hrem : ((ds.length : Int)).tmod 2 = 0 := by have := Int.ofNat_tmod ds.length 2; rw [show ds.length % 2 = 0 by omega] at this; exact this.symm
    simp +decide (disch := first | assumption | (apply GH.ok_push; assumption) | exact cellV_int _ _ | exact cellV_bool _ | omega) only [go_sem, ↓reduceIte, Nat.reduceEqDiff, Nat.reduceAdd, Int.reduceToNat, hsz, hrem]
    refine Wk.loops (fun m e g' lo => g.next ≤ lo ∧ Kept g g' ∧ ∃ i : Nat, (i ≤ (pairs ds).length ∧ m = (pairs ds).length - i) ∧ Aw.Good ((pairs ds).take i) ∧ ∃ o, (ev e (.s 0) = .string (Try.txt ds) ∧ ev e (.s 5) = .int .i64 ((2 * i : Nat) : Int) ∧ ev e (.s 4) = o) ∧ OwnQ g' o 2 i (cellsP ((pairs ds).take i)) 52 g.next)
      (fun e g' lo => g.next ≤ lo ∧ Aw.Good (pairs ds) ∧ ∃ o, ev e (.s 4) = o ∧ OwnQ g' o 2 (pairs ds).length (cellsP (pairs ds)) 52 g.next) (n := (pairs ds).length) ?_ ?_ ?_
    · exact ⟨Nat.le_refl _, Kept.refl g, 0, ⟨Nat.zero_le _, rfl⟩, trivial, _, (by simp +decide (disch := first | assumption | (apply GH.ok_push; assumption) | exact cellV_int _ _ | exact cellV_bool _ | omega) only [go_sem, ↓reduceIte, Nat.reduceEqDiff, Nat.reduceAdd, Int.reduceToNat]; first | done | exact rfl), OwnQ.nil⟩
    · rintro e g' lo ho' - ⟨hlo, hg, o, he, h⟩
      simp +decide (disch := first | assumption | (apply GH.ok_push; assumption) | exact cellV_int _ _ | exact cellV_bool _ | omega) only [go_sem, ↓reduceIte, Nat.reduceEqDiff, Nat.reduceAdd, Int.reduceToNat, he]
      refine CallD.calm (spelled_rets hX (pairs ds) (fun p hp => ⟨by have := pairs_dig hd p hp; omega, (pairs_dig hd p hp).2.2.2⟩) (by omega) o _ h.read) ?_
      rintro v g2 hx2 rfl
      have hn2 := hx2.next
      simp +decide (disch := first | assumption | (apply GH.ok_push; assumption) | exact cellV_int _ _ | exact cellV_bool _ | omega) only [go_sem, ↓reduceIte, Nat.reduceEqDiff, Nat.reduceAdd, Int.reduceToNat]
      intro hx
      exact ⟨hlo, (heardV_some (by unfold heard; rw [if_pos ⟨by omega, hg⟩])).symm⟩
    · rintro m e g' lo ho' hl' ih out ⟨hlo, hk, i, ⟨hi, hm⟩, hgd, o, he, hown⟩
      have hkn := hk.next
      by_cases c : i < (pairs ds).length
      · obtain ⟨c1, c2, hpe⟩ := pairs_get ds i c
        have hga := idx_w hd (2 * i) c1 ((2 * i : Nat) : Int) rfl
        have hgb := idx_w hd (2 * i + 1) c2 (((2 * i : Nat) : Int) + 1) (by omega)
        have ha9 := hd _ (List.getElem_mem c1)
        have hb9 := hd _ (List.getElem_mem c2)
        have ht := take_pair c
        rw [hpe] at ht
        have hPi : (pairs ds)[i].1 = ds[2 * i] ∧ (pairs ds)[i].2 = ds[2 * i + 1] := by rw [hpe]; exact ⟨rfl, rfl⟩
        obtain ⟨a, ha⟩ : ∃ a, ds[2 * i] = a := ⟨_, rfl⟩
        obtain ⟨b, hb⟩ : ∃ b, ds[2 * i + 1] = b := ⟨_, rfl⟩
        rw [ha] at hga ha9 ht hPi
        rw [hb] at hgb hb9 ht hPi
        have hcv := conv_dig a ha9.2
        have hcv2 := conv_dig b hb9.2
        have c' : ((2 * i : Nat) : Int) < (ds.length : Int) := by omega
        have step : ∀ (g8 : GH) (s' : Value) (sp : List (Nat × (Nat × Nat))), True := fun _ _ _ => trivial
        by_cases c0 : i = 0
        · subst c0
          have hi0 : ¬ ((2 * 0 : Nat) : Int) > 0 := by omega
          simp +decide (disch := first | assumption | exact cellV_int _ _ | exact cellV_bool _ | omega | (simp only [GH.pn, GH.sn] <;> omega) | (with_reducible ((repeat (first | apply GH.ok_push | apply GH.ok_set)); assumption)) | ((try simp only [GH.push_hid, GH.set_hid]); first | assumption | (refine GH.vis ?_ ?_ <;> first | assumption | ((try simp only [GH.pn, GH.sn]) <;> omega)))) only [go_sem, ↓reduceIte, Nat.reduceEqDiff, Nat.reduceAdd, Int.reduceToNat, Int.reduceAdd, Int.reduceNeg, Int.reduceSub, Int.reduceMul, Int.reduceLT, Int.reduceLE, Int.reduceEq, ↓GH.gp_eq, ↓GH.gp_ne, ↓GH.gs_eq, ↓GH.gs_ne, GH.push_next, GH.set_next, he, hsz, hga, hgb, hcv, hcv2, c', hi0, bslQ]
          refine AppD.ownQ (lw := g.next) (new := [.int .i64 a, .int .i64 b]) (tx := 52) (hown.kept ((Kept.refl g').push ho' _)) (by simp (disch := first | assumption | exact cellV_int _ _ | exact cellV_bool _ | omega | (simp only [GH.pn, GH.sn] <;> omega) | (with_reducible ((repeat (first | apply GH.ok_push | apply GH.ok_set)); assumption)) | ((try simp only [GH.push_hid, GH.set_hid]); first | assumption | (refine GH.vis ?_ ?_ <;> first | assumption | ((try simp only [GH.pn, GH.sn]) <;> omega)))) only [↓GH.gp_eq, ↓GH.gp_ne, ↓GH.gs_eq, ↓GH.gs_ne, GH.push_next, GH.set_next]; first | done | exact rfl) rfl (by omega) (by omega) rfl (by omega) (by simp only [GH.push_next]; omega) hlo (Nat.le_refl _) (GH.ok_push ho') (fun s' g8 lo8 sp wr hgr hlo8 => ?_)
          simp +decide (disch := first | assumption | (apply GH.ok_push; assumption) | exact cellV_int _ _ | exact cellV_bool _ | omega) only [go_sem, ↓reduceIte, Nat.reduceEqDiff, Nat.reduceAdd, Int.reduceToNat, he]
          refine ih (m - 1) _ _ _ (by omega) ⟨hlo8, (hk.push ho' _).grewQ hgr (Nat.le_refl _), 0 + 1, ⟨by omega, by omega⟩, good_take_succ c hgd (by omega) (fun q => absurd rfl q), s', (by simp +decide (disch := first | assumption | (apply GH.ok_push; assumption) | exact cellV_int _ _ | exact cellV_bool _ | omega) only [go_sem, ↓reduceIte, Nat.reduceEqDiff, Nat.reduceAdd, Int.reduceToNat, he]; first | done | exact rfl), ?_⟩
          rw [ht, cellsP_snoc]
          exact hgr.own
        · have hi0 : ((2 * i : Nat) : Int) > 0 := by omega
          have hgm := idx_w hd (2 * i - 1) (by omega) (((2 * i : Nat) : Int) - 1) (by omega)
          obtain ⟨d1, d2, hpe2⟩ := pairs_get ds (i - 1) (by omega)
          have hPm : (pairs ds)[i - 1].2 = ds[2 * i - 1] := by
            rw [hpe2]
            show ds[2 * (i - 1) + 1] = _
            congr 1
            omega
          obtain ⟨z, hz⟩ : ∃ z, ds[2 * i - 1] = z := ⟨_, rfl⟩
          rw [hz] at hgm hPm
          by_cases cz : b = z
          · subst cz
            simp +decide (disch := first | assumption | exact cellV_int _ _ | exact cellV_bool _ | omega | (simp only [GH.pn, GH.sn] <;> omega) | (with_reducible ((repeat (first | apply GH.ok_push | apply GH.ok_set)); assumption)) | ((try simp only [GH.push_hid, GH.set_hid]); first | assumption | (refine GH.vis ?_ ?_ <;> first | assumption | ((try simp only [GH.pn, GH.sn]) <;> omega)))) only [go_sem, ↓reduceIte, Nat.reduceEqDiff, Nat.reduceAdd, Int.reduceToNat, Int.reduceAdd, Int.reduceNeg, Int.reduceSub, Int.reduceMul, Int.reduceLT, Int.reduceLE, Int.reduceEq, ↓GH.gp_eq, ↓GH.gp_ne, ↓GH.gs_eq, ↓GH.gs_ne, GH.push_next, GH.set_next, he, hsz, hga, hgb, hgm, hcv, hcv2, c', hi0, bslQ]
            intro hx
            refine ⟨hlo, (heardV_none ?_).symm⟩
            unfold heard
            rw [if_neg]
            rintro ⟨_, q⟩
            have := good_adj _ (i - 1) (by omega) q
            apply this
            have e2 : (pairs ds)[i - 1 + 1].2 = (pairs ds)[i].2 := by congr 2; omega
            rw [e2, hPm, hPi.2]
          · have cz' : ¬ ((b : Int) = z) := by omega
            simp +decide (disch := first | assumption | exact cellV_int _ _ | exact cellV_bool _ | omega | (simp only [GH.pn, GH.sn] <;> omega) | (with_reducible ((repeat (first | apply GH.ok_push | apply GH.ok_set)); assumption)) | ((try simp only [GH.push_hid, GH.set_hid]); first | assumption | (refine GH.vis ?_ ?_ <;> first | assumption | ((try simp only [GH.pn, GH.sn]) <;> omega)))) only [go_sem, ↓reduceIte, Nat.reduceEqDiff, Nat.reduceAdd, Int.reduceToNat, Int.reduceAdd, Int.reduceNeg, Int.reduceSub, Int.reduceMul, Int.reduceLT, Int.reduceLE, Int.reduceEq, ↓GH.gp_eq, ↓GH.gp_ne, ↓GH.gs_eq, ↓GH.gs_ne, GH.push_next, GH.set_next, he, hsz, hga, hgb, hgm, hcv, hcv2, c', hi0, bslQ, cz, cz']
            refine AppD.ownQ (lw := g.next) (new := [.int .i64 a, .int .i64 b]) (tx := 52) (hown.kept ((Kept.refl g').push ho' _)) (by simp (disch := first | assumption | exact cellV_int _ _ | exact cellV_bool _ | omega | (simp only [GH.pn, GH.sn] <;> omega) | (with_reducible ((repeat (first | apply GH.ok_push | apply GH.ok_set)); assumption)) | ((try simp only [GH.push_hid, GH.set_hid]); first | assumption | (refine GH.vis ?_ ?_ <;> first | assumption | ((try simp only [GH.pn, GH.sn]) <;> omega)))) only [↓GH.gp_eq, ↓GH.gp_ne, ↓GH.gs_eq, ↓GH.gs_ne, GH.push_next, GH.set_next]; first | done | exact rfl) rfl (by omega) (by omega) rfl (by omega) (by simp only [GH.push_next]; omega) hlo (Nat.le_refl _) (GH.ok_push ho') (fun s' g8 lo8 sp wr hgr hlo8 => ?_)
            simp +decide (disch := first | assumption | (apply GH.ok_push; assumption) | exact cellV_int _ _ | exact cellV_bool _ | omega) only [go_sem, ↓reduceIte, Nat.reduceEqDiff, Nat.reduceAdd, Int.reduceToNat, he]
            refine ih (m - 1) _ _ _ (by omega) ⟨hlo8, (hk.push ho' _).grewQ hgr (Nat.le_refl _), i + 1, ⟨by omega, by omega⟩, good_take_succ c hgd (by omega) (fun q => by rw [hPm, hPi.2]; exact fun z => cz z.symm), s', (by simp +decide (disch := first | assumption | (apply GH.ok_push; assumption) | exact cellV_int _ _ | exact cellV_bool _ | omega) only [go_sem, ↓reduceIte, Nat.reduceEqDiff, Nat.reduceAdd, Int.reduceToNat, he]; first | done | exact rfl), ?_⟩
            rw [ht, cellsP_snoc]
            exact hgr.own
      · have hie : i = (pairs ds).length := by omega
        subst hie
        have c' : ¬ ((2 * (pairs ds).length : Nat) : Int) < (ds.length : Int) := by omega
        simp +decide (disch := first | assumption | exact cellV_int _ _ | exact cellV_bool _ | omega | (simp only [GH.pn, GH.sn] <;> omega) | (with_reducible ((repeat (first | apply GH.ok_push | apply GH.ok_set)); assumption)) | ((try simp only [GH.push_hid, GH.set_hid]); first | assumption | (refine GH.vis ?_ ?_ <;> first | assumption | ((try simp only [GH.pn, GH.sn]) <;> omega)))) only [go_sem, ↓reduceIte, Nat.reduceEqDiff, Nat.reduceAdd, Int.reduceToNat, Int.reduceAdd, Int.reduceNeg, Int.reduceSub, Int.reduceMul, Int.reduceLT, Int.reduceLE, Int.reduceEq, ↓GH.gp_eq, ↓GH.gp_ne, ↓GH.gs_eq, ↓GH.gs_ne, GH.push_next, GH.set_next, he, hsz, c']
        rw [List.take_length] at hown hgd
        exact out _ _ _ ⟨hlo, hgd, o, (by simp +decide (disch := first | assumption | (apply GH.ok_push; assumption) | exact cellV_int _ _ | exact cellV_bool _ | omega) only [go_sem, ↓reduceIte, Nat.reduceEqDiff, Nat.reduceAdd, Int.reduceToNat, he]; first | done | exact rfl), hown⟩
end Go.Proofs.Ytgnnhenbmnopaaa
set_option maxRecDepth 100000
set_option maxHeartbeats 8000000
set_option linter.unusedSimpArgs false
set_option linter.unusedVariables false
namespace Go.Proofs.Ytgnnhenbmnopaaa
open Go.Ds Go.Aw
theorem small_pairs {ds : List Nat} (hd : Dig ds) (hlen : ds.length ≤ 200000) : smallP (pairs ds) = true := by
  unfold smallP
  have hPl := pairs_len ds
  rw [Bool.and_eq_true, List.all_eq_true]
  refine ⟨by rw [Nat.ble_eq]; omega, fun p hp => ?_⟩
  have := pairs_dig hd p hp
  rw [Bool.and_eq_true, Nat.ble_eq, Nat.ble_eq]
  omega
theorem before_rets {X : Caller} (hX : Xok X) (ds : List Nat) (hd : Dig ds) (hlen : ds.length ≤ 200000) (g : GH) :
    Rets Try.prog X 47 [.string (Try.txt ds)] g (fun v g' lo => g.next ≤ lo ∧ v = heardV ds) := by
  refine Rets.run hX.pres p47 (hX.free 47 (by decide) _ _) rfl fun ho => ?_
  have hsz := Try.txt_size ds
  have hPl := pairs_len ds
  by_cases ho2 : ds.length % 2 = 1
  · have hrem : ((ds.length : Int)).tmod 2 = 1 := by have := Int.ofNat_tmod ds.length 2; rw [ho2] at this; exact this.symm
    simp +decide (disch := first | assumption | (apply GH.ok_push; assumption) | exact cellV_int _ _ | exact cellV_bool _ | omega) only [go_sem, ↓reduceIte, Nat.reduceEqDiff, Nat.reduceAdd, Int.reduceToNat, hsz, hrem]
    intro hx
    refine ⟨Nat.le_refl _, (heardV_none ?_).symm⟩
    unfold heard
    rw [if_neg]
    rintro ⟨a, _⟩
    omega
  · have hrem : ((ds.length : Int)).tmod 2 = 0 := by have := Int.ofNat_tmod ds.length 2; rw [show ds.length % 2 = 0 by omega] at this; exact this.symm
    simp +decide (disch := first | assumption | (apply GH.ok_push; assumption) | exact cellV_int _ _ | exact cellV_bool _ | omega) only [go_sem, ↓reduceIte, Nat.reduceEqDiff, Nat.reduceAdd, Int.reduceToNat, hsz, hrem]
    refine Wk.loops (fun m e g' lo => g.next ≤ lo ∧ Kept g g' ∧ ∃ i : Nat, (i ≤ (pairs ds).length ∧ m = (pairs ds).length - i) ∧ Aw.Good ((pairs ds).take i) ∧ ∃ (o : Value) (q : Nat), (ev e (.s 0) = .string (Try.txt ds) ∧ ev e (.s 6) = .int .i64 ((2 * i : Nat) : Int) ∧ ev e (.s 4) = o ∧ ev e (.s 5) = .int .i64 q) ∧ ((i = 0 ∧ q = 0) ∨ ∃ h : i - 1 < (pairs ds).length, i ≠ 0 ∧ q = (pairs ds)[i - 1].2) ∧ OwnQ g' o 2 i (cellsP ((pairs ds).take i)) 52 g.next)
      (fun e g' lo => g.next ≤ lo ∧ Aw.Good (pairs ds) ∧ ∃ o, ev e (.s 4) = o ∧ OwnQ g' o 2 (pairs ds).length (cellsP (pairs ds)) 52 g.next) (n := (pairs ds).length) ?_ ?_ ?_
    · exact ⟨Nat.le_refl _, Kept.refl g, 0, ⟨Nat.zero_le _, rfl⟩, trivial, _, 0, (by simp +decide (disch := first | assumption | (apply GH.ok_push; assumption) | exact cellV_int _ _ | exact cellV_bool _ | omega) only [go_sem, ↓reduceIte, Nat.reduceEqDiff, Nat.reduceAdd, Int.reduceToNat]; first | done | exact rfl), .inl ⟨rfl, rfl⟩, OwnQ.nil⟩
    · rintro e g' lo ho' - ⟨hlo, hg, o, he, h⟩
      simp +decide (disch := first | assumption | (apply GH.ok_push; assumption) | exact cellV_int _ _ | exact cellV_bool _ | omega) only [go_sem, ↓reduceIte, Nat.reduceEqDiff, Nat.reduceAdd, Int.reduceToNat, he]
      refine CallD.calm (hX.written (pairs ds) o _ h.read (small_pairs hd hlen)) ?_
      rintro v g2 hx2 ⟨rfl, rfl⟩
      simp +decide (disch := first | assumption | (apply GH.ok_push; assumption) | exact cellV_int _ _ | exact cellV_bool _ | omega) only [go_sem, ↓reduceIte, Nat.reduceEqDiff, Nat.reduceAdd, Int.reduceToNat]
      intro hx
      exact ⟨hlo, (heardV_some (by unfold heard; rw [if_pos ⟨by omega, hg⟩])).symm⟩
    · rintro m e g' lo ho' hl' ih out ⟨hlo, hk, i, ⟨hi, hm⟩, hgd, o, q, he, hq, hown⟩
      have hkn := hk.next
      by_cases c : i < (pairs ds).length
      · obtain ⟨c1, c2, hpe⟩ := pairs_get ds i c
        have hga := idx_w hd (2 * i) c1 ((2 * i : Nat) : Int) rfl
        have hgb := idx_w hd (2 * i + 1) c2 (((2 * i : Nat) : Int) + 1) (by omega)
        have ha9 := hd _ (List.getElem_mem c1)
        have hb9 := hd _ (List.getElem_mem c2)
        have ht := take_pair c
        rw [hpe] at ht
        have hPi : (pairs ds)[i].1 = ds[2 * i] ∧ (pairs ds)[i].2 = ds[2 * i + 1] := by rw [hpe]; exact ⟨rfl, rfl⟩
        obtain ⟨a, ha⟩ : ∃ a, ds[2 * i] = a := ⟨_, rfl⟩
        obtain ⟨b, hb⟩ : ∃ b, ds[2 * i + 1] = b := ⟨_, rfl⟩
        rw [ha] at hga ha9 ht hPi
        rw [hb] at hgb hb9 ht hPi
        have hcv := conv_dig a ha9.2
        have hcv2 := conv_dig b hb9.2
        have c' : ((2 * i : Nat) : Int) < (ds.length : Int) := by omega
        by_cases cz : b = q
        · subst cz
          simp +decide (disch := first | assumption | exact cellV_int _ _ | exact cellV_bool _ | omega | (simp only [GH.pn, GH.sn] <;> omega) | (with_reducible ((repeat (first | apply GH.ok_push | apply GH.ok_set)); assumption)) | ((try simp only [GH.push_hid, GH.set_hid]); first | assumption | (refine GH.vis ?_ ?_ <;> first | assumption | ((try simp only [GH.pn, GH.sn]) <;> omega)))) only [go_sem, ↓reduceIte, Nat.reduceEqDiff, Nat.reduceAdd, Int.reduceToNat, Int.reduceAdd, Int.reduceNeg, Int.reduceSub, Int.reduceMul, Int.reduceLT, Int.reduceLE, Int.reduceEq, ↓GH.gp_eq, ↓GH.gp_ne, ↓GH.gs_eq, ↓GH.gs_ne, GH.push_next, GH.set_next, he, hsz, hga, hgb, hcv, hcv2, c']
          intro hx
          refine ⟨by omega, (heardV_none ?_).symm⟩
          unfold heard
          rw [if_neg]
          rintro ⟨_, q⟩
          rcases hq with ⟨_, hq⟩ | ⟨h1, h2, h3⟩
          · omega
          · have := good_adj _ (i - 1) (by omega) q
            apply this
            have e2 : (pairs ds)[i - 1 + 1].2 = (pairs ds)[i].2 := by congr 2; omega
            rw [e2, hPi.2, ← h3]
        · have cz' : ¬ ((b : Int) = q) := by omega
          simp +decide (disch := first | assumption | exact cellV_int _ _ | exact cellV_bool _ | omega | (simp only [GH.pn, GH.sn] <;> omega) | (with_reducible ((repeat (first | apply GH.ok_push | apply GH.ok_set)); assumption)) | ((try simp only [GH.push_hid, GH.set_hid]); first | assumption | (refine GH.vis ?_ ?_ <;> first | assumption | ((try simp only [GH.pn, GH.sn]) <;> omega)))) only [go_sem, ↓reduceIte, Nat.reduceEqDiff, Nat.reduceAdd, Int.reduceToNat, Int.reduceAdd, Int.reduceNeg, Int.reduceSub, Int.reduceMul, Int.reduceLT, Int.reduceLE, Int.reduceEq, ↓GH.gp_eq, ↓GH.gp_ne, ↓GH.gs_eq, ↓GH.gs_ne, GH.push_next, GH.set_next, he, hsz, hga, hgb, hcv, hcv2, c', bslQ, cz, cz']
          refine AppD.ownQ (lw := g.next) (new := [.int .i64 a, .int .i64 b]) (tx := 52) (hown.kept (by (repeat' first | exact Kept.refl _ | assumption | refine Kept.push ?_ ?_ _ | refine Kept.setV ?_ ?_ ?_ _) <;> (first | assumption | exact cellV_int _ _ | exact cellV_bool _ | omega | (simp only [GH.pn, GH.sn] <;> omega) | (with_reducible ((repeat (first | apply GH.ok_push | apply GH.ok_set)); assumption)) | ((try simp only [GH.push_hid, GH.set_hid]); first | assumption | (refine GH.vis ?_ ?_ <;> first | assumption | ((try simp only [GH.pn, GH.sn]) <;> omega)))))) (by simp (disch := first | assumption | exact cellV_int _ _ | exact cellV_bool _ | omega | (simp only [GH.pn, GH.sn] <;> omega) | (with_reducible ((repeat (first | apply GH.ok_push | apply GH.ok_set)); assumption)) | ((try simp only [GH.push_hid, GH.set_hid]); first | assumption | (refine GH.vis ?_ ?_ <;> first | assumption | ((try simp only [GH.pn, GH.sn]) <;> omega)))) only [↓GH.gp_eq, ↓GH.gp_ne, ↓GH.gs_eq, ↓GH.gs_ne, GH.push_next, GH.set_next]; first | done | exact rfl) rfl (by omega) (by omega) rfl (by omega) (by simp only [GH.push_next, GH.set_next]; omega) (by omega) (Nat.le_refl _) (by with_reducible ((repeat (first | apply GH.ok_push | apply GH.ok_set)); assumption)) (fun s' g8 lo8 sp wr hgr hlo8 => ?_)
          have hg7 : g8.get g'.next = cellsOb [.int .i64 a, .int .i64 b] 52 := (hgr.gets _ (by simp only [GH.push_next, GH.set_next]; omega)).trans (by simp (disch := first | assumption | exact cellV_int _ _ | exact cellV_bool _ | omega | (simp only [GH.pn, GH.sn] <;> omega) | (with_reducible ((repeat (first | apply GH.ok_push | apply GH.ok_set)); assumption)) | ((try simp only [GH.push_hid, GH.set_hid]); first | assumption | (refine GH.vis ?_ ?_ <;> first | assumption | ((try simp only [GH.pn, GH.sn]) <;> omega)))) only [↓GH.gp_eq, ↓GH.gp_ne, ↓GH.gs_eq, ↓GH.gs_ne, GH.push_next, GH.set_next]; first | done | exact rfl)
          have hk8 : Kept g g8 := Kept.grewQ (hk.trans (by (repeat' first | exact Kept.refl _ | assumption | refine Kept.push ?_ ?_ _ | refine Kept.setV ?_ ?_ ?_ _) <;> (first | assumption | exact cellV_int _ _ | exact cellV_bool _ | omega | (simp only [GH.pn, GH.sn] <;> omega) | (with_reducible ((repeat (first | apply GH.ok_push | apply GH.ok_set)); assumption)) | ((try simp only [GH.push_hid, GH.set_hid]); first | assumption | (refine GH.vis ?_ ?_ <;> first | assumption | ((try simp only [GH.pn, GH.sn]) <;> omega)))))) hgr (Nat.le_refl _)
          have hn8 := hgr.next
          simp only [GH.push_next, GH.set_next] at hn8
          simp +decide (disch := first | assumption | exact cellV_int _ _ | exact cellV_bool _ | omega | (simp only [GH.pn, GH.sn] <;> omega) | (with_reducible ((repeat (first | apply GH.ok_push | apply GH.ok_set)); assumption)) | ((try simp only [GH.push_hid, GH.set_hid]); first | assumption | (refine GH.vis ?_ ?_ <;> first | assumption | ((try simp only [GH.pn, GH.sn]) <;> omega)))) only [go_sem, ↓reduceIte, Nat.reduceEqDiff, Nat.reduceAdd, Int.reduceToNat, Int.reduceAdd, Int.reduceNeg, Int.reduceSub, Int.reduceMul, Int.reduceLT, Int.reduceLE, Int.reduceEq, ↓GH.gp_eq, ↓GH.gp_ne, ↓GH.gs_eq, ↓GH.gs_ne, GH.push_next, GH.set_next, he, hg7]
          have z1 : m - 1 < m := by clear hq; omega
          have z2 : i + 1 ≤ (pairs ds).length ∧ m - 1 = (pairs ds).length - (i + 1) := by clear hq; omega
          have z3 : 1 ≤ (pairs ds)[i].1 := by rw [hPi.1]; exact ha9.1
          refine ih (m - 1) _ _ _ z1 ⟨hlo8, hk8, i + 1, z2, good_take_succ c hgd z3 (fun h0 => ?_), s', b, (by simp +decide (disch := first | assumption | (apply GH.ok_push; assumption) | exact cellV_int _ _ | exact cellV_bool _ | omega) only [go_sem, ↓reduceIte, Nat.reduceEqDiff, Nat.reduceAdd, Int.reduceToNat, he]; first | done | exact rfl), .inr ⟨by clear hq; omega, Nat.succ_ne_zero i, ?_⟩, ?_⟩
          · rcases hq with ⟨hq, _⟩ | ⟨h1, h2, h3⟩
            · exact absurd hq h0
            · rw [hPi.2, ← h3]; exact fun z => cz z.symm
          · have e2 : (pairs ds)[i + 1 - 1].2 = (pairs ds)[i].2 := by congr 1
            rw [e2, hPi.2]
          · rw [ht, cellsP_snoc]
            exact hgr.own
      · have hie : i = (pairs ds).length := by omega
        subst hie
        have c' : ¬ ((2 * (pairs ds).length : Nat) : Int) < (ds.length : Int) := by omega
        simp +decide (disch := first | assumption | exact cellV_int _ _ | exact cellV_bool _ | omega | (simp only [GH.pn, GH.sn] <;> omega) | (with_reducible ((repeat (first | apply GH.ok_push | apply GH.ok_set)); assumption)) | ((try simp only [GH.push_hid, GH.set_hid]); first | assumption | (refine GH.vis ?_ ?_ <;> first | assumption | ((try simp only [GH.pn, GH.sn]) <;> omega)))) only [go_sem, ↓reduceIte, Nat.reduceEqDiff, Nat.reduceAdd, Int.reduceToNat, Int.reduceAdd, Int.reduceNeg, Int.reduceSub, Int.reduceMul, Int.reduceLT, Int.reduceLE, Int.reduceEq, ↓GH.gp_eq, ↓GH.gp_ne, ↓GH.gs_eq, ↓GH.gs_ne, GH.push_next, GH.set_next, he, hsz, c']
        rw [List.take_length] at hown hgd
        exact out _ _ _ ⟨hlo, hgd, o, (by simp +decide (disch := first | assumption | (apply GH.ok_push; assumption) | exact cellV_int _ _ | exact cellV_bool _ | omega) only [go_sem, ↓reduceIte, Nat.reduceEqDiff, Nat.reduceAdd, Int.reduceToNat, he]; first | done | exact rfl), hown⟩
end Go.Proofs.Ytgnnhenbmnopaaa
set_option maxRecDepth 100000
set_option maxHeartbeats 8000000
set_option linter.unusedSimpArgs false
set_option linter.unusedVariables false
namespace Go.Proofs.Ytgnnhenbmnopaaa
open Go.Ds Go.Aw
/-- A word. -/
structure Wd (ds : List Nat) : Prop where
  dig : Dig ds
  ne : ds ≠ []
  len : ds.length ≤ 200
theorem werr_word {s : ByteArray} (h : werr s = 0) : ∃ ds, Wd ds ∧ s = Try.txt ds := by
  obtain ⟨h1, h2, h3⟩ := Go.Proofs.werr_zero h
  refine ⟨digs s, ⟨digs_dig h3, ?_, by rw [digs_len]; exact h1⟩, (Try.txt_digs h3).symm⟩
  intro e
  have := digs_len s
  rw [e] at this
  exact h2 this.symm
theorem Wd.werr {ds : List Nat} (h : Wd ds) : werr (Try.txt ds) = 0 := by
  have h1 := h.len
  have h2 : ds.length ≠ 0 := fun e => h.ne (List.eq_nil_of_length_eq_zero e)
  unfold Go.Proofs.Ytgnnhenbmnopaaa.werr
  rw [Try.txt_size, if_neg (by omega), if_pos ⟨h2, txt_allD h.dig⟩]
def sayV (s : ByteArray) : Value := if werr s = 0 then Try.saidV (digs s) else .tuple #[.string ⟨#[]⟩, .int .i64 (werr s)]
def beforeV (s : ByteArray) : Value := if werr s = 0 then (match heard (digs s) with
  | some v => .tuple #[.string (Try.txt v), .int .i64 0]
  | none => .tuple #[.string ⟨#[]⟩, .int .i64 10]) else .tuple #[.string ⟨#[]⟩, .int .i64 (werr s)]
theorem sayV_word {ds : List Nat} (h : Wd ds) : sayV (Try.txt ds) = Try.saidV ds := by
  unfold sayV; rw [if_pos h.werr, digs_txt h.dig]
theorem sayV_err {s : ByteArray} (h : werr s ≠ 0) : sayV s = .tuple #[.string ⟨#[]⟩, .int .i64 (werr s)] := if_neg h
theorem beforeV_word {ds : List Nat} (h : Wd ds) : beforeV (Try.txt ds) = (match heard ds with
  | some v => .tuple #[.string (Try.txt v), .int .i64 0]
  | none => .tuple #[.string ⟨#[]⟩, .int .i64 10]) := by
  unfold beforeV; rw [if_pos h.werr, digs_txt h.dig]
theorem beforeV_err {s : ByteArray} (h : werr s ≠ 0) : beforeV s = .tuple #[.string ⟨#[]⟩, .int .i64 (werr s)] := if_neg h
theorem say_rets {X : Caller} (hX : Xok X) (s : ByteArray) (g : GH) : Rets Try.prog X 27 [.string s] g (fun v g' lo => g.next ≤ lo ∧ v = sayV s) := by
  refine Rets.run hX.pres p27 (hX.free 27 (by decide) _ _) rfl fun ho => ?_
  simp +decide (disch := first | assumption | (apply GH.ok_push; assumption) | exact cellV_int _ _ | exact cellV_bool _ | omega) only [go_sem, ↓reduceIte, Nat.reduceEqDiff, Nat.reduceAdd, Int.reduceToNat]
  refine CallD.calm (wordErr_rets hX.toXfr s _) ?_
  rintro v g1 hx1 rfl
  by_cases hz : werr s = 0
  · obtain ⟨ds, hw, rfl⟩ := werr_word hz
    simp +decide (disch := first | assumption | (apply GH.ok_push; assumption) | exact cellV_int _ _ | exact cellV_bool _ | omega) only [go_sem, ↓reduceIte, Nat.reduceEqDiff, Nat.reduceAdd, Int.reduceToNat, hz]
    refine CallD.calm (hX.said ds hw.dig (by have := hw.len; omega) _) ?_
    rintro v g2 hx2 ⟨rfl, rfl⟩
    simp only [Try.saidV]
    simp +decide (disch := first | assumption | (apply GH.ok_push; assumption) | exact cellV_int _ _ | exact cellV_bool _ | omega) only [go_sem, ↓reduceIte, Nat.reduceEqDiff, Nat.reduceAdd, Int.reduceToNat]
    intro hx
    refine ⟨by first | exact Nat.le_refl _ | omega, ?_⟩
    rw [sayV_word hw]
    rfl
  · have hz' : ¬ (werr s = 0) := hz
    simp +decide (disch := first | assumption | (apply GH.ok_push; assumption) | exact cellV_int _ _ | exact cellV_bool _ | omega) only [go_sem, ↓reduceIte, Nat.reduceEqDiff, Nat.reduceAdd, Int.reduceToNat, hz']
    intro hx
    exact ⟨by first | exact Nat.le_refl _ | omega, (sayV_err hz).symm⟩
theorem refSay_rets {X : Caller} (hX : Xok X) (s : ByteArray) (g : GH) : Rets Try.prog X 28 [.string s] g (fun v g' lo => g.next ≤ lo ∧ v = sayV s) := by
  refine Rets.run hX.pres p28 (hX.free 28 (by decide) _ _) rfl fun ho => ?_
  simp +decide (disch := first | assumption | (apply GH.ok_push; assumption) | exact cellV_int _ _ | exact cellV_bool _ | omega) only [go_sem, ↓reduceIte, Nat.reduceEqDiff, Nat.reduceAdd, Int.reduceToNat]
  refine CallD.calm (refWord_rets hX.toXfr s _) ?_
  rintro v g1 hx1 ⟨rfl, rfl⟩
  by_cases hz : werr s = 0
  · obtain ⟨ds, hw, rfl⟩ := werr_word hz
    simp +decide (disch := first | assumption | (apply GH.ok_push; assumption) | exact cellV_int _ _ | exact cellV_bool _ | omega) only [go_sem, ↓reduceIte, Nat.reduceEqDiff, Nat.reduceAdd, Int.reduceToNat, hz]
    refine CallD.calm (refSaid_rets hX.toXfr ds hw.dig (by have := hw.len; omega) _) ?_
    rintro v g2 hx2 rfl
    have hn2 := hx2.next
    simp only [rsaidV]
    by_cases c : Sayable ds
    · simp only [if_pos c, decide_eq_true c]
      simp +decide (disch := first | assumption | (apply GH.ok_push; assumption) | exact cellV_int _ _ | exact cellV_bool _ | omega) only [go_sem, ↓reduceIte, Nat.reduceEqDiff, Nat.reduceAdd, Int.reduceToNat]
      intro hx
      refine ⟨by first | exact Nat.le_refl _ | omega, ?_⟩
      rw [sayV_word hw, Try.saidV]
      simp only [if_pos c]
    · simp only [if_neg c, decide_eq_false c]
      simp +decide (disch := first | assumption | (apply GH.ok_push; assumption) | exact cellV_int _ _ | exact cellV_bool _ | omega) only [go_sem, ↓reduceIte, Nat.reduceEqDiff, Nat.reduceAdd, Int.reduceToNat]
      intro hx
      refine ⟨by first | exact Nat.le_refl _ | omega, ?_⟩
      rw [sayV_word hw, Try.saidV]
      simp only [if_neg c]
  · have hz' : ¬ (werr s = 0) := hz
    simp +decide (disch := first | assumption | (apply GH.ok_push; assumption) | exact cellV_int _ _ | exact cellV_bool _ | omega) only [go_sem, ↓reduceIte, Nat.reduceEqDiff, Nat.reduceAdd, Int.reduceToNat, hz']
    intro hx
    exact ⟨by first | exact Nat.le_refl _ | omega, (sayV_err hz).symm⟩
theorem beforeP_rets {X : Caller} (hX : Xok X) (s : ByteArray) (g : GH) : Rets Try.prog X 29 [.string s] g (fun v g' lo => g.next ≤ lo ∧ v = beforeV s) := by
  refine Rets.run hX.pres p29 (hX.free 29 (by decide) _ _) rfl fun ho => ?_
  simp +decide (disch := first | assumption | (apply GH.ok_push; assumption) | exact cellV_int _ _ | exact cellV_bool _ | omega) only [go_sem, ↓reduceIte, Nat.reduceEqDiff, Nat.reduceAdd, Int.reduceToNat]
  refine CallD.calm (wordErr_rets hX.toXfr s _) ?_
  rintro v g1 hx1 rfl
  have hn1 := hx1.next
  by_cases hz : werr s = 0
  · obtain ⟨ds, hw, rfl⟩ := werr_word hz
    simp +decide (disch := first | assumption | (apply GH.ok_push; assumption) | exact cellV_int _ _ | exact cellV_bool _ | omega) only [go_sem, ↓reduceIte, Nat.reduceEqDiff, Nat.reduceAdd, Int.reduceToNat, hz]
    refine CallD.calm (before_rets hX ds hw.dig (by have := hw.len; omega) _) ?_
    rintro v g2 hx2 rfl
    have hn2 := hx2.next
    cases hh : heard ds with
    | some v =>
      rw [heardV_some hh]
      simp +decide (disch := first | assumption | (apply GH.ok_push; assumption) | exact cellV_int _ _ | exact cellV_bool _ | omega) only [go_sem, ↓reduceIte, Nat.reduceEqDiff, Nat.reduceAdd, Int.reduceToNat]
      intro hx
      refine ⟨by first | exact Nat.le_refl _ | omega, ?_⟩
      rw [beforeV_word hw, hh]
    | none =>
      rw [heardV_none hh]
      simp +decide (disch := first | assumption | (apply GH.ok_push; assumption) | exact cellV_int _ _ | exact cellV_bool _ | omega) only [go_sem, ↓reduceIte, Nat.reduceEqDiff, Nat.reduceAdd, Int.reduceToNat]
      intro hx
      refine ⟨by first | exact Nat.le_refl _ | omega, ?_⟩
      rw [beforeV_word hw, hh]
  · have hz' : ¬ (werr s = 0) := hz
    simp +decide (disch := first | assumption | (apply GH.ok_push; assumption) | exact cellV_int _ _ | exact cellV_bool _ | omega) only [go_sem, ↓reduceIte, Nat.reduceEqDiff, Nat.reduceAdd, Int.reduceToNat, hz']
    intro hx
    exact ⟨by first | exact Nat.le_refl _ | omega, (beforeV_err hz).symm⟩
theorem refBefore_rets {X : Caller} (hX : Xok X) (s : ByteArray) (g : GH) : Rets Try.prog X 30 [.string s] g (fun v g' lo => g.next ≤ lo ∧ v = beforeV s) := by
  refine Rets.run hX.pres p30 (hX.free 30 (by decide) _ _) rfl fun ho => ?_
  simp +decide (disch := first | assumption | (apply GH.ok_push; assumption) | exact cellV_int _ _ | exact cellV_bool _ | omega) only [go_sem, ↓reduceIte, Nat.reduceEqDiff, Nat.reduceAdd, Int.reduceToNat]
  refine CallD.calm (refWord_rets hX.toXfr s _) ?_
  rintro v g1 hx1 ⟨rfl, rfl⟩
  have hn1 := hx1.next
  by_cases hz : werr s = 0
  · obtain ⟨ds, hw, rfl⟩ := werr_word hz
    simp +decide (disch := first | assumption | (apply GH.ok_push; assumption) | exact cellV_int _ _ | exact cellV_bool _ | omega) only [go_sem, ↓reduceIte, Nat.reduceEqDiff, Nat.reduceAdd, Int.reduceToNat, hz]
    refine CallD.calm (refHeard_rets hX.toXfr ds hw.dig (by have := hw.len; omega) _) ?_
    rintro v g2 hx2 rfl
    have hn2 := hx2.next
    cases hh : heard ds with
    | some v =>
      rw [heardV_some hh]
      simp +decide (disch := first | assumption | (apply GH.ok_push; assumption) | exact cellV_int _ _ | exact cellV_bool _ | omega) only [go_sem, ↓reduceIte, Nat.reduceEqDiff, Nat.reduceAdd, Int.reduceToNat]
      intro hx
      refine ⟨by first | exact Nat.le_refl _ | omega, ?_⟩
      rw [beforeV_word hw, hh]
    | none =>
      rw [heardV_none hh]
      simp +decide (disch := first | assumption | (apply GH.ok_push; assumption) | exact cellV_int _ _ | exact cellV_bool _ | omega) only [go_sem, ↓reduceIte, Nat.reduceEqDiff, Nat.reduceAdd, Int.reduceToNat]
      intro hx
      refine ⟨by first | exact Nat.le_refl _ | omega, ?_⟩
      rw [beforeV_word hw, hh]
  · have hz' : ¬ (werr s = 0) := hz
    simp +decide (disch := first | assumption | (apply GH.ok_push; assumption) | exact cellV_int _ _ | exact cellV_bool _ | omega) only [go_sem, ↓reduceIte, Nat.reduceEqDiff, Nat.reduceAdd, Int.reduceToNat, hz']
    intro hx
    exact ⟨by first | exact Nat.le_refl _ | omega, (beforeV_err hz).symm⟩
end Go.Proofs.Ytgnnhenbmnopaaa
set_option maxRecDepth 100000
set_option maxHeartbeats 8000000
set_option linter.unusedSimpArgs false
set_option linter.unusedVariables false
namespace Go.Proofs.Ytgnnhenbmnopaaa
open Go.Ds Go.Aw
theorem txt_inj {a b : List Nat} (ha : Dig a) (hb : Dig b) : Try.txt a = Try.txt b ↔ a = b := by
  refine ⟨fun h => ?_, fun h => by rw [h]⟩
  have := congrArg digs h
  rwa [digs_txt ha, digs_txt hb] at this
theorem dig22 : Dig [2, 2] := by intro d hd; simp at hd; omega
theorem txt22 : (⟨#[50, 50]⟩ : ByteArray) = Try.txt [2, 2] := rfl
theorem is22 {ds : List Nat} (hd : Dig ds) : (Try.txt ds = (⟨#[50, 50]⟩ : ByteArray)) ↔ ds = [2, 2] := by rw [txt22]; exact txt_inj hd dig22
open Classical in
noncomputable def ageN (ds : List Nat) : Nat := if h : ∃ n, Chain ds n then Classical.choose h else 0
theorem ageN_is {ds : List Nat} {n : Nat} (h : Chain ds n) : ageN ds = n := by
  have hx : ∃ n, Chain ds n := ⟨n, h⟩
  unfold ageN
  rw [dif_pos hx]
  exact Chain.det (Classical.choose_spec hx) h
noncomputable def ageV (s : ByteArray) : Value := if werr s = 0 then (if digs s = [2, 2] then .tuple #[.int .i64 0, .int .i64 9] else .tuple #[.int .i64 (ageN (digs s)), .int .i64 0]) else .tuple #[.int .i64 0, .int .i64 (werr s)]
theorem ageV_22 {ds : List Nat} (h : Wd ds) (h2 : ds = [2, 2]) : ageV (Try.txt ds) = .tuple #[.int .i64 0, .int .i64 9] := by
  unfold ageV; rw [if_pos h.werr, digs_txt h.dig, if_pos h2]
theorem ageV_n {ds : List Nat} (h : Wd ds) (h2 : ds ≠ [2, 2]) {n : Nat} (hc : Chain ds n) : ageV (Try.txt ds) = .tuple #[.int .i64 n, .int .i64 0] := by
  unfold ageV; rw [if_pos h.werr, digs_txt h.dig, if_neg h2, ageN_is hc]
theorem ageV_err {s : ByteArray} (h : werr s ≠ 0) : ageV s = .tuple #[.int .i64 0, .int .i64 (werr s)] := if_neg h
/-- The two values that say what was heard. -/
def heardS (ds : List Nat) : Value := match heard ds with
  | some v => .string (Try.txt v)
  | none => .string ⟨#[]⟩
def heardB (ds : List Nat) : Bool := (heard ds).isSome
theorem heardV_eq (ds : List Nat) : heardV ds = .tuple #[heardS ds, .bool (heardB ds)] := by
  unfold heardV heardS heardB
  cases heard ds <;> rfl
theorem age_rets {X : Caller} (hX : Xok X) (s : ByteArray) (g : GH) : Rets Try.prog X 31 [.string s] g (fun v g' lo => g.next ≤ lo ∧ v = ageV s) := by
  refine Rets.run hX.pres p31 (hX.free 31 (by decide) _ _) rfl fun ho => ?_
  simp +decide (disch := first | assumption | (apply GH.ok_push; assumption) | exact cellV_int _ _ | exact cellV_bool _ | omega) only [go_sem, ↓reduceIte, Nat.reduceEqDiff, Nat.reduceAdd, Int.reduceToNat]
  refine CallD.calm (wordErr_rets hX.toXfr s _) ?_
  rintro v g1 hx1 rfl
  have hn1 := hx1.next
  by_cases hz : werr s = 0
  · obtain ⟨ds, hw, rfl⟩ := werr_word hz
    have h2 := is22 hw.dig
    by_cases c22 : ds = [2, 2]
    · have c22' : decide (Try.txt ds = (⟨#[50, 50]⟩ : ByteArray)) = true := decide_eq_true (h2.2 c22)
      simp +decide (disch := first | assumption | (apply GH.ok_push; assumption) | exact cellV_int _ _ | exact cellV_bool _ | omega) only [go_sem, ↓reduceIte, Nat.reduceEqDiff, Nat.reduceAdd, Int.reduceToNat, hz, c22']
      intro hx
      exact ⟨by first | exact Nat.le_refl _ | omega, (ageV_22 hw c22).symm⟩
    · have c22' : ¬ (Try.txt ds = (⟨#[50, 50]⟩ : ByteArray)) := fun h => c22 (h2.1 h)
      have c23' : decide (Try.txt ds = (⟨#[50, 50]⟩ : ByteArray)) = false := decide_eq_false c22'
      obtain ⟨n, hnb, hc⟩ := chain_any hw.dig hw.ne c22
      have hwl := hw.len
      simp +decide (disch := first | assumption | (apply GH.ok_push; assumption) | exact cellV_int _ _ | exact cellV_bool _ | omega) only [go_sem, ↓reduceIte, Nat.reduceEqDiff, Nat.reduceAdd, Int.reduceToNat, hz, c23']
      refine CallD.calm (before_rets hX ds hw.dig (by omega) _) ?_
      rintro v g2 hx2 rfl
      have hn2 := hx2.next
      rw [heardV_eq]
      simp +decide (disch := first | assumption | (apply GH.ok_push; assumption) | exact cellV_int _ _ | exact cellV_bool _ | omega) only [go_sem, ↓reduceIte, Nat.reduceEqDiff, Nat.reduceAdd, Int.reduceToNat]
      refine Wk.loops (fun m e g' lo => g.next ≤ lo ∧ ∃ (k : Nat) (x : List Nat), (k ≤ n ∧ m = n - k) ∧ Dig x ∧ (heard x ≠ none → x.length ≤ 200) ∧ Chain x (n - k) ∧ (ev e (.s 5) = .int .i64 k ∧ ev e (.s 6) = heardS x ∧ ev e (.s 7) = .bool (heardB x)))
        (fun e g' lo => g.next ≤ lo ∧ ev e (.s 5) = .int .i64 n) (n := n) ?_ ?_ ?_
      · exact ⟨by first | exact Nat.le_refl _ | omega, 0, ds, ⟨Nat.zero_le _, rfl⟩, hw.dig, fun _ => hwl, hc, (by simp +decide (disch := first | assumption | (apply GH.ok_push; assumption) | exact cellV_int _ _ | exact cellV_bool _ | omega) only [go_sem, ↓reduceIte, Nat.reduceEqDiff, Nat.reduceAdd, Int.reduceToNat]; first | done | exact rfl)⟩
      · rintro e g' lo - - ⟨hlo, he⟩
        simp +decide (disch := first | assumption | (apply GH.ok_push; assumption) | exact cellV_int _ _ | exact cellV_bool _ | omega) only [go_sem, ↓reduceIte, Nat.reduceEqDiff, Nat.reduceAdd, Int.reduceToNat, he]
        intro hx
        exact ⟨hlo, (ageV_n hw c22 hc).symm⟩
      · rintro m e g' lo ho' hl' ih out ⟨hlo, k, x, ⟨hk, hm⟩, hd, hxl, hch, he⟩
        cases hh : heard x with
        | none =>
          have hb : heardB x = false := by unfold heardB; rw [hh]; rfl
          have hkn : k = n := by
            cases q : n - k with
            | zero => omega
            | succ q2 =>
              rw [q] at hch
              obtain ⟨v, e1, _⟩ := hch
              rw [hh] at e1; cases e1
          subst hkn
          simp +decide (disch := first | assumption | (apply GH.ok_push; assumption) | exact cellV_int _ _ | exact cellV_bool _ | omega) only [go_sem, ↓reduceIte, Nat.reduceEqDiff, Nat.reduceAdd, Int.reduceToNat, he, hb]
          exact out _ _ _ ⟨hlo, (by simp +decide (disch := first | assumption | (apply GH.ok_push; assumption) | exact cellV_int _ _ | exact cellV_bool _ | omega) only [go_sem, ↓reduceIte, Nat.reduceEqDiff, Nat.reduceAdd, Int.reduceToNat, he]; first | done | exact rfl)⟩
        | some v =>
          have hb : heardB x = true := by unfold heardB; rw [hh]; rfl
          have hs : heardS x = .string (Try.txt v) := by unfold heardS; rw [hh]
          have hxl2 := hxl (by rw [hh]; exact fun z => by cases z)
          have hvb := heard_bound hd hh
          have hvd := heard_dig hd hh
          have hkn : k < n ∧ Chain v (n - (k + 1)) := by
            cases q : n - k with
            | zero =>
              rw [q] at hch
              rw [show heard x = none from hch] at hh; cases hh
            | succ q2 =>
              rw [q] at hch
              obtain ⟨v2, e1, h3⟩ := hch
              rw [hh] at e1; cases e1
              refine ⟨by omega, ?_⟩
              rw [show n - (k + 1) = q2 by omega]
              exact h3
          simp +decide (disch := first | assumption | (apply GH.ok_push; assumption) | exact cellV_int _ _ | exact cellV_bool _ | omega) only [go_sem, ↓reduceIte, Nat.reduceEqDiff, Nat.reduceAdd, Int.reduceToNat, he, hb, hs]
          refine CallD.calm (before_rets hX v hvd (by omega) _) ?_
          rintro u g3 hx3 rfl
          have hn3 := hx3.next
          rw [heardV_eq]
          simp +decide (disch := first | assumption | (apply GH.ok_push; assumption) | exact cellV_int _ _ | exact cellV_bool _ | omega) only [go_sem, ↓reduceIte, Nat.reduceEqDiff, Nat.reduceAdd, Int.reduceToNat, he]
          refine ih (m - 1) _ _ _ (by omega) ⟨by omega, k + 1, v, ⟨by omega, by omega⟩, hvd, fun h => ?_, hkn.2, (by simp +decide (disch := first | assumption | (apply GH.ok_push; assumption) | exact cellV_int _ _ | exact cellV_bool _ | omega) only [go_sem, ↓reduceIte, Nat.reduceEqDiff, Nat.reduceAdd, Int.reduceToNat, he]; first | done | exact rfl)⟩
          cases hv : heard v with
          | none => exact absurd hv h
          | some u => have := heard_len hh hv; omega
  · have hz' : ¬ (werr s = 0) := hz
    simp +decide (disch := first | assumption | (apply GH.ok_push; assumption) | exact cellV_int _ _ | exact cellV_bool _ | omega) only [go_sem, ↓reduceIte, Nat.reduceEqDiff, Nat.reduceAdd, Int.reduceToNat, hz']
    intro hx
    exact ⟨by first | exact Nat.le_refl _ | omega, (ageV_err hz).symm⟩
theorem refAge_rets {X : Caller} (hX : Xok X) (s : ByteArray) (g : GH) : Rets Try.prog X 32 [.string s] g (fun v g' lo => g.next ≤ lo ∧ v = ageV s) := by
  refine Rets.run hX.pres p32 (hX.free 32 (by decide) _ _) rfl fun ho => ?_
  simp +decide (disch := first | assumption | (apply GH.ok_push; assumption) | exact cellV_int _ _ | exact cellV_bool _ | omega) only [go_sem, ↓reduceIte, Nat.reduceEqDiff, Nat.reduceAdd, Int.reduceToNat]
  refine CallD.calm (refWord_rets hX.toXfr s _) ?_
  rintro v g1 hx1 ⟨rfl, rfl⟩
  by_cases hz : werr s = 0
  · obtain ⟨ds, hw, rfl⟩ := werr_word hz
    have h2 := is22 hw.dig
    by_cases c22 : ds = [2, 2]
    · have c22' : decide (Try.txt ds = (⟨#[50, 50]⟩ : ByteArray)) = true := decide_eq_true (h2.2 c22)
      simp +decide (disch := first | assumption | (apply GH.ok_push; assumption) | exact cellV_int _ _ | exact cellV_bool _ | omega) only [go_sem, ↓reduceIte, Nat.reduceEqDiff, Nat.reduceAdd, Int.reduceToNat, hz, c22']
      intro hx
      exact ⟨by first | exact Nat.le_refl _ | omega, (ageV_22 hw c22).symm⟩
    · have c22' : ¬ (Try.txt ds = (⟨#[50, 50]⟩ : ByteArray)) := fun h => c22 (h2.1 h)
      have c23' : decide (Try.txt ds = (⟨#[50, 50]⟩ : ByteArray)) = false := decide_eq_false c22'
      obtain ⟨n, hnb, hc⟩ := chain_any hw.dig hw.ne c22
      have hwl := hw.len
      simp +decide (disch := first | assumption | (apply GH.ok_push; assumption) | exact cellV_int _ _ | exact cellV_bool _ | omega) only [go_sem, ↓reduceIte, Nat.reduceEqDiff, Nat.reduceAdd, Int.reduceToNat, hz, c23']
      refine CallD.calm (refHeard_rets hX.toXfr ds hw.dig (by omega) _) ?_
      rintro v g2 hx2 rfl
      have hn2 := hx2.next
      rw [heardV_eq]
      simp +decide (disch := first | assumption | (apply GH.ok_push; assumption) | exact cellV_int _ _ | exact cellV_bool _ | omega) only [go_sem, ↓reduceIte, Nat.reduceEqDiff, Nat.reduceAdd, Int.reduceToNat]
      refine Wk.loops (fun m e g' lo => g1.next ≤ lo ∧ ∃ (k : Nat) (x : List Nat), (k ≤ n ∧ m = n - k) ∧ Dig x ∧ (heard x ≠ none → x.length ≤ 200) ∧ Chain x (n - k) ∧ (ev e (.s 5) = .int .i64 k ∧ ev e (.s 6) = heardS x ∧ ev e (.s 7) = .bool (heardB x)))
        (fun e g' lo => g1.next ≤ lo ∧ ev e (.s 5) = .int .i64 n) (n := n) ?_ ?_ ?_
      · exact ⟨by first | exact Nat.le_refl _ | omega, 0, ds, ⟨Nat.zero_le _, rfl⟩, hw.dig, fun _ => hwl, hc, (by simp +decide (disch := first | assumption | (apply GH.ok_push; assumption) | exact cellV_int _ _ | exact cellV_bool _ | omega) only [go_sem, ↓reduceIte, Nat.reduceEqDiff, Nat.reduceAdd, Int.reduceToNat]; first | done | exact rfl)⟩
      · rintro e g' lo - - ⟨hlo, he⟩
        simp +decide (disch := first | assumption | (apply GH.ok_push; assumption) | exact cellV_int _ _ | exact cellV_bool _ | omega) only [go_sem, ↓reduceIte, Nat.reduceEqDiff, Nat.reduceAdd, Int.reduceToNat, he]
        intro hx
        exact ⟨hlo, (ageV_n hw c22 hc).symm⟩
      · rintro m e g' lo ho' hl' ih out ⟨hlo, k, x, ⟨hk, hm⟩, hd, hxl, hch, he⟩
        cases hh : heard x with
        | none =>
          have hb : heardB x = false := by unfold heardB; rw [hh]; rfl
          have hkn : k = n := by
            cases q : n - k with
            | zero => omega
            | succ q2 =>
              rw [q] at hch
              obtain ⟨v, e1, _⟩ := hch
              rw [hh] at e1; cases e1
          subst hkn
          simp +decide (disch := first | assumption | (apply GH.ok_push; assumption) | exact cellV_int _ _ | exact cellV_bool _ | omega) only [go_sem, ↓reduceIte, Nat.reduceEqDiff, Nat.reduceAdd, Int.reduceToNat, he, hb]
          exact out _ _ _ ⟨hlo, (by simp +decide (disch := first | assumption | (apply GH.ok_push; assumption) | exact cellV_int _ _ | exact cellV_bool _ | omega) only [go_sem, ↓reduceIte, Nat.reduceEqDiff, Nat.reduceAdd, Int.reduceToNat, he]; first | done | exact rfl)⟩
        | some v =>
          have hb : heardB x = true := by unfold heardB; rw [hh]; rfl
          have hs : heardS x = .string (Try.txt v) := by unfold heardS; rw [hh]
          have hxl2 := hxl (by rw [hh]; exact fun z => by cases z)
          have hvb := heard_bound hd hh
          have hvd := heard_dig hd hh
          have hkn : k < n ∧ Chain v (n - (k + 1)) := by
            cases q : n - k with
            | zero =>
              rw [q] at hch
              rw [show heard x = none from hch] at hh; cases hh
            | succ q2 =>
              rw [q] at hch
              obtain ⟨v2, e1, h3⟩ := hch
              rw [hh] at e1; cases e1
              refine ⟨by omega, ?_⟩
              rw [show n - (k + 1) = q2 by omega]
              exact h3
          simp +decide (disch := first | assumption | (apply GH.ok_push; assumption) | exact cellV_int _ _ | exact cellV_bool _ | omega) only [go_sem, ↓reduceIte, Nat.reduceEqDiff, Nat.reduceAdd, Int.reduceToNat, he, hb, hs]
          refine CallD.calm (refHeard_rets hX.toXfr v hvd (by omega) _) ?_
          rintro u g3 hx3 rfl
          have hn3 := hx3.next
          rw [heardV_eq]
          simp +decide (disch := first | assumption | (apply GH.ok_push; assumption) | exact cellV_int _ _ | exact cellV_bool _ | omega) only [go_sem, ↓reduceIte, Nat.reduceEqDiff, Nat.reduceAdd, Int.reduceToNat, he]
          refine ih (m - 1) _ _ _ (by omega) ⟨by omega, k + 1, v, ⟨by omega, by omega⟩, hvd, fun h => ?_, hkn.2, (by simp +decide (disch := first | assumption | (apply GH.ok_push; assumption) | exact cellV_int _ _ | exact cellV_bool _ | omega) only [go_sem, ↓reduceIte, Nat.reduceEqDiff, Nat.reduceAdd, Int.reduceToNat, he]; first | done | exact rfl)⟩
          cases hv : heard v with
          | none => exact absurd hv h
          | some u => have := heard_len hh hv; omega
  · have hz' : ¬ (werr s = 0) := hz
    simp +decide (disch := first | assumption | (apply GH.ok_push; assumption) | exact cellV_int _ _ | exact cellV_bool _ | omega) only [go_sem, ↓reduceIte, Nat.reduceEqDiff, Nat.reduceAdd, Int.reduceToNat, hz']
    intro hx
    exact ⟨by first | exact Nat.le_refl _ | omega, (ageV_err hz).symm⟩
end Go.Proofs.Ytgnnhenbmnopaaa
