import Derived.Test.YtnpapnpedcbfnaaDoorJ1
set_option linter.all false
set_option linter.unusedSimpArgs false
set_option linter.unnecessarySimpa false
set_option linter.unusedVariables false
set_option linter.unusedSectionVars false
set_option maxRecDepth 100000
set_option maxHeartbeats 4000000
set_option linter.unusedSimpArgs false
set_option linter.unusedVariables false
namespace Go.Proofs.YtnpapnpedcbfnaaDoor
open Go.Ds Go.Vs
/-! ## Pairs -/
def cellsI (l : List (Int × Int)) : List Value := l.flatMap fun p => [.int .i64 p.1, .int .i64 p.2]
theorem cellsI_len (l : List (Int × Int)) : (cellsI l).length = l.length * 2 := by
  induction l with
  | nil => rfl
  | cons p l ih => simp only [cellsI] at ih; simp [cellsI, ih]; omega
theorem cellsI_get : ∀ (L : List (Int × Int)) (i : Nat) (h : i < L.length), (cellsI L)[i * 2]? = some (.int .i64 L[i].1) ∧ (cellsI L)[i * 2 + 1]? = some (.int .i64 L[i].2)
  | [], i, h => by simp at h
  | p :: L, 0, h => by simp [cellsI]
  | p :: L, i + 1, h => by
    have := cellsI_get L i (by simpa using h)
    have e : cellsI (p :: L) = .int .i64 p.1 :: .int .i64 p.2 :: cellsI L := by simp [cellsI]
    rw [e, show (i + 1) * 2 = i * 2 + 1 + 1 by omega]
    simpa using this
theorem cellsI_drop (L : List (Int × Int)) (i : Nat) (h : i < L.length) : (((cellsI L).drop (i * 2)).take 2).toArray = #[.int .i64 L[i].1, .int .i64 L[i].2] := by
  obtain ⟨h1, h2⟩ := cellsI_get L i h
  have hl := cellsI_len L
  obtain ⟨_, e1⟩ := List.getElem?_eq_some_iff.1 h1
  obtain ⟨_, e2⟩ := List.getElem?_eq_some_iff.1 h2
  rw [List.drop_eq_getElem_cons (by omega), List.drop_eq_getElem_cons (by omega), e1, e2]
  rfl
def toI (P : List (Nat × Nat)) : List (Int × Int) := P.map fun p => ((p.1 : Int), (p.2 : Int))
theorem cellsI_toI (P : List (Nat × Nat)) : cellsI (toI P) = cellsP P := by
  simp [cellsI, cellsP, toI, List.flatMap_map]
def goodP (L : List Int) (last : Int) (tk : Nat) (a b : Int) : Bool := decide (last < a) && decide (a < b) && decide (b < L.length) && (setF L a.toNat).testBit b.toNat && !tk.testBit a.toNat && !tk.testBit b.toNat
def scanM (L : List Int) : List (Int × Int) → Int → Nat → Bool
  | [], _, _ => true
  | p :: P, last, tk => goodP L last tk p.1 p.2 && scanM L P p.1 (tk ||| 2 ^ p.1.toNat ||| 2 ^ p.2.toNat)
/-- What was taken. -/
def tkn : List (Int × Int) → Nat → Nat
  | [], tk => tk
  | p :: P, tk => tkn P (tk ||| 2 ^ p.1.toNat ||| 2 ^ p.2.toNat)
def lastM (P : List (Int × Int)) : Int := match P.getLast? with
  | some p => p.1
  | none => -1
theorem tkn_snoc (P : List (Int × Int)) (p : Int × Int) : ∀ tk, tkn (P ++ [p]) tk = tkn P tk ||| 2 ^ p.1.toNat ||| 2 ^ p.2.toNat := by
  induction P with
  | nil => intro tk; rfl
  | cons q P ih => intro tk; exact ih _
theorem scan_snoc (L : List Int) (P : List (Int × Int)) (p : Int × Int) : ∀ last tk, scanM L (P ++ [p]) last tk = (scanM L P last tk && goodP L (match P.getLast? with | some q => q.1 | none => last) (tkn P tk) p.1 p.2) := by
  induction P with
  | nil => intro last tk; simp [scanM, tkn]
  | cons q P ih =>
    intro last tk
    show (_ && scanM L (P ++ [p]) _ _) = (_ && _ && _)
    rw [ih]
    cases P with
    | nil => simp [scanM, tkn]
    | cons r R => simp [List.getLast?_cons_cons, Bool.and_assoc, tkn]; rfl
def matI (L : List Int) (P : List (Int × Int)) : Bool := scanM L P (-1) 0
theorem mat_take (L : List Int) (P : List (Int × Int)) (i : Nat) (h : i < P.length) : matI L (P.take (i + 1)) = (matI L (P.take i) && goodP L (lastM (P.take i)) (tkn (P.take i) 0) P[i].1 P[i].2) := by
  unfold matI
  rw [List.take_succ_eq_append_getElem h, scan_snoc]
  rfl
theorem scan_more (L : List Int) (P Q : List (Int × Int)) : ∀ last tk, scanM L P last tk = false → scanM L (P ++ Q) last tk = false := by
  induction P with
  | nil => intro last tk h; cases h
  | cons p P ih =>
    intro last tk h
    show (_ && scanM L (P ++ Q) _ _) = false
    have h : (_ && scanM L P _ _) = false := h
    rw [Bool.and_eq_false_iff] at h ⊢
    exact h.imp id (ih _ _)
theorem mat_bad (L : List Int) (P : List (Int × Int)) (i : Nat) (h : i < P.length) (hb : goodP L (lastM (P.take i)) (tkn (P.take i) 0) P[i].1 P[i].2 = false) : matI L P = false := by
  have h1 := mat_take L P i h
  rw [hb, Bool.and_false] at h1
  have h2 := scan_more L (P.take (i + 1)) (P.drop (i + 1)) (-1) 0 h1
  rw [List.take_append_drop] at h2
  exact h2
theorem take_last (P : List (Int × Int)) (i : Nat) (h : i < P.length) : lastM (P.take (i + 1)) = P[i].1 := by
  unfold lastM
  rw [List.take_succ_eq_append_getElem h, List.getLast?_append]
  rfl
theorem take_tkn (P : List (Int × Int)) (i : Nat) (h : i < P.length) : tkn (P.take (i + 1)) 0 = tkn (P.take i) 0 ||| 2 ^ P[i].1.toNat ||| 2 ^ P[i].2.toNat := by
  rw [List.take_succ_eq_append_getElem h, tkn_snoc]
/-- What comes of pairs that are all good. -/
theorem mat_inv {L : List Int} (hL : L.length ≤ 10) : ∀ (P : List (Int × Int)), matI L P = true → -1 ≤ lastM P ∧ lastM P < 10 ∧ tkn P 0 < 1024 := by
  intro P
  suffices h : ∀ i, i ≤ P.length → matI L (P.take i) = true → -1 ≤ lastM (P.take i) ∧ lastM (P.take i) < 10 ∧ tkn (P.take i) 0 < 1024 by
    intro hm
    have := h P.length (Nat.le_refl _)
    rw [List.take_length] at this
    exact this hm
  intro i
  induction i with
  | zero => intro _ _; rw [List.take_zero]; exact ⟨by unfold lastM; simp, by unfold lastM; simp, by unfold tkn; decide⟩
  | succ i ih =>
    intro hi hm
    rw [mat_take L P i hi, Bool.and_eq_true] at hm
    obtain ⟨h1, h2, h3⟩ := ih (by omega) hm.1
    have h4 := hm.2
    unfold goodP at h4
    simp only [Bool.and_eq_true, decide_eq_true_eq] at h4
    obtain ⟨⟨⟨⟨⟨q1, q2⟩, q3⟩, _⟩, _⟩, _⟩ := h4
    rw [take_last P i hi, take_tkn P i hi]
    refine ⟨by omega, by omega, ?_⟩
    have e : (1024 : Nat) = 2 ^ 10 := rfl
    rw [e]
    exact or_lt (or_lt h3 (by omega)) (by omega)
theorem few_rets {X : Caller} (hX : Xfr X) (s p : Value) (n m : Nat) (hn : lenLF s = some (.int .i64 (n : Int))) (hm : lenLF p = some (.int .i64 (m : Int))) (g : GH) : Rets Tryd.prog X 15 [s, p] g (fun v g' lo => g.next ≤ lo ∧ v = .bool (decide (n ≤ 40) && decide (m ≤ 40))) := by
  generalize hr : (decide (n ≤ 40) && decide (m ≤ 40)) = r
  refine Rets.run hX.pres p15 (hX.free 15 (by decide) _ _) rfl fun ho => ?_
  by_cases c1 : n ≤ 40
  · have c1' : (n : Int) ≤ 40 := by omega
    by_cases c2 : m ≤ 40
    · have c2' : (m : Int) ≤ 40 := by omega
      simp +decide (disch := first | assumption | exact cellV_int _ _ | exact cellV_bool _ | omega | (simp only [GH.pn, GH.sn] <;> omega) | (with_reducible ((repeat (first | apply GH.ok_push | apply GH.ok_set)); assumption)) | ((try simp only [GH.push_hid, GH.set_hid]); first | assumption | (refine GH.vis ?_ ?_ <;> first | assumption | ((try simp only [GH.pn, GH.sn]) <;> omega)))) only [go_sem, ↓reduceIte, Nat.reduceEqDiff, Nat.reduceAdd, Int.reduceToNat, Int.reduceAdd, Int.reduceNeg, Int.reduceSub, Int.reduceMul, Int.reduceLT, Int.reduceLE, Int.reduceEq, ↓GH.gp_eq, ↓GH.gp_ne, ↓GH.gs_eq, ↓GH.gs_ne, GH.push_next, GH.set_next, hn, hm, c1', c2']
      intro hx0
      exact ⟨by omega, by rw [← hr, decide_eq_true c1, decide_eq_true c2]; rfl⟩
    · have c2' : ¬ (m : Int) ≤ 40 := by omega
      simp +decide (disch := first | assumption | exact cellV_int _ _ | exact cellV_bool _ | omega | (simp only [GH.pn, GH.sn] <;> omega) | (with_reducible ((repeat (first | apply GH.ok_push | apply GH.ok_set)); assumption)) | ((try simp only [GH.push_hid, GH.set_hid]); first | assumption | (refine GH.vis ?_ ?_ <;> first | assumption | ((try simp only [GH.pn, GH.sn]) <;> omega)))) only [go_sem, ↓reduceIte, Nat.reduceEqDiff, Nat.reduceAdd, Int.reduceToNat, Int.reduceAdd, Int.reduceNeg, Int.reduceSub, Int.reduceMul, Int.reduceLT, Int.reduceLE, Int.reduceEq, ↓GH.gp_eq, ↓GH.gp_ne, ↓GH.gs_eq, ↓GH.gs_ne, GH.push_next, GH.set_next, hn, hm, c1', c2']
      intro hx0
      exact ⟨by omega, by rw [← hr, decide_eq_true c1, decide_eq_false c2]; rfl⟩
  · have c1' : ¬ (n : Int) ≤ 40 := by omega
    simp +decide (disch := first | assumption | exact cellV_int _ _ | exact cellV_bool _ | omega | (simp only [GH.pn, GH.sn] <;> omega) | (with_reducible ((repeat (first | apply GH.ok_push | apply GH.ok_set)); assumption)) | ((try simp only [GH.push_hid, GH.set_hid]); first | assumption | (refine GH.vis ?_ ?_ <;> first | assumption | ((try simp only [GH.pn, GH.sn]) <;> omega)))) only [go_sem, ↓reduceIte, Nat.reduceEqDiff, Nat.reduceAdd, Int.reduceToNat, Int.reduceAdd, Int.reduceNeg, Int.reduceSub, Int.reduceMul, Int.reduceLT, Int.reduceLE, Int.reduceEq, ↓GH.gp_eq, ↓GH.gp_ne, ↓GH.gs_eq, ↓GH.gs_ne, GH.push_next, GH.set_next, hn, hm, c1']
    intro hx0
    exact ⟨by omega, by rw [← hr, decide_eq_false c1]; rfl⟩
theorem oV_s {v : Value} {f : Value → Prop} : oV (some v) f = f v := by simp [oV]
theorem envR {P : Program} {X : Caller} {Q : Out → Env → GH → Nat → Prop} {l : List PI} {k : Nat} {sp : List (Nat × (Nat × Nat))} {wr : List Nat} {ks : List Fr} {e : Env} {g : GH} {lo : Nat} (F : Env → Prop) (h0 : F e) (h : ∀ e', F e' → Wk P X Q (.R l k sp wr ks e' g lo)) : Wk P X Q (.R l k sp wr ks e g lo) := h e h0
end Go.Proofs.YtnpapnpedcbfnaaDoor
set_option maxRecDepth 100000
set_option maxHeartbeats 4000000
set_option linter.unusedSimpArgs false
set_option linter.unusedVariables false
namespace Go.Proofs.YtnpapnpedcbfnaaDoor
open Go.Ds Go.Vs
theorem matching_rets {X : Caller} (hX : Xfr X) (L : List Int) (hL : shopB L = true) (s p : Value) (P : List (Int × Int)) (hP : P.length ≤ 1000) (g : GH) (hs : SlR g s (ints L)) (hp : SlQ g p 2 P.length (cellsI P)) :
    Rets Tryd.prog X 48 [s, p] g (fun v g' lo => g.next ≤ lo ∧ v = .bool (matI L P)) := by
  obtain ⟨hL1, hL10, hA⟩ := shop_ok hL
  have hl := hp.len
  generalize hr : matI L P = r
  refine Rets.run hX.pres p48 (hX.free 48 (by decide) _ _) rfl fun ho => ?_
  simp +decide (disch := first | assumption | exact cellV_int _ _ | exact cellV_bool _ | omega | (simp only [GH.pn, GH.sn] <;> omega) | (with_reducible ((repeat (first | apply GH.ok_push | apply GH.ok_set)); assumption)) | ((try simp only [GH.push_hid, GH.set_hid]); first | assumption | (refine GH.vis ?_ ?_ <;> first | assumption | ((try simp only [GH.pn, GH.sn]) <;> omega)))) only [go_sem, ↓reduceIte, Nat.reduceEqDiff, Nat.reduceAdd, Int.reduceToNat, Int.reduceAdd, Int.reduceNeg, Int.reduceSub, Int.reduceMul, Int.reduceLT, Int.reduceLE, Int.reduceEq, ↓GH.gp_eq, ↓GH.gp_ne, ↓GH.gs_eq, ↓GH.gs_ne, GH.push_next, GH.set_next, hl]
  refine Wk.loops (fun m e g' lo => g.next ≤ lo ∧ Kept g g' ∧ ∃ i : Nat, i + m = P.length ∧ (ev e (.s 0) = s ∧ ev e (.s 9) = p ∧ ev e (.s 10) = .int .i64 (P.length : Int) ∧ ev e (.s 11) = .int .i64 (i : Nat) ∧ ev e (.s 5) = .int .i64 (tkn (P.take i) 0 : Nat) ∧ ev e (.s 6) = .int .i64 (lastM (P.take i))) ∧ matI L (P.take i) = true)
    (fun e g' lo => g.next ≤ lo ∧ r = true) (n := P.length) ?_ ?_ ?_
  · refine ⟨Nat.le_refl _, Kept.refl _, 0, by omega, ?_, rfl⟩
    rw [List.take_zero]
    show _ ∧ _ ∧ _ ∧ _ ∧ _ = Value.int .i64 0 ∧ _ = Value.int .i64 (-1)
    exact (by simp +decide (disch := first | assumption | (apply GH.ok_push; assumption) | exact cellV_int _ _ | exact cellV_bool _ | omega) only [go_sem, ↓reduceIte, Nat.reduceEqDiff, Nat.reduceAdd, Int.reduceToNat, hl]; first | done | exact rfl)
  · rintro e g' lo - - ⟨hlo, h⟩
    simp +decide (disch := first | assumption | exact cellV_int _ _ | exact cellV_bool _ | omega | (simp only [GH.pn, GH.sn] <;> omega) | (with_reducible ((repeat (first | apply GH.ok_push | apply GH.ok_set)); assumption)) | ((try simp only [GH.push_hid, GH.set_hid]); first | assumption | (refine GH.vis ?_ ?_ <;> first | assumption | ((try simp only [GH.pn, GH.sn]) <;> omega)))) only [go_sem, ↓reduceIte, Nat.reduceEqDiff, Nat.reduceAdd, Int.reduceToNat, Int.reduceAdd, Int.reduceNeg, Int.reduceSub, Int.reduceMul, Int.reduceLT, Int.reduceLE, Int.reduceEq, ↓GH.gp_eq, ↓GH.gp_ne, ↓GH.gs_eq, ↓GH.gs_ne, GH.push_next, GH.set_next]
    intro hx0
    exact ⟨hlo, by rw [h]⟩
  · rintro m e g' lo ho' hl' ih out ⟨hlo, hk, i, hi, he, hm⟩
    have hkn := hk.next
    by_cases ci : i < P.length
    case neg =>
      have ci' : ¬ (i : Int) < P.length := by omega
      simp +decide (disch := first | assumption | exact cellV_int _ _ | exact cellV_bool _ | omega | (simp only [GH.pn, GH.sn] <;> omega) | (with_reducible ((repeat (first | apply GH.ok_push | apply GH.ok_set)); assumption)) | ((try simp only [GH.push_hid, GH.set_hid]); first | assumption | (refine GH.vis ?_ ?_ <;> first | assumption | ((try simp only [GH.pn, GH.sn]) <;> omega)))) only [go_sem, ↓reduceIte, Nat.reduceEqDiff, Nat.reduceAdd, Int.reduceToNat, Int.reduceAdd, Int.reduceNeg, Int.reduceSub, Int.reduceMul, Int.reduceLT, Int.reduceLE, Int.reduceEq, ↓GH.gp_eq, ↓GH.gp_ne, ↓GH.gs_eq, ↓GH.gs_ne, GH.push_next, GH.set_next, he, ci']
      have : i = P.length := by omega
      subst this
      rw [List.take_length] at hm
      exact out _ _ _ ⟨hlo, by rw [← hr, hm]⟩
    have ci' : (i : Int) < P.length := by omega
    obtain ⟨j, a, hj, hp1, hp2, hp3⟩ := (hp.kept hk).ptr ci
    have hp1 := hp1 (i : Int) rfl
    rw [cellsI_drop P i ci] at hp3
    have hbad := mat_bad L P i ci
    have htk := mat_take L P i ci
    rw [hm, Bool.true_and] at htk
    have htl := take_last P i ci
    have htt := take_tkn P i ci
    obtain ⟨hv1, hv2, hv3⟩ := mat_inv hL10 _ hm
    obtain ⟨q, hq⟩ : ∃ q, P[i] = q := ⟨_, rfl⟩
    obtain ⟨x, y⟩ := q
    rw [hq] at hp3 hbad htk htl htt
    dsimp only at hp3 hbad htk htl htt
    generalize hla : lastM (P.take i) = la at *
    generalize htka : tkn (P.take i) 0 = tk at *
    have hg0 : (g'.push (cellsOb [.int .i64 0, .int .i64 0] 56)).get g'.next = cellsOb [.int .i64 0, .int .i64 0] 56 := (by simp (disch := first | assumption | exact cellV_int _ _ | exact cellV_bool _ | omega | (simp only [GH.pn, GH.sn] <;> omega) | (with_reducible ((repeat (first | apply GH.ok_push | apply GH.ok_set)); assumption)) | ((try simp only [GH.push_hid, GH.set_hid]); first | assumption | (refine GH.vis ?_ ?_ <;> first | assumption | ((try simp only [GH.pn, GH.sn]) <;> omega)))) only [↓GH.gp_eq, ↓GH.gp_ne, ↓GH.gs_eq, ↓GH.gs_ne, GH.push_next, GH.set_next]; first | done | exact rfl)
    have hg1 : ((g'.push (cellsOb [.int .i64 0, .int .i64 0] 56)).set g'.next (cellsOb [.int .i64 x, .int .i64 y] 56)).get g'.next = cellsOb [.int .i64 x, .int .i64 y] 56 := (by simp (disch := first | assumption | exact cellV_int _ _ | exact cellV_bool _ | omega | (simp only [GH.pn, GH.sn] <;> omega) | (with_reducible ((repeat (first | apply GH.ok_push | apply GH.ok_set)); assumption)) | ((try simp only [GH.push_hid, GH.set_hid]); first | assumption | (refine GH.vis ?_ ?_ <;> first | assumption | ((try simp only [GH.pn, GH.sn]) <;> omega)))) only [↓GH.gp_eq, ↓GH.gp_ne, ↓GH.gs_eq, ↓GH.gs_ne, GH.push_next, GH.set_next]; first | done | exact rfl)
    have hkG : Kept g ((g'.push (cellsOb [.int .i64 0, .int .i64 0] 56)).set g'.next (cellsOb [.int .i64 x, .int .i64 y] 56)) := (by (repeat' first | exact Kept.refl _ | assumption | refine Kept.push ?_ ?_ _ | refine Kept.setV ?_ ?_ ?_ _) <;> (first | assumption | exact cellV_int _ _ | exact cellV_bool _ | omega | (simp only [GH.pn, GH.sn] <;> omega) | (with_reducible ((repeat (first | apply GH.ok_push | apply GH.ok_set)); assumption)) | ((try simp only [GH.push_hid, GH.set_hid]); first | assumption | (refine GH.vis ?_ ?_ <;> first | assumption | ((try simp only [GH.pn, GH.sn]) <;> omega)))))
    have hnG : ((g'.push (cellsOb [.int .i64 0, .int .i64 0] 56)).set g'.next (cellsOb [.int .i64 x, .int .i64 y] 56)).next = g'.next + 1 := rfl
    have hokG : ((g'.push (cellsOb [.int .i64 0, .int .i64 0] 56)).set g'.next (cellsOb [.int .i64 x, .int .i64 y] 56)).ok := GH.ok_set (GH.ok_push ho')
    have hsp : splice 0 [Value.int .i64 0, Value.int .i64 0] [Value.int .i64 x, Value.int .i64 y] = [.int .i64 x, .int .i64 y] := Eq.trans rfl rfl
    simp +decide (disch := first | assumption | (apply GH.ok_push; assumption) | exact cellV_int _ _ | exact cellV_bool _ | omega) only [go_sem, ↓reduceIte, Nat.reduceEqDiff, Nat.reduceAdd, Int.reduceToNat, he, ci', hp1, hp3, hg0, hsp]
    have hob : obLoad none (cellsOb [.int .i64 x, .int .i64 y] 56) 0 = some (.int .i64 x) := rfl
    have hob2 : obLoad none (cellsOb [.int .i64 x, .int .i64 y] 56) 1 = some (.int .i64 y) := rfl
    simp only [hg1, hob, oV_s]
    refine envR (fun e => ev e (.s 0) = s ∧ ev e (.s 9) = p ∧ ev e (.s 10) = .int .i64 (P.length : Int) ∧ ev e (.s 11) = .int .i64 (i : Nat) ∧ ev e (.s 5) = .int .i64 (tk : Nat) ∧ ev e (.s 6) = .int .i64 la ∧ ev e (.s 8) = ptrTo g'.next ∧ ev e (.s 16) = .int .i64 x) ?h0 (fun e he => ?_)
    case h0 => exact (by simp +decide (disch := first | assumption | (apply GH.ok_push; assumption) | exact cellV_int _ _ | exact cellV_bool _ | omega) only [go_sem, ↓reduceIte, Nat.reduceEqDiff, Nat.reduceAdd, Int.reduceToNat, he]; first | done | exact rfl)
    by_cases f1 : x ≤ la
    · simp +decide (disch := first | assumption | (apply GH.ok_push; assumption) | exact cellV_int _ _ | exact cellV_bool _ | omega) only [go_sem, ↓reduceIte, Nat.reduceEqDiff, Nat.reduceAdd, Int.reduceToNat, he, hg1, hob, hob2, oV_s, f1]
      intro hx0
      exact ⟨by omega, by rw [← hr, hbad (by unfold goodP; rw [decide_eq_false (p := la < x) (by omega)]; rfl)]⟩
    by_cases f2 : y ≤ x
    · simp +decide (disch := first | assumption | (apply GH.ok_push; assumption) | exact cellV_int _ _ | exact cellV_bool _ | omega) only [go_sem, ↓reduceIte, Nat.reduceEqDiff, Nat.reduceAdd, Int.reduceToNat, he, hg1, hob, hob2, oV_s, f1, f2]
      intro hx0
      exact ⟨by omega, by rw [← hr, hbad (by unfold goodP; rw [decide_eq_false (p := x < y) (by omega), Bool.and_false]; rfl)]⟩
    obtain ⟨nx, rfl⟩ : ∃ nx : Nat, x = nx := ⟨x.toNat, by omega⟩
    obtain ⟨ny, rfl⟩ : ∃ ny : Nat, y = ny := ⟨y.toNat, by omega⟩
    simp +decide (disch := first | assumption | (apply GH.ok_push; assumption) | exact cellV_int _ _ | exact cellV_bool _ | omega) only [go_sem, ↓reduceIte, Nat.reduceEqDiff, Nat.reduceAdd, Int.reduceToNat, he, hg1, hob, hob2, oV_s, f1, f2]
    refine CallD.name fun G hG => ?_
    have hkG' : Kept g G := by rw [hG]; exact hkG
    have hnG' : G.next = g'.next + 1 := by rw [hG]; exact hnG
    have hokG' : G.ok := by rw [hG]; exact hokG
    have hg1' : G.get g'.next = cellsOb [.int .i64 nx, .int .i64 ny] 56 := by rw [hG]; exact hg1
    clear hG hg0 hg1 hkG hnG hokG
    refine CallD.calm (isHat_rets hX L (by omega) (ny : Int) s G (hs.kept hkG')) ?_
    rintro v g1 hx1 rfl
    have hn1 := hx1.next
    have hk1 := hkG'.ext hx1
    have hok1 := hx1.ok hokG'
    have hgt1 := (hx1.gets g'.next (by omega)).trans hg1'
    have e0 : (decide (0 ≤ (ny : Int)) && decide ((ny : Int) < (L.length : Int))) = decide (ny < L.length) := by
      rw [decide_eq_true (by omega), Bool.true_and]
      exact decide_eq_decide.2 (by omega)
    rw [e0]
    by_cases f3 : ny < L.length
    case neg =>
      rw [decide_eq_false f3]
      simp +decide (disch := first | assumption | (apply GH.ok_push; assumption) | exact cellV_int _ _ | exact cellV_bool _ | omega) only [go_sem, ↓reduceIte, Nat.reduceEqDiff, Nat.reduceAdd, Int.reduceToNat, he]
      intro hx0
      exact ⟨by omega, by rw [← hr, hbad (by unfold goodP; rw [decide_eq_false (p := (ny : Int) < L.length) (by omega), Bool.and_false]; rfl)]⟩
    rw [decide_eq_true f3]
    have hxn : nx < L.length := by omega
    obtain ⟨j2, o2, hj2, hq1, hq2⟩ := (hs.kept hk1).ptr (ints_get (D := L) (i := nx) hxn)
    have hq1 := hq1 (nx : Int) rfl
    rw [(hA nx hxn).1] at hq2
    have hh := has_rets hX ((setF L nx : Nat) : Int) ny (by omega)
    rw [bitI_nat] at hh
    have hgd : goodP L la tk nx ny = ((setF L nx).testBit ny && !tk.testBit nx && !tk.testBit ny) := by
      unfold goodP
      rw [decide_eq_true (p := la < (nx : Int)) (by omega), decide_eq_true (p := (nx : Int) < ny) (by omega), decide_eq_true (p := (ny : Int) < L.length) (by omega)]
      rfl
    simp +decide (disch := first | assumption | (apply GH.ok_push; assumption) | exact cellV_int _ _ | exact cellV_bool _ | omega) only [go_sem, ↓reduceIte, Nat.reduceEqDiff, Nat.reduceAdd, Int.reduceToNat, he, hgt1, hob, hob2, oV_s, hq1, hq2]
    refine CallD.calm (hh _) ?_
    rintro v g2 hx2 rfl
    have hn2 := hx2.next
    have hk2 := hk1.ext hx2
    have hok2 := hx2.ok hok1
    have hgt2 := (hx2.gets g'.next (by omega)).trans hgt1
    cases cb : (setF L nx).testBit ny with
    | false =>
      simp +decide (disch := first | assumption | (apply GH.ok_push; assumption) | exact cellV_int _ _ | exact cellV_bool _ | omega) only [go_sem, ↓reduceIte, Nat.reduceEqDiff, Nat.reduceAdd, Int.reduceToNat, he]
      intro hx0
      exact ⟨by omega, by rw [← hr, hbad (by rw [hgd, cb]; rfl)]⟩
    | true =>
    have hta := has_rets hX ((tk : Nat) : Int) nx (by omega)
    have htb := has_rets hX ((tk : Nat) : Int) ny (by omega)
    rw [bitI_nat] at hta htb
    simp +decide (disch := first | assumption | (apply GH.ok_push; assumption) | exact cellV_int _ _ | exact cellV_bool _ | omega) only [go_sem, ↓reduceIte, Nat.reduceEqDiff, Nat.reduceAdd, Int.reduceToNat, he, hgt2, hob, hob2, oV_s]
    refine CallD.calm (hta _) ?_
    rintro v g3 hx3 rfl
    have hn3 := hx3.next
    have hk3 := hk2.ext hx3
    have hok3 := hx3.ok hok2
    have hgt3 := (hx3.gets g'.next (by omega)).trans hgt2
    cases ca : tk.testBit nx with
    | true =>
      simp +decide (disch := first | assumption | (apply GH.ok_push; assumption) | exact cellV_int _ _ | exact cellV_bool _ | omega) only [go_sem, ↓reduceIte, Nat.reduceEqDiff, Nat.reduceAdd, Int.reduceToNat, he]
      intro hx0
      exact ⟨by omega, by rw [← hr, hbad (by rw [hgd, ca, cb]; rfl)]⟩
    | false =>
    simp +decide (disch := first | assumption | (apply GH.ok_push; assumption) | exact cellV_int _ _ | exact cellV_bool _ | omega) only [go_sem, ↓reduceIte, Nat.reduceEqDiff, Nat.reduceAdd, Int.reduceToNat, he, hgt3, hob, hob2, oV_s]
    refine CallD.calm (htb _) ?_
    rintro v g4 hx4 rfl
    have hn4 := hx4.next
    have hk4 := hk3.ext hx4
    have hok4 := hx4.ok hok3
    have hgt4 := (hx4.gets g'.next (by omega)).trans hgt3
    cases cc : tk.testBit ny with
    | true =>
      simp +decide (disch := first | assumption | (apply GH.ok_push; assumption) | exact cellV_int _ _ | exact cellV_bool _ | omega) only [go_sem, ↓reduceIte, Nat.reduceEqDiff, Nat.reduceAdd, Int.reduceToNat, he]
      intro hx0
      exact ⟨by omega, by rw [← hr, hbad (by rw [hgd, ca, cb, cc]; rfl)]⟩
    | false =>
    rw [hgd, ca, cb, cc] at htk
    simp +decide (disch := first | assumption | (apply GH.ok_push; assumption) | exact cellV_int _ _ | exact cellV_bool _ | omega) only [go_sem, ↓reduceIte, Nat.reduceEqDiff, Nat.reduceAdd, Int.reduceToNat, he, hgt4, hob, hob2, oV_s]
    refine CallD.calm (with_rets hX tk nx hv3 (by omega) g4) ?_
    rintro v g5 hx5 rfl
    have hn5 := hx5.next
    have hk5 := hk4.ext hx5
    have hok5 := hx5.ok hok4
    have hgt5 := (hx5.gets g'.next (by omega)).trans hgt4
    have hto : tk ||| 2 ^ nx < 2 ^ 10 := or_lt hv3 (by omega)
    have hj5 : g'.next < g4.next := by omega
    simp +decide (disch := first | assumption | (apply GH.ok_push; assumption) | exact cellV_int _ _ | exact cellV_bool _ | omega) only [go_sem, ↓reduceIte, Nat.reduceEqDiff, Nat.reduceAdd, Int.reduceToNat, he, hgt5, hob, hob2, oV_s]
    refine CallD.calm (with_rets hX (tk ||| 2 ^ nx) ny hto (by omega) g5) ?_
    rintro v g6 hx6 rfl
    have hn6 := hx6.next
    have hk6 := hk5.ext hx6
    have hgt6 := (hx6.gets g'.next (by omega)).trans hgt5
    simp +decide (disch := first | assumption | (apply GH.ok_push; assumption) | exact cellV_int _ _ | exact cellV_bool _ | omega) only [go_sem, ↓reduceIte, Nat.reduceEqDiff, Nat.reduceAdd, Int.reduceToNat, he, hgt6, hob, hob2, oV_s]
    refine ih (m - 1) _ _ _ (by omega) ⟨by omega, hk6, i + 1, by omega, ?_, by rw [htk]; rfl⟩
    rw [htl, htt]
    exact (by simp +decide (disch := first | assumption | (apply GH.ok_push; assumption) | exact cellV_int _ _ | exact cellV_bool _ | omega) only [go_sem, ↓reduceIte, Nat.reduceEqDiff, Nat.reduceAdd, Int.reduceToNat, he]; first | done | exact rfl)
theorem IsMatching_rets {X : Caller} (hX : Xfr X) (L : List Int) (hL : L.length ≤ 40) (s p : Value) (P : List (Int × Int)) (hP : P.length ≤ 1000) (g : GH) (hs : SlR g s (ints L)) (hp : SlQ g p 2 P.length (cellsI P)) :
    Rets Tryd.prog X 22 [s, p] g (fun v g' lo => g.next ≤ lo ∧ v = if shopB L = true then .tuple #[.bool (matI L P), .int .i64 0] else .tuple #[.bool false, eArg]) := by
  refine Rets.run hX.pres p22 (hX.free 22 (by decide) _ _) rfl fun ho => ?_
  simp +decide (disch := first | assumption | exact cellV_int _ _ | exact cellV_bool _ | omega | (simp only [GH.pn, GH.sn] <;> omega) | (with_reducible ((repeat (first | apply GH.ok_push | apply GH.ok_set)); assumption)) | ((try simp only [GH.push_hid, GH.set_hid]); first | assumption | (refine GH.vis ?_ ?_ <;> first | assumption | ((try simp only [GH.pn, GH.sn]) <;> omega)))) only [go_sem, ↓reduceIte, Nat.reduceEqDiff, Nat.reduceAdd, Int.reduceToNat, Int.reduceAdd, Int.reduceNeg, Int.reduceSub, Int.reduceMul, Int.reduceLT, Int.reduceLE, Int.reduceEq, ↓GH.gp_eq, ↓GH.gp_ne, ↓GH.gs_eq, ↓GH.gs_ne, GH.push_next, GH.set_next]
  refine CallD.calm (IsShop_rets hX L hL s g hs) ?_
  rintro v g1 hx1 rfl
  have hn1 := hx1.next
  cases hz : shopB L with
  | false =>
    simp +decide (disch := first | assumption | exact cellV_int _ _ | exact cellV_bool _ | omega | (simp only [GH.pn, GH.sn] <;> omega) | (with_reducible ((repeat (first | apply GH.ok_push | apply GH.ok_set)); assumption)) | ((try simp only [GH.push_hid, GH.set_hid]); first | assumption | (refine GH.vis ?_ ?_ <;> first | assumption | ((try simp only [GH.pn, GH.sn]) <;> omega)))) only [go_sem, ↓reduceIte, Nat.reduceEqDiff, Nat.reduceAdd, Int.reduceToNat, Int.reduceAdd, Int.reduceNeg, Int.reduceSub, Int.reduceMul, Int.reduceLT, Int.reduceLE, Int.reduceEq, ↓GH.gp_eq, ↓GH.gp_ne, ↓GH.gs_eq, ↓GH.gs_ne, GH.push_next, GH.set_next]
    intro hx0
    exact ⟨by omega, rfl⟩
  | true =>
    simp +decide (disch := first | assumption | exact cellV_int _ _ | exact cellV_bool _ | omega | (simp only [GH.pn, GH.sn] <;> omega) | (with_reducible ((repeat (first | apply GH.ok_push | apply GH.ok_set)); assumption)) | ((try simp only [GH.push_hid, GH.set_hid]); first | assumption | (refine GH.vis ?_ ?_ <;> first | assumption | ((try simp only [GH.pn, GH.sn]) <;> omega)))) only [go_sem, ↓reduceIte, Nat.reduceEqDiff, Nat.reduceAdd, Int.reduceToNat, Int.reduceAdd, Int.reduceNeg, Int.reduceSub, Int.reduceMul, Int.reduceLT, Int.reduceLE, Int.reduceEq, ↓GH.gp_eq, ↓GH.gp_ne, ↓GH.gs_eq, ↓GH.gs_ne, GH.push_next, GH.set_next]
    refine CallD.calm (matching_rets hX L hz s p P hP g1 (hs.ext hx1) (hp.kept hx1.kept)) ?_
    rintro v g2 hx2 rfl
    have hn2 := hx2.next
    simp +decide (disch := first | assumption | exact cellV_int _ _ | exact cellV_bool _ | omega | (simp only [GH.pn, GH.sn] <;> omega) | (with_reducible ((repeat (first | apply GH.ok_push | apply GH.ok_set)); assumption)) | ((try simp only [GH.push_hid, GH.set_hid]); first | assumption | (refine GH.vis ?_ ?_ <;> first | assumption | ((try simp only [GH.pn, GH.sn]) <;> omega)))) only [go_sem, ↓reduceIte, Nat.reduceEqDiff, Nat.reduceAdd, Int.reduceToNat, Int.reduceAdd, Int.reduceNeg, Int.reduceSub, Int.reduceMul, Int.reduceLT, Int.reduceLE, Int.reduceEq, ↓GH.gp_eq, ↓GH.gp_ne, ↓GH.gs_eq, ↓GH.gs_ne, GH.push_next, GH.set_next]
    intro hx0
    exact ⟨by omega, rfl⟩
theorem Largest_rets {X : Caller} (hX : Xok X) (L : List Int) (hL : shopB L = true) (s : Value) (g : GH) (hT : HasTab g) (hs : SlR g s (ints L)) :
    Rets Tryd.prog X 19 [s] g (fun v g' lo => g.next ≤ lo ∧ g'.ok ∧ Kept g g' ∧ ∃ o, v = .tuple #[o, .int .i64 0] ∧ OwnQ g' o 2 (lrg (setF L) L.length (allN L.length)).length (cellsP (lrg (setF L) L.length (allN L.length))) 56 g.next) := by
  obtain ⟨hL1, hL10, hA⟩ := shop_ok hL
  have hsh := IsShop_rets hX.toXfr L (by omega) s g hs
  rw [hL] at hsh
  refine Rets.run hX.pres p19 (hX.free 19 (by decide) _ _) rfl fun ho => ?_
  simp +decide (disch := first | assumption | exact cellV_int _ _ | exact cellV_bool _ | omega | (simp only [GH.pn, GH.sn] <;> omega) | (with_reducible ((repeat (first | apply GH.ok_push | apply GH.ok_set)); assumption)) | ((try simp only [GH.push_hid, GH.set_hid]); first | assumption | (refine GH.vis ?_ ?_ <;> first | assumption | ((try simp only [GH.pn, GH.sn]) <;> omega)))) only [go_sem, ↓reduceIte, Nat.reduceEqDiff, Nat.reduceAdd, Int.reduceToNat, Int.reduceAdd, Int.reduceNeg, Int.reduceSub, Int.reduceMul, Int.reduceLT, Int.reduceLE, Int.reduceEq, ↓GH.gp_eq, ↓GH.gp_ne, ↓GH.gs_eq, ↓GH.gs_ne, GH.push_next, GH.set_next]
  refine CallD.calm hsh ?_
  rintro v g1 hx1 rfl
  have hn1 := hx1.next
  simp +decide (disch := first | assumption | exact cellV_int _ _ | exact cellV_bool _ | omega | (simp only [GH.pn, GH.sn] <;> omega) | (with_reducible ((repeat (first | apply GH.ok_push | apply GH.ok_set)); assumption)) | ((try simp only [GH.push_hid, GH.set_hid]); first | assumption | (refine GH.vis ?_ ?_ <;> first | assumption | ((try simp only [GH.pn, GH.sn]) <;> omega)))) only [go_sem, ↓reduceIte, Nat.reduceEqDiff, Nat.reduceAdd, Int.reduceToNat, Int.reduceAdd, Int.reduceNeg, Int.reduceSub, Int.reduceMul, Int.reduceLT, Int.reduceLE, Int.reduceEq, ↓GH.gp_eq, ↓GH.gp_ne, ↓GH.gs_eq, ↓GH.gs_ne, GH.push_next, GH.set_next]
  refine CallD.calm (least_rets hX L hL s g1 (hT.ext hx1) (hs.ext hx1)) ?_
  rintro v g2 hx2 ⟨hok2, hk2, hown2⟩
  have hn2 := hx2.next
  simp +decide (disch := first | assumption | exact cellV_int _ _ | exact cellV_bool _ | omega | (simp only [GH.pn, GH.sn] <;> omega) | (with_reducible ((repeat (first | apply GH.ok_push | apply GH.ok_set)); assumption)) | ((try simp only [GH.push_hid, GH.set_hid]); first | assumption | (refine GH.vis ?_ ?_ <;> first | assumption | ((try simp only [GH.pn, GH.sn]) <;> omega)))) only [go_sem, ↓reduceIte, Nat.reduceEqDiff, Nat.reduceAdd, Int.reduceToNat, Int.reduceAdd, Int.reduceNeg, Int.reduceSub, Int.reduceMul, Int.reduceLT, Int.reduceLE, Int.reduceEq, ↓GH.gp_eq, ↓GH.gp_ne, ↓GH.gs_eq, ↓GH.gs_ne, GH.push_next, GH.set_next]
  intro hx0
  exact ⟨by omega, hok2, hx1.kept.trans hk2, _, rfl, ownQ_low hown2 hn1⟩
end Go.Proofs.YtnpapnpedcbfnaaDoor
