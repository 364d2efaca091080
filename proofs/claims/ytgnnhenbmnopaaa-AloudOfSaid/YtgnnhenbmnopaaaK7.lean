import Derived.Test.YtgnnhenbmnopaaaK5
import Derived.Test.YtgnnhenbmnopaaaKa
import Derived.Test.YtgnnhenbmnopaaaDtM
import Derived.Test.YtgnnhenbmnopaaaDtO
set_option linter.all false
set_option linter.unusedSimpArgs false
set_option linter.unnecessarySimpa false
set_option linter.unusedVariables false
set_option linter.unusedSectionVars false
set_option maxRecDepth 100000
set_option maxHeartbeats 8000000
set_option linter.unusedSimpArgs false
set_option linter.unusedVariables false
namespace Go.Proofs.Ytgnnhenbmnopaaa
open Go.Ds Go.Aw
def daysE (n : Int) : Int := if n < 0 ∨ 40 < n then 2 else 0
theorem daysErr_rets {X : Caller} (hX : Xfr X) (n : Int) (g : GH) : Rets Try.prog X 57 [.int .i64 n] g (fun v g' lo => g.next ≤ lo ∧ v = .int .i64 (daysE n) ∧ g' = g) := by
  refine Rets.run hX.pres p57 (hX.free 57 (by decide) _ _) rfl fun ho => ?_
  by_cases h1 : n < 0
  · simp +decide (disch := first | assumption | (apply GH.ok_push; assumption) | exact cellV_int _ _ | exact cellV_bool _ | omega) only [go_sem, ↓reduceIte, Nat.reduceEqDiff, Nat.reduceAdd, Int.reduceToNat, h1]
    intro hx
    exact ⟨Nat.le_refl _, by simp [daysE, h1], rfl⟩
  · by_cases h2 : n > 40
    · simp +decide (disch := first | assumption | (apply GH.ok_push; assumption) | exact cellV_int _ _ | exact cellV_bool _ | omega) only [go_sem, ↓reduceIte, Nat.reduceEqDiff, Nat.reduceAdd, Int.reduceToNat, h1, h2]
      intro hx
      exact ⟨Nat.le_refl _, by rw [daysE, if_pos (.inr h2)], rfl⟩
    · simp +decide (disch := first | assumption | (apply GH.ok_push; assumption) | exact cellV_int _ _ | exact cellV_bool _ | omega) only [go_sem, ↓reduceIte, Nat.reduceEqDiff, Nat.reduceAdd, Int.reduceToNat, h1, h2]
      intro hx
      exact ⟨Nat.le_refl _, by rw [daysE, if_neg (by omega)], rfl⟩
def strsW (w : List Nat) (n : Nat) : List Value := (List.range n).map fun d => Value.string (Try.txt (wd d w))
theorem strsW_len (w : List Nat) (n : Nat) : (strsW w n).length = n := by simp [strsW]
theorem strsW_succ (w : List Nat) (n : Nat) : strsW w (n + 1) = strsW w n ++ [.string (Try.txt (wd n w))] := by simp [strsW, List.range_succ]
theorem strsW_get (w : List Nat) {n d : Nat} (h : d < n) : (strsW w n)[d]? = some (.string (Try.txt (wd d w))) := by
  simp [strsW, h]
noncomputable def dErr (n : Int) (w : List Nat) : Int := if daysE n = 0 then derr n.toNat w else daysE n
/-- The words of all days lie in a row. -/
def DayV (g : GH) (n : Int) (w : List Nat) (v : Value) : Prop :=
  (dErr n w ≠ 0 ∧ v = .tuple #[.slice none 0 0, .int .i64 (dErr n w)]) ∨ (dErr n w = 0 ∧ daysE n = 0 ∧ ∃ u, v = .tuple #[u, .int .i64 0] ∧ SlR g u (strsW w (n.toNat + 1)))
theorem bslStr (x : Value) (s : ByteArray) : bsl 1 #[x] [(0, .string s)] = some #[.string s] := bsl1 rfl
theorem SlR.lit1 {g : GH} (ho : g.ok) (x : Value) (t : TypeId) : SlR (g.push (cellsOb [x] t)) (.slice (some ⟨g.next, 0, none⟩) 1 1) [x] :=
  .inr ⟨g.next, 0, 1, _, rfl, Nat.lt_succ_self _, (GH.get_push ho _ _).trans (if_pos rfl), .inl rfl, by simp [cellsOb], by simp [cellsOb]⟩
def RowD (g : GH) (u : Value) (w : List Nat) (i : Nat) (base : Nat) : Prop :=
  (i = 0 ∧ ∃ j, u = .slice (some ⟨j, 0, none⟩) 1 1 ∧ j < g.next ∧ g.get j = cellsOb [.string (Try.txt w)] 9) ∨ (i ≠ 0 ∧ Go.Ds.Own g u (strsW w (i + 1)) 9 base)
theorem RowD.read {g : GH} {u : Value} {w : List Nat} {i base : Nat} (h : RowD g u w i base) : SlR g u (strsW w (i + 1)) := by
  rcases h with ⟨rfl, j, rfl, h1, h2⟩ | ⟨_, h⟩
  · exact .inr ⟨j, 0, 1, _, rfl, h1, h2, .inl rfl, by simp [cellsOb, strsW], by simp [cellsOb, strsW]; rfl⟩
  · exact h.read
theorem said_ok {ds : List Nat} (h : Sayable ds) : Try.saidV ds = .tuple #[.string (Try.txt (say ds)), .int .i64 0] := by
  unfold Try.saidV; rw [if_pos h, if_pos h]
theorem said_no {ds : List Nat} (h : ¬ Sayable ds) : Try.saidV ds = .tuple #[.string ⟨#[]⟩, .int .i64 4] := by
  unfold Try.saidV; rw [if_neg h, if_neg h]
theorem diary_rets {X : Caller} (hX : Xok X) (ds : List Nat) (hw : Wd ds) (n : Int) (g : GH) :
    Rets Try.prog X 49 [.string (Try.txt ds), .int .i64 n] g (fun v g' lo => g.next ≤ lo ∧ DayV g' n ds v) := by
  refine Rets.run hX.pres p49 (hX.free 49 (by decide) _ _) rfl fun ho => ?_
  simp +decide (disch := first | assumption | (apply GH.ok_push; assumption) | exact cellV_int _ _ | exact cellV_bool _ | omega) only [go_sem, ↓reduceIte, Nat.reduceEqDiff, Nat.reduceAdd, Int.reduceToNat]
  refine CallD.calm (daysErr_rets hX.toXfr n _) ?_
  rintro v g1 hx1 ⟨rfl, rfl⟩
  by_cases hz : daysE n = 0
  · have hn : 0 ≤ n ∧ n ≤ 40 := by
      unfold daysE at hz
      split at hz
      · cases hz
      · omega
    obtain ⟨k, rfl⟩ : ∃ k : Nat, n = k := ⟨n.toNat, by omega⟩
    simp +decide (disch := first | assumption | exact cellV_int _ _ | exact cellV_bool _ | omega | (simp only [GH.pn, GH.sn] <;> omega) | (with_reducible ((repeat (first | apply GH.ok_push | apply GH.ok_set)); assumption)) | ((try simp only [GH.push_hid, GH.set_hid]); first | assumption | (refine GH.vis ?_ ?_ <;> first | assumption | ((try simp only [GH.pn, GH.sn]) <;> omega)))) only [go_sem, ↓reduceIte, Nat.reduceEqDiff, Nat.reduceAdd, Int.reduceToNat, Int.reduceAdd, Int.reduceNeg, Int.reduceSub, Int.reduceMul, Int.reduceLT, Int.reduceLE, Int.reduceEq, ↓GH.gp_eq, ↓GH.gp_ne, ↓GH.gs_eq, ↓GH.gs_ne, GH.push_next, GH.set_next, hz, bslStr]
    refine Wk.loops (fun m e g' lo => g1.next ≤ lo ∧ Kept g1 g' ∧ ∃ i : Nat, (i ≤ k ∧ m = k - i) ∧ (∀ j, j < i → stepE (wd j ds) = 0) ∧ ∃ o, (ev e (.s 17) = .int .i64 k ∧ ev e (.s 18) = .int .i64 i ∧ ev e (.s 0) = .string (Try.txt (wd i ds)) ∧ ev e (.s 7) = o) ∧ RowD g' o ds i g1.next)
      (fun e g' lo => g1.next ≤ lo ∧ (∀ j, j < k → stepE (wd j ds) = 0) ∧ ∃ o, ev e (.s 7) = o ∧ SlR g' o (strsW ds (k + 1))) (n := k) ?_ ?_ ?_
    · exact ⟨by first | exact Nat.le_refl _ | omega, (Kept.refl g1).push ho _, 0, ⟨Nat.zero_le _, rfl⟩, fun j h => by omega, _, (by simp +decide (disch := first | assumption | (apply GH.ok_push; assumption) | exact cellV_int _ _ | exact cellV_bool _ | omega) only [go_sem, ↓reduceIte, Nat.reduceEqDiff, Nat.reduceAdd, Int.reduceToNat]; first | done | exact rfl), .inl ⟨rfl, g1.next, rfl, Nat.lt_succ_self _, (by simp (disch := first | assumption | exact cellV_int _ _ | exact cellV_bool _ | omega | (simp only [GH.pn, GH.sn] <;> omega) | (with_reducible ((repeat (first | apply GH.ok_push | apply GH.ok_set)); assumption)) | ((try simp only [GH.push_hid, GH.set_hid]); first | assumption | (refine GH.vis ?_ ?_ <;> first | assumption | ((try simp only [GH.pn, GH.sn]) <;> omega)))) only [↓GH.gp_eq, ↓GH.gp_ne, ↓GH.gs_eq, ↓GH.gs_ne, GH.push_next, GH.set_next]; first | done | exact rfl)⟩⟩
    · rintro e g' lo - - ⟨hlo, hs, o, he, h⟩
      simp +decide (disch := first | assumption | (apply GH.ok_push; assumption) | exact cellV_int _ _ | exact cellV_bool _ | omega) only [go_sem, ↓reduceIte, Nat.reduceEqDiff, Nat.reduceAdd, Int.reduceToNat, he]
      intro hx
      have hd0 : dErr k ds = 0 := by unfold dErr; rw [if_pos hz]; exact derr_zero.2 (by simpa using hs)
      exact ⟨hlo, .inr ⟨hd0, hz, o, rfl, by simpa using h⟩⟩
    · rintro m e g' lo ho' hl' ih out ⟨hlo, hk, i, ⟨hi, hm⟩, hs, o, he, hrow⟩
      have hkn := hk.next
      by_cases c : i < k
      · have hdg := wd_dig hw.dig hs
        have hln := wd_len hw.len hs
        simp +decide (disch := first | assumption | exact cellV_int _ _ | exact cellV_bool _ | omega | (simp only [GH.pn, GH.sn] <;> omega) | (with_reducible ((repeat (first | apply GH.ok_push | apply GH.ok_set)); assumption)) | ((try simp only [GH.push_hid, GH.set_hid]); first | assumption | (refine GH.vis ?_ ?_ <;> first | assumption | ((try simp only [GH.pn, GH.sn]) <;> omega)))) only [go_sem, ↓reduceIte, Nat.reduceEqDiff, Nat.reduceAdd, Int.reduceToNat, Int.reduceAdd, Int.reduceNeg, Int.reduceSub, Int.reduceMul, Int.reduceLT, Int.reduceLE, Int.reduceEq, ↓GH.gp_eq, ↓GH.gp_ne, ↓GH.gs_eq, ↓GH.gs_ne, GH.push_next, GH.set_next, he, c]
        refine CallD.calm (hX.said (wd i ds) hdg (by omega) _) ?_
        rintro v g2 hx2 ⟨rfl, rfl⟩
        by_cases cs : Sayable (wd i ds)
        · rw [said_ok cs]
          have hsz := Try.txt_size (say (wd i ds))
          by_cases cl : (say (wd i ds)).length ≤ 100000
          · have cl' : ¬ (((say (wd i ds)).length : Int) > 100000) := by omega
            simp +decide (disch := first | assumption | exact cellV_int _ _ | exact cellV_bool _ | omega | (simp only [GH.pn, GH.sn] <;> omega) | (with_reducible ((repeat (first | apply GH.ok_push | apply GH.ok_set)); assumption)) | ((try simp only [GH.push_hid, GH.set_hid]); first | assumption | (refine GH.vis ?_ ?_ <;> first | assumption | ((try simp only [GH.pn, GH.sn]) <;> omega)))) only [go_sem, ↓reduceIte, Nat.reduceEqDiff, Nat.reduceAdd, Int.reduceToNat, Int.reduceAdd, Int.reduceNeg, Int.reduceSub, Int.reduceMul, Int.reduceLT, Int.reduceLE, Int.reduceEq, ↓GH.gp_eq, ↓GH.gp_ne, ↓GH.gs_eq, ↓GH.gs_ne, GH.push_next, GH.set_next, he, hsz, cl, cl', bslStr]
            have hst : stepE (wd i ds) = 0 := stepE_zero.2 ⟨cs, cl⟩
            have hs1 : ∀ j, j < i + 1 → stepE (wd j ds) = 0 := fun j hj => by
              rcases Nat.lt_or_ge j i with z | z
              · exact hs j z
              · obtain rfl : j = i := by omega
                exact hst
            have hnew := SlR.lit1 ho' (.string (Try.txt (say (wd i ds)))) 9
            have hk2 := hk.push ho' (cellsOb [.string (Try.txt (say (wd i ds)))] 9)
            have hws : say (wd i ds) = wd (i + 1) ds := (wd_succ i ds).symm
            rcases hrow with ⟨h0, j, rfl, hj1, hj2⟩ | ⟨h0, hown⟩
            · subst h0
              refine AppD.full (vs := [.string (Try.txt ds)]) (cells := [.string (Try.txt ds)]) (t' := 9) (base := g1.next) (by rw [GH.gp_ne ho' (by omega)]; exact hj2) rfl (Nat.le_refl _) hnew (by simp) (by simp) (by simp only [GH.push_next]; omega) hlo (GH.ok_push ho') fun s' g8 sp wr hgr hkp => ?_
              simp +decide (disch := first | assumption | (apply GH.ok_push; assumption) | exact cellV_int _ _ | exact cellV_bool _ | omega) only [go_sem, ↓reduceIte, Nat.reduceEqDiff, Nat.reduceAdd, Int.reduceToNat, he]
              refine ih (m - 1) _ _ _ (by omega) ⟨hlo, hk2.trans hkp, 0 + 1, ⟨by omega, by omega⟩, hs1, s', (by simp +decide (disch := first | assumption | (apply GH.ok_push; assumption) | exact cellV_int _ _ | exact cellV_bool _ | omega) only [go_sem, ↓reduceIte, Nat.reduceEqDiff, Nat.reduceAdd, Int.reduceToNat, he, hws]; first | done | exact rfl), .inr ⟨by omega, ?_⟩⟩
              have e1 : strsW ds (0 + 1 + 1) = [.string (Try.txt ds)] ++ [.string (Try.txt (say (wd 0 ds)))] := by rw [strsW_succ, hws]; rfl
              rw [e1]
              exact hgr.own
            · refine AppD.own2 (lw := g1.next) (hown.kept ((Kept.refl g2).push ho' _)) hnew (by simp) rfl (by rw [strsW_len]; simp; omega) (by simp only [GH.push_next]; omega) hlo (Nat.le_refl _) (GH.ok_push ho') fun s' g8 lo8 sp wr hgr hlo8 => ?_
              have hk8 : Kept g1 g8 := hk2.grew2 hgr (Nat.le_refl _)
              simp +decide (disch := first | assumption | (apply GH.ok_push; assumption) | exact cellV_int _ _ | exact cellV_bool _ | omega) only [go_sem, ↓reduceIte, Nat.reduceEqDiff, Nat.reduceAdd, Int.reduceToNat, he]
              refine ih (m - 1) _ _ _ (by omega) ⟨hlo8, hk8, i + 1, ⟨by omega, by omega⟩, hs1, s', (by simp +decide (disch := first | assumption | (apply GH.ok_push; assumption) | exact cellV_int _ _ | exact cellV_bool _ | omega) only [go_sem, ↓reduceIte, Nat.reduceEqDiff, Nat.reduceAdd, Int.reduceToNat, he, hws]; first | done | exact rfl), .inr ⟨by omega, ?_⟩⟩
              rw [strsW_succ, ← hws]
              exact hgr.own
          · have cl' : (((say (wd i ds)).length : Int) > 100000) := by omega
            simp +decide (disch := first | assumption | exact cellV_int _ _ | exact cellV_bool _ | omega | (simp only [GH.pn, GH.sn] <;> omega) | (with_reducible ((repeat (first | apply GH.ok_push | apply GH.ok_set)); assumption)) | ((try simp only [GH.push_hid, GH.set_hid]); first | assumption | (refine GH.vis ?_ ?_ <;> first | assumption | ((try simp only [GH.pn, GH.sn]) <;> omega)))) only [go_sem, ↓reduceIte, Nat.reduceEqDiff, Nat.reduceAdd, Int.reduceToNat, Int.reduceAdd, Int.reduceNeg, Int.reduceSub, Int.reduceMul, Int.reduceLT, Int.reduceLE, Int.reduceEq, ↓GH.gp_eq, ↓GH.gp_ne, ↓GH.gs_eq, ↓GH.gs_ne, GH.push_next, GH.set_next, he, hsz, cl, cl']
            intro hx
            have he8 : stepE (wd i ds) = 8 := by unfold stepE; rw [if_neg (fun z => z cs), if_pos (by omega)]
            have hd0 : dErr k ds = 8 := by unfold dErr; rw [if_pos hz]; exact (derr_at (by simpa using c) hs (by rw [he8]; decide)).trans he8
            exact ⟨hlo, .inl ⟨by rw [hd0]; decide, by rw [hd0]⟩⟩
        · rw [said_no cs]
          simp +decide (disch := first | assumption | exact cellV_int _ _ | exact cellV_bool _ | omega | (simp only [GH.pn, GH.sn] <;> omega) | (with_reducible ((repeat (first | apply GH.ok_push | apply GH.ok_set)); assumption)) | ((try simp only [GH.push_hid, GH.set_hid]); first | assumption | (refine GH.vis ?_ ?_ <;> first | assumption | ((try simp only [GH.pn, GH.sn]) <;> omega)))) only [go_sem, ↓reduceIte, Nat.reduceEqDiff, Nat.reduceAdd, Int.reduceToNat, Int.reduceAdd, Int.reduceNeg, Int.reduceSub, Int.reduceMul, Int.reduceLT, Int.reduceLE, Int.reduceEq, ↓GH.gp_eq, ↓GH.gp_ne, ↓GH.gs_eq, ↓GH.gs_ne, GH.push_next, GH.set_next, he]
          intro hx
          have he4 : stepE (wd i ds) = 4 := by unfold stepE; rw [if_pos cs]
          have hd0 : dErr k ds = 4 := by unfold dErr; rw [if_pos hz]; exact (derr_at (by simpa using c) hs (by rw [he4]; decide)).trans he4
          exact ⟨hlo, .inl ⟨by rw [hd0]; decide, by rw [hd0]⟩⟩
      · have hie : i = k := by omega
        subst hie
        simp +decide (disch := first | assumption | exact cellV_int _ _ | exact cellV_bool _ | omega | (simp only [GH.pn, GH.sn] <;> omega) | (with_reducible ((repeat (first | apply GH.ok_push | apply GH.ok_set)); assumption)) | ((try simp only [GH.push_hid, GH.set_hid]); first | assumption | (refine GH.vis ?_ ?_ <;> first | assumption | ((try simp only [GH.pn, GH.sn]) <;> omega)))) only [go_sem, ↓reduceIte, Nat.reduceEqDiff, Nat.reduceAdd, Int.reduceToNat, Int.reduceAdd, Int.reduceNeg, Int.reduceSub, Int.reduceMul, Int.reduceLT, Int.reduceLE, Int.reduceEq, ↓GH.gp_eq, ↓GH.gp_ne, ↓GH.gs_eq, ↓GH.gs_ne, GH.push_next, GH.set_next, he]
        exact out _ _ _ ⟨hlo, hs, o, (by simp +decide (disch := first | assumption | (apply GH.ok_push; assumption) | exact cellV_int _ _ | exact cellV_bool _ | omega) only [go_sem, ↓reduceIte, Nat.reduceEqDiff, Nat.reduceAdd, Int.reduceToNat, he]; first | done | exact rfl), hrow.read⟩
  · have hz' : ¬ (daysE n = 0) := hz
    simp +decide (disch := first | assumption | (apply GH.ok_push; assumption) | exact cellV_int _ _ | exact cellV_bool _ | omega) only [go_sem, ↓reduceIte, Nat.reduceEqDiff, Nat.reduceAdd, Int.reduceToNat, hz']
    intro hx
    have hd0 : dErr n ds = daysE n := by unfold dErr; rw [if_neg hz]
    exact ⟨by first | exact Nat.le_refl _ | omega, .inl ⟨by rw [hd0]; exact hz, by rw [hd0]⟩⟩
end Go.Proofs.Ytgnnhenbmnopaaa
set_option maxRecDepth 100000
set_option maxHeartbeats 8000000
set_option linter.unusedSimpArgs false
set_option linter.unusedVariables false
namespace Go.Proofs.Ytgnnhenbmnopaaa
open Go.Ds Go.Aw
noncomputable def aErr (n : Int) (s : ByteArray) : Int := if werr s = 0 then dErr n (digs s) else werr s
def AllV (g : GH) (n : Int) (s : ByteArray) (v : Value) : Prop :=
  (aErr n s ≠ 0 ∧ v = .tuple #[.slice none 0 0, .int .i64 (aErr n s)]) ∨ (aErr n s = 0 ∧ werr s = 0 ∧ daysE n = 0 ∧ ∃ u, v = .tuple #[u, .int .i64 0] ∧ SlR g u (strsW (digs s) (n.toNat + 1)))
theorem aErr_word {n : Int} {ds : List Nat} (h : Wd ds) : aErr n (Try.txt ds) = dErr n ds := by unfold aErr; rw [if_pos h.werr, digs_txt h.dig]
theorem aErr_err {n : Int} {s : ByteArray} (h : werr s ≠ 0) : aErr n s = werr s := if_neg h
theorem rsaid_ok {ds : List Nat} (h : Sayable ds) : rsaidV ds = .tuple #[.string (Try.txt (say ds)), .bool true] := by
  unfold rsaidV; rw [if_pos h, decide_eq_true h]
theorem rsaid_no {ds : List Nat} (h : ¬ Sayable ds) : rsaidV ds = .tuple #[.string ⟨#[]⟩, .bool false] := by
  unfold rsaidV; rw [if_neg h, decide_eq_false h]
theorem RowD.kept {g g' : GH} {u : Value} {w : List Nat} {i base : Nat} (h : RowD g u w i base) (k : Kept g g') : RowD g' u w i base := by
  rcases h with ⟨h0, j, h1, h2, h3⟩ | ⟨h0, h1⟩
  · exact .inl ⟨h0, j, h1, Nat.lt_of_lt_of_le h2 k.next, (k.gets j h2).trans h3⟩
  · exact .inr ⟨h0, h1.kept k⟩
theorem refAll_rets {X : Caller} (hX : Xfr X) (s : ByteArray) (n : Int) (g : GH) :
    Rets Try.prog X 50 [.string s, .int .i64 n] g (fun v g' lo => g.next ≤ lo ∧ AllV g' n s v) := by
  refine Rets.run hX.pres p50 (hX.free 50 (by decide) _ _) rfl fun ho => ?_
  simp +decide (disch := first | assumption | (apply GH.ok_push; assumption) | exact cellV_int _ _ | exact cellV_bool _ | omega) only [go_sem, ↓reduceIte, Nat.reduceEqDiff, Nat.reduceAdd, Int.reduceToNat]
  refine CallD.calm (refWord_rets hX s _) ?_
  rintro v g1 hx1 ⟨rfl, rfl⟩
  by_cases hz : werr s = 0
  · obtain ⟨ds, hw, rfl⟩ := werr_word hz
    have hae := aErr_word (n := n) hw
    by_cases hn1 : n < 0
    · simp +decide (disch := first | assumption | (apply GH.ok_push; assumption) | exact cellV_int _ _ | exact cellV_bool _ | omega) only [go_sem, ↓reduceIte, Nat.reduceEqDiff, Nat.reduceAdd, Int.reduceToNat, hz, hn1]
      intro hx
      have hd : dErr n ds = 2 := by
        have e : daysE n = 2 := by unfold daysE; rw [if_pos (.inl hn1)]
        unfold dErr; rw [e, if_neg (by decide)]
      exact ⟨by first | exact Nat.le_refl _ | omega, .inl ⟨by rw [hae, hd]; decide, by rw [hae, hd]⟩⟩
    · by_cases hn2 : n > 40
      · simp +decide (disch := first | assumption | (apply GH.ok_push; assumption) | exact cellV_int _ _ | exact cellV_bool _ | omega) only [go_sem, ↓reduceIte, Nat.reduceEqDiff, Nat.reduceAdd, Int.reduceToNat, hz, hn1, hn2]
        intro hx
        have hd : dErr n ds = 2 := by
          have e : daysE n = 2 := by unfold daysE; rw [if_pos (.inr hn2)]
          unfold dErr; rw [e, if_neg (by decide)]
        exact ⟨by first | exact Nat.le_refl _ | omega, .inl ⟨by rw [hae, hd]; decide, by rw [hae, hd]⟩⟩
      · have hz2 : daysE n = 0 := by unfold daysE; rw [if_neg (by omega)]
        obtain ⟨k, rfl⟩ : ∃ k : Nat, n = k := ⟨n.toNat, by omega⟩
        have hk40 : k ≤ 40 := by omega
        simp +decide (disch := first | assumption | exact cellV_int _ _ | exact cellV_bool _ | omega | (simp only [GH.pn, GH.sn] <;> omega) | (with_reducible ((repeat (first | apply GH.ok_push | apply GH.ok_set)); assumption)) | ((try simp only [GH.push_hid, GH.set_hid]); first | assumption | (refine GH.vis ?_ ?_ <;> first | assumption | ((try simp only [GH.pn, GH.sn]) <;> omega)))) only [go_sem, ↓reduceIte, Nat.reduceEqDiff, Nat.reduceAdd, Int.reduceToNat, Int.reduceAdd, Int.reduceNeg, Int.reduceSub, Int.reduceMul, Int.reduceLT, Int.reduceLE, Int.reduceEq, ↓GH.gp_eq, ↓GH.gp_ne, ↓GH.gs_eq, ↓GH.gs_ne, GH.push_next, GH.set_next, hz, hn1, hn2, bslStr]
        refine Wk.loops (fun m e g' lo => g1.next ≤ lo ∧ Kept g1 g' ∧ ∃ i : Nat, (i ≤ k ∧ m = k - i) ∧ (∀ j, j < i → stepE (wd j ds) = 0) ∧ ∃ o, (ev e (.s 1) = .int .i64 k ∧ ev e (.s 8) = .int .i64 i ∧ ev e (.s 7) = o) ∧ RowD g' o ds i g1.next)
          (fun e g' lo => g1.next ≤ lo ∧ (∀ j, j < k → stepE (wd j ds) = 0) ∧ ∃ o, ev e (.s 7) = o ∧ SlR g' o (strsW ds (k + 1))) (n := k) ?_ ?_ ?_
        · exact ⟨by first | exact Nat.le_refl _ | omega, (Kept.refl g1).push ho _, 0, ⟨Nat.zero_le _, rfl⟩, fun j h => by omega, _, (by simp +decide (disch := first | assumption | (apply GH.ok_push; assumption) | exact cellV_int _ _ | exact cellV_bool _ | omega) only [go_sem, ↓reduceIte, Nat.reduceEqDiff, Nat.reduceAdd, Int.reduceToNat]; first | done | exact rfl), .inl ⟨rfl, g1.next, rfl, Nat.lt_succ_self _, (by simp (disch := first | assumption | exact cellV_int _ _ | exact cellV_bool _ | omega | (simp only [GH.pn, GH.sn] <;> omega) | (with_reducible ((repeat (first | apply GH.ok_push | apply GH.ok_set)); assumption)) | ((try simp only [GH.push_hid, GH.set_hid]); first | assumption | (refine GH.vis ?_ ?_ <;> first | assumption | ((try simp only [GH.pn, GH.sn]) <;> omega)))) only [↓GH.gp_eq, ↓GH.gp_ne, ↓GH.gs_eq, ↓GH.gs_ne, GH.push_next, GH.set_next]; first | done | exact rfl)⟩⟩
        · rintro e g' lo - - ⟨hlo, hs, o, he, h⟩
          simp +decide (disch := first | assumption | (apply GH.ok_push; assumption) | exact cellV_int _ _ | exact cellV_bool _ | omega) only [go_sem, ↓reduceIte, Nat.reduceEqDiff, Nat.reduceAdd, Int.reduceToNat, he]
          intro hx
          have hd0 : dErr k ds = 0 := by unfold dErr; rw [if_pos hz2]; exact derr_zero.2 (by simpa using hs)
          exact ⟨hlo, .inr ⟨by rw [hae]; exact hd0, hw.werr, hz2, o, rfl, by rw [digs_txt hw.dig]; simpa using h⟩⟩
        · rintro m e g' lo ho' hl' ih out ⟨hlo, hk, i, ⟨hi, hm⟩, hs, o, he, hrow⟩
          have hkn := hk.next
          by_cases c : i < k
          · have hdg := wd_dig hw.dig hs
            have hln := wd_len hw.len hs
            obtain ⟨j, a, hj, hp1, hp2⟩ := hrow.read.ptr (strsW_get ds (show i < i + 1 by omega))
            have hp1 := hp1 (i : Int) rfl
            simp +decide (disch := first | assumption | exact cellV_int _ _ | exact cellV_bool _ | omega | (simp only [GH.pn, GH.sn] <;> omega) | (with_reducible ((repeat (first | apply GH.ok_push | apply GH.ok_set)); assumption)) | ((try simp only [GH.push_hid, GH.set_hid]); first | assumption | (refine GH.vis ?_ ?_ <;> first | assumption | ((try simp only [GH.pn, GH.sn]) <;> omega)))) only [go_sem, ↓reduceIte, Nat.reduceEqDiff, Nat.reduceAdd, Int.reduceToNat, Int.reduceAdd, Int.reduceNeg, Int.reduceSub, Int.reduceMul, Int.reduceLT, Int.reduceLE, Int.reduceEq, ↓GH.gp_eq, ↓GH.gp_ne, ↓GH.gs_eq, ↓GH.gs_ne, GH.push_next, GH.set_next, he, c, hp1, hp2]
            refine CallD.calm (refSaid_rets hX (wd i ds) hdg (by omega) _) ?_
            rintro v g2 hx2 rfl
            have hn2 := hx2.next
            have ho2 := hx2.ok ho'
            have hrow2 := hrow.kept hx2.kept
            have hkk := hk.trans hx2.kept
            by_cases cs : Sayable (wd i ds)
            · rw [rsaid_ok cs]
              have hsz := Try.txt_size (say (wd i ds))
              by_cases cl : (say (wd i ds)).length ≤ 100000
              · have cl' : ¬ (((say (wd i ds)).length : Int) > 100000) := by omega
                simp +decide (disch := first | assumption | exact cellV_int _ _ | exact cellV_bool _ | omega | (simp only [GH.pn, GH.sn] <;> omega) | (with_reducible ((repeat (first | apply GH.ok_push | apply GH.ok_set)); assumption)) | ((try simp only [GH.push_hid, GH.set_hid]); first | assumption | (refine GH.vis ?_ ?_ <;> first | assumption | ((try simp only [GH.pn, GH.sn]) <;> omega)))) only [go_sem, ↓reduceIte, Nat.reduceEqDiff, Nat.reduceAdd, Int.reduceToNat, Int.reduceAdd, Int.reduceNeg, Int.reduceSub, Int.reduceMul, Int.reduceLT, Int.reduceLE, Int.reduceEq, ↓GH.gp_eq, ↓GH.gp_ne, ↓GH.gs_eq, ↓GH.gs_ne, GH.push_next, GH.set_next, he, hsz, cl, cl', bslStr]
                have hst : stepE (wd i ds) = 0 := stepE_zero.2 ⟨cs, cl⟩
                have hs1 : ∀ j, j < i + 1 → stepE (wd j ds) = 0 := fun j hj => by
                  rcases Nat.lt_or_ge j i with z | z
                  · exact hs j z
                  · obtain rfl : j = i := by omega
                    exact hst
                have hnew := SlR.lit1 ho2 (.string (Try.txt (say (wd i ds)))) 9
                have hk2 := hkk.push ho2 (cellsOb [.string (Try.txt (say (wd i ds)))] 9)
                have hws : say (wd i ds) = wd (i + 1) ds := (wd_succ i ds).symm
                rcases hrow2 with ⟨h0, j, rfl, hj1, hj2⟩ | ⟨h0, hown⟩
                · subst h0
                  refine AppD.full (vs := [.string (Try.txt ds)]) (cells := [.string (Try.txt ds)]) (t' := 9) (base := g1.next) (by rw [GH.gp_ne ho2 (by omega)]; exact hj2) rfl (Nat.le_refl _) hnew (by simp) (by simp) (by simp only [GH.push_next]; omega) hlo (GH.ok_push ho2) fun s' g8 sp wr hgr hkp => ?_
                  simp +decide (disch := first | assumption | (apply GH.ok_push; assumption) | exact cellV_int _ _ | exact cellV_bool _ | omega) only [go_sem, ↓reduceIte, Nat.reduceEqDiff, Nat.reduceAdd, Int.reduceToNat, he]
                  refine ih (m - 1) _ _ _ (by omega) ⟨hlo, hk2.trans hkp, 0 + 1, ⟨by omega, by omega⟩, hs1, s', (by simp +decide (disch := first | assumption | (apply GH.ok_push; assumption) | exact cellV_int _ _ | exact cellV_bool _ | omega) only [go_sem, ↓reduceIte, Nat.reduceEqDiff, Nat.reduceAdd, Int.reduceToNat, he, hws]; first | done | exact rfl), .inr ⟨by omega, ?_⟩⟩
                  have e1 : strsW ds (0 + 1 + 1) = [.string (Try.txt ds)] ++ [.string (Try.txt (say (wd 0 ds)))] := by rw [strsW_succ, hws]; rfl
                  rw [e1]
                  exact hgr.own
                · refine AppD.own2 (lw := g1.next) (hown.kept ((Kept.refl g2).push ho2 _)) hnew (by simp) rfl (by rw [strsW_len]; simp; omega) (by simp only [GH.push_next]; omega) hlo (Nat.le_refl _) (GH.ok_push ho2) fun s' g8 lo8 sp wr hgr hlo8 => ?_
                  have hk8 : Kept g1 g8 := hk2.grew2 hgr (Nat.le_refl _)
                  simp +decide (disch := first | assumption | (apply GH.ok_push; assumption) | exact cellV_int _ _ | exact cellV_bool _ | omega) only [go_sem, ↓reduceIte, Nat.reduceEqDiff, Nat.reduceAdd, Int.reduceToNat, he]
                  refine ih (m - 1) _ _ _ (by omega) ⟨hlo8, hk8, i + 1, ⟨by omega, by omega⟩, hs1, s', (by simp +decide (disch := first | assumption | (apply GH.ok_push; assumption) | exact cellV_int _ _ | exact cellV_bool _ | omega) only [go_sem, ↓reduceIte, Nat.reduceEqDiff, Nat.reduceAdd, Int.reduceToNat, he, hws]; first | done | exact rfl), .inr ⟨by omega, ?_⟩⟩
                  rw [strsW_succ, ← hws]
                  exact hgr.own
              · have cl' : (((say (wd i ds)).length : Int) > 100000) := by omega
                simp +decide (disch := first | assumption | exact cellV_int _ _ | exact cellV_bool _ | omega | (simp only [GH.pn, GH.sn] <;> omega) | (with_reducible ((repeat (first | apply GH.ok_push | apply GH.ok_set)); assumption)) | ((try simp only [GH.push_hid, GH.set_hid]); first | assumption | (refine GH.vis ?_ ?_ <;> first | assumption | ((try simp only [GH.pn, GH.sn]) <;> omega)))) only [go_sem, ↓reduceIte, Nat.reduceEqDiff, Nat.reduceAdd, Int.reduceToNat, Int.reduceAdd, Int.reduceNeg, Int.reduceSub, Int.reduceMul, Int.reduceLT, Int.reduceLE, Int.reduceEq, ↓GH.gp_eq, ↓GH.gp_ne, ↓GH.gs_eq, ↓GH.gs_ne, GH.push_next, GH.set_next, he, hsz, cl, cl']
                intro hx
                have he8 : stepE (wd i ds) = 8 := by unfold stepE; rw [if_neg (fun z => z cs), if_pos (by omega)]
                have hd0 : dErr k ds = 8 := by unfold dErr; rw [if_pos hz2]; exact (derr_at (by simpa using c) hs (by rw [he8]; decide)).trans he8
                exact ⟨hlo, .inl ⟨by rw [hae, hd0]; decide, by rw [hae, hd0]⟩⟩
            · rw [rsaid_no cs]
              simp +decide (disch := first | assumption | exact cellV_int _ _ | exact cellV_bool _ | omega | (simp only [GH.pn, GH.sn] <;> omega) | (with_reducible ((repeat (first | apply GH.ok_push | apply GH.ok_set)); assumption)) | ((try simp only [GH.push_hid, GH.set_hid]); first | assumption | (refine GH.vis ?_ ?_ <;> first | assumption | ((try simp only [GH.pn, GH.sn]) <;> omega)))) only [go_sem, ↓reduceIte, Nat.reduceEqDiff, Nat.reduceAdd, Int.reduceToNat, Int.reduceAdd, Int.reduceNeg, Int.reduceSub, Int.reduceMul, Int.reduceLT, Int.reduceLE, Int.reduceEq, ↓GH.gp_eq, ↓GH.gp_ne, ↓GH.gs_eq, ↓GH.gs_ne, GH.push_next, GH.set_next, he]
              intro hx
              have he4 : stepE (wd i ds) = 4 := by unfold stepE; rw [if_pos cs]
              have hd0 : dErr k ds = 4 := by unfold dErr; rw [if_pos hz2]; exact (derr_at (by simpa using c) hs (by rw [he4]; decide)).trans he4
              exact ⟨hlo, .inl ⟨by rw [hae, hd0]; decide, by rw [hae, hd0]⟩⟩
          · have hie : i = k := by omega
            subst hie
            simp +decide (disch := first | assumption | exact cellV_int _ _ | exact cellV_bool _ | omega | (simp only [GH.pn, GH.sn] <;> omega) | (with_reducible ((repeat (first | apply GH.ok_push | apply GH.ok_set)); assumption)) | ((try simp only [GH.push_hid, GH.set_hid]); first | assumption | (refine GH.vis ?_ ?_ <;> first | assumption | ((try simp only [GH.pn, GH.sn]) <;> omega)))) only [go_sem, ↓reduceIte, Nat.reduceEqDiff, Nat.reduceAdd, Int.reduceToNat, Int.reduceAdd, Int.reduceNeg, Int.reduceSub, Int.reduceMul, Int.reduceLT, Int.reduceLE, Int.reduceEq, ↓GH.gp_eq, ↓GH.gp_ne, ↓GH.gs_eq, ↓GH.gs_ne, GH.push_next, GH.set_next, he]
            exact out _ _ _ ⟨hlo, hs, o, (by simp +decide (disch := first | assumption | (apply GH.ok_push; assumption) | exact cellV_int _ _ | exact cellV_bool _ | omega) only [go_sem, ↓reduceIte, Nat.reduceEqDiff, Nat.reduceAdd, Int.reduceToNat, he]; first | done | exact rfl), hrow.read⟩
  · have hz' : ¬ (werr s = 0) := hz
    simp +decide (disch := first | assumption | (apply GH.ok_push; assumption) | exact cellV_int _ _ | exact cellV_bool _ | omega) only [go_sem, ↓reduceIte, Nat.reduceEqDiff, Nat.reduceAdd, Int.reduceToNat, hz']
    intro hx
    exact ⟨by first | exact Nat.le_refl _ | omega, .inl ⟨by rw [aErr_err hz]; exact hz, by rw [aErr_err hz]⟩⟩
noncomputable def daysV (n : Int) (s : ByteArray) : Value := if aErr n s = 0 then .tuple #[.string (Try.txt (wd n.toNat (digs s))), .int .i64 0] else .tuple #[.string ⟨#[]⟩, .int .i64 (aErr n s)]
theorem daysE_of {n : Int} (h : daysE n = 0) : 0 ≤ n ∧ n ≤ 40 := by
  unfold daysE at h
  split at h
  · cases h
  · omega
theorem days_rets {X : Caller} (hX : Xok X) (s : ByteArray) (n : Int) (g : GH) :
    Rets Try.prog X 33 [.string s, .int .i64 n] g (fun v g' lo => g.next ≤ lo ∧ v = daysV n s) := by
  refine Rets.run hX.pres p33 (hX.free 33 (by decide) _ _) rfl fun ho => ?_
  simp +decide (disch := first | assumption | (apply GH.ok_push; assumption) | exact cellV_int _ _ | exact cellV_bool _ | omega) only [go_sem, ↓reduceIte, Nat.reduceEqDiff, Nat.reduceAdd, Int.reduceToNat]
  refine CallD.calm (wordErr_rets hX.toXfr s _) ?_
  rintro v g1 hx1 rfl
  have hn1 := hx1.next
  by_cases hz : werr s = 0
  · obtain ⟨ds, hw, rfl⟩ := werr_word hz
    have hae := aErr_word (n := n) hw
    simp +decide (disch := first | assumption | (apply GH.ok_push; assumption) | exact cellV_int _ _ | exact cellV_bool _ | omega) only [go_sem, ↓reduceIte, Nat.reduceEqDiff, Nat.reduceAdd, Int.reduceToNat, hz]
    refine CallD.calm (diary_rets hX ds hw n _) ?_
    rintro v g2 hx2 (⟨hd, rfl⟩ | ⟨hd, hd2, u, rfl, hu⟩)
    · have hn2 := hx2.next
      have hd' : ¬ (dErr n ds = 0) := hd
      simp +decide (disch := first | assumption | (apply GH.ok_push; assumption) | exact cellV_int _ _ | exact cellV_bool _ | omega) only [go_sem, ↓reduceIte, Nat.reduceEqDiff, Nat.reduceAdd, Int.reduceToNat, hd']
      intro hx
      refine ⟨by first | exact Nat.le_refl _ | omega, ?_⟩
      unfold daysV
      rw [hae, if_neg hd]
    · have hn2 := hx2.next
      have hn := daysE_of hd2
      obtain ⟨j, a, hj, hp1, hp2⟩ := hu.ptr (strsW_get ds (show n.toNat < n.toNat + 1 by omega))
      have hp1 := hp1 n (by omega)
      simp +decide (disch := first | assumption | (apply GH.ok_push; assumption) | exact cellV_int _ _ | exact cellV_bool _ | omega) only [go_sem, ↓reduceIte, Nat.reduceEqDiff, Nat.reduceAdd, Int.reduceToNat, hp1, hp2]
      intro hx
      refine ⟨by first | exact Nat.le_refl _ | omega, ?_⟩
      unfold daysV
      rw [hae, if_pos hd, digs_txt hw.dig]
  · have hz' : ¬ (werr s = 0) := hz
    simp +decide (disch := first | assumption | (apply GH.ok_push; assumption) | exact cellV_int _ _ | exact cellV_bool _ | omega) only [go_sem, ↓reduceIte, Nat.reduceEqDiff, Nat.reduceAdd, Int.reduceToNat, hz']
    intro hx
    refine ⟨by first | exact Nat.le_refl _ | omega, ?_⟩
    unfold daysV
    rw [aErr_err hz, if_neg hz]
theorem refDays_rets {X : Caller} (hX : Xok X) (s : ByteArray) (n : Int) (g : GH) :
    Rets Try.prog X 34 [.string s, .int .i64 n] g (fun v g' lo => g.next ≤ lo ∧ v = daysV n s) := by
  refine Rets.run hX.pres p34 (hX.free 34 (by decide) _ _) rfl fun ho => ?_
  simp +decide (disch := first | assumption | (apply GH.ok_push; assumption) | exact cellV_int _ _ | exact cellV_bool _ | omega) only [go_sem, ↓reduceIte, Nat.reduceEqDiff, Nat.reduceAdd, Int.reduceToNat]
  refine CallD.calm (refAll_rets hX.toXfr s n _) ?_
  rintro v g2 hx2 (⟨hd, rfl⟩ | ⟨hd, hz, hd2, u, rfl, hu⟩)
  · have hn2 := hx2.next
    have hd' : ¬ (aErr n s = 0) := hd
    simp +decide (disch := first | assumption | (apply GH.ok_push; assumption) | exact cellV_int _ _ | exact cellV_bool _ | omega) only [go_sem, ↓reduceIte, Nat.reduceEqDiff, Nat.reduceAdd, Int.reduceToNat, hd']
    intro hx
    refine ⟨by first | exact Nat.le_refl _ | omega, ?_⟩
    unfold daysV
    rw [if_neg hd]
  · have hn2 := hx2.next
    have hn := daysE_of hd2
    obtain ⟨j, a, hj, hp1, hp2⟩ := hu.ptr (strsW_get (digs s) (show n.toNat < n.toNat + 1 by omega))
    have hp1 := hp1 n (by omega)
    simp +decide (disch := first | assumption | (apply GH.ok_push; assumption) | exact cellV_int _ _ | exact cellV_bool _ | omega) only [go_sem, ↓reduceIte, Nat.reduceEqDiff, Nat.reduceAdd, Int.reduceToNat, hp1, hp2]
    intro hx
    refine ⟨by first | exact Nat.le_refl _ | omega, ?_⟩
    unfold daysV
    rw [if_pos hd]
end Go.Proofs.Ytgnnhenbmnopaaa
set_option maxRecDepth 100000
set_option maxHeartbeats 8000000
set_option linter.unusedSimpArgs false
set_option linter.unusedVariables false
namespace Go.Proofs.Ytgnnhenbmnopaaa
open Go.Ds Go.Aw
abbrev cn3 (l : List Nat) : List Value := [.int .i64 (l.count 1 : Nat), .int .i64 (l.count 2 : Nat), .int .i64 (l.count 3 : Nat)]
theorem ia3 (j : Nat) : iaddrAF 3 1 (.pointer (some ⟨j, 0, none⟩)) (.int .i32 (wrapF .i32 0)) = some (.pointer (some ⟨j, 0, none⟩)) ∧ iaddrAF 3 1 (.pointer (some ⟨j, 0, none⟩)) (.int .i32 (wrapF .i32 1)) = some (.pointer (some ⟨j, 1, none⟩)) ∧ iaddrAF 3 1 (.pointer (some ⟨j, 0, none⟩)) (.int .i32 (wrapF .i32 2)) = some (.pointer (some ⟨j, 2, none⟩)) := ⟨rfl, rfl, rfl⟩
theorem bld0 : buildF [] (some 1) #[Value.int .i64 0, Value.int .i64 0, Value.int .i64 0] [] = some (.agg #[.int .i64 0, .int .i64 0, .int .i64 0]) := rfl
noncomputable def countV (n : Int) (s : ByteArray) : Value := if aErr n s = 0 then .tuple #[.agg (cn3 (wd n.toNat (digs s))).toArray, .int .i64 0] else .tuple #[.agg #[.int .i64 0, .int .i64 0, .int .i64 0], .int .i64 (aErr n s)]
theorem count_le (l : List Nat) (k i : Nat) : (l.take i).count k ≤ i := Nat.le_trans List.count_le_length (by rw [List.length_take]; omega)
theorem count_step {l : List Nat} {i : Nat} (h : i < l.length) (k : Nat) : (l.take (i + 1)).count k = (l.take i).count k + if l[i] = k then 1 else 0 := by
  rw [take_succ' h, List.count_append, List.count_singleton]
  simp [beq_iff_eq]
theorem aErr_zero {n : Int} {s : ByteArray} (h : aErr n s = 0) : ∃ ds, Wd ds ∧ s = Try.txt ds ∧ daysE n = 0 ∧ derr n.toNat ds = 0 := by
  unfold aErr at h
  split at h
  · rename_i hz
    obtain ⟨ds, hw, rfl⟩ := werr_word hz
    rw [digs_txt hw.dig] at h
    unfold dErr at h
    split at h
    · rename_i h2; exact ⟨ds, hw, rfl, h2, h⟩
    · rename_i h2; exact absurd h h2
  · rename_i hz; exact absurd h hz
theorem count_rets {X : Caller} (hX : Xok X) (s : ByteArray) (n : Int) (g : GH) :
    Rets Try.prog X 35 [.string s, .int .i64 n] g (fun v g' lo => g.next ≤ lo ∧ v = countV n s) := by
  refine Rets.run hX.pres p35 (hX.free 35 (by decide) _ _) rfl fun ho => ?_
  simp +decide (disch := first | assumption | exact cellV_int _ _ | exact cellV_bool _ | omega | (simp only [GH.pn, GH.sn] <;> omega) | (with_reducible ((repeat (first | apply GH.ok_push | apply GH.ok_set)); assumption)) | ((try simp only [GH.push_hid, GH.set_hid]); first | assumption | (refine GH.vis ?_ ?_ <;> first | assumption | ((try simp only [GH.pn, GH.sn]) <;> omega)))) only [go_sem, ↓reduceIte, Nat.reduceEqDiff, Nat.reduceAdd, Int.reduceToNat, Int.reduceAdd, Int.reduceNeg, Int.reduceSub, Int.reduceMul, Int.reduceLT, Int.reduceLE, Int.reduceEq, ↓GH.gp_eq, ↓GH.gp_ne, ↓GH.gs_eq, ↓GH.gs_ne, GH.push_next, GH.set_next]
  refine CallD.calm (days_rets hX s n _) ?_
  rintro v g2 hx2 rfl
  have hn2 := hx2.next
  simp only [GH.push_next] at hn2
  have ho2 := hx2.ok (GH.ok_push ho)
  have hr4 : g2.get g.next = cellsOb [.int .i64 0, .int .i64 0, .int .i64 0] 38 := (hx2.kept.gets _ (Nat.lt_succ_self _)).trans (by simp (disch := first | assumption | exact cellV_int _ _ | exact cellV_bool _ | omega | (simp only [GH.pn, GH.sn] <;> omega) | (with_reducible ((repeat (first | apply GH.ok_push | apply GH.ok_set)); assumption)) | ((try simp only [GH.push_hid, GH.set_hid]); first | assumption | (refine GH.vis ?_ ?_ <;> first | assumption | ((try simp only [GH.pn, GH.sn]) <;> omega)))) only [↓GH.gp_eq, ↓GH.gp_ne, ↓GH.gs_eq, ↓GH.gs_ne, GH.push_next, GH.set_next]; first | done | exact rfl)
  have hv4 := GH.seen hr4 Nat.one_ne_zero
  by_cases hz : aErr n s = 0
  · obtain ⟨ds, hw, rfl, hd2, hd⟩ := aErr_zero hz
    have hds := derr_zero.1 hd
    have hdg := wd_dig hw.dig hds
    have hln := wd_len hw.len hds
    obtain ⟨w, hwd⟩ : ∃ w, wd n.toNat ds = w := ⟨_, rfl⟩
    have hsz := Try.txt_size w
    have hdv : daysV n (Try.txt ds) = .tuple #[.string (Try.txt w), .int .i64 0] := by unfold daysV; rw [if_pos hz, digs_txt hw.dig, hwd]
    have hcv : countV n (Try.txt ds) = .tuple #[.agg (cn3 w).toArray, .int .i64 0] := by unfold countV; rw [if_pos hz, digs_txt hw.dig, hwd]
    rw [hwd] at hdg hln
    rw [hdv]
    simp +decide (disch := first | assumption | exact cellV_int _ _ | exact cellV_bool _ | omega | (simp only [GH.pn, GH.sn] <;> omega) | (with_reducible ((repeat (first | apply GH.ok_push | apply GH.ok_set)); assumption)) | ((try simp only [GH.push_hid, GH.set_hid]); first | assumption | (refine GH.vis ?_ ?_ <;> first | assumption | ((try simp only [GH.pn, GH.sn]) <;> omega)))) only [go_sem, ↓reduceIte, Nat.reduceEqDiff, Nat.reduceAdd, Int.reduceToNat, Int.reduceAdd, Int.reduceNeg, Int.reduceSub, Int.reduceMul, Int.reduceLT, Int.reduceLE, Int.reduceEq, ↓GH.gp_eq, ↓GH.gp_ne, ↓GH.gs_eq, ↓GH.gs_ne, GH.push_next, GH.set_next]
    refine Wk.rngS (s := Try.txt w) (by simp +decide (disch := first | assumption | (apply GH.ok_push; assumption) | exact cellV_int _ _ | exact cellV_bool _ | omega) only [go_sem, ↓reduceIte, Nat.reduceEqDiff, Nat.reduceAdd, Int.reduceToNat]; first | done | exact rfl) ?_
    simp +decide (disch := first | assumption | exact cellV_int _ _ | exact cellV_bool _ | omega | (simp only [GH.pn, GH.sn] <;> omega) | (with_reducible ((repeat (first | apply GH.ok_push | apply GH.ok_set)); assumption)) | ((try simp only [GH.push_hid, GH.set_hid]); first | assumption | (refine GH.vis ?_ ?_ <;> first | assumption | ((try simp only [GH.pn, GH.sn]) <;> omega)))) only [go_sem, ↓reduceIte, Nat.reduceEqDiff, Nat.reduceAdd, Int.reduceToNat, Int.reduceAdd, Int.reduceNeg, Int.reduceSub, Int.reduceMul, Int.reduceLT, Int.reduceLE, Int.reduceEq, ↓GH.gp_eq, ↓GH.gp_ne, ↓GH.gs_eq, ↓GH.gs_ne, GH.push_next, GH.set_next]
    refine Wk.loops (fun m e g' lo => g.next ≤ lo ∧ ∃ i : Nat, (i ≤ w.length ∧ m = w.length - i) ∧ (g'.get g.next = cellsOb [.int .i64 0, .int .i64 0, .int .i64 0] 38 ∧ g'.get g2.next = cellsOb (cn3 (w.take i)) 38 ∧ g'.get (g2.next + 1) = iterOb (Try.txt w) i ∧ g2.next + 1 < g'.next) ∧ (ev e (.s 4) = ptrTo g.next ∧ ev e (.s 8) = ptrTo g2.next ∧ ev e (.s 22) = ptrTo (g2.next + 1)))
      (fun e g' lo => g.next ≤ lo ∧ (g'.get g.next = cellsOb [.int .i64 0, .int .i64 0, .int .i64 0] 38 ∧ g'.get g2.next = cellsOb (cn3 w) 38 ∧ g2.next + 1 < g'.next) ∧ (ev e (.s 4) = ptrTo g.next ∧ ev e (.s 8) = ptrTo g2.next)) (n := w.length) ?_ ?_ ?_
    · refine ⟨by first | exact Nat.le_refl _ | omega, 0, ⟨Nat.zero_le _, rfl⟩, ⟨?_, ?_, ?_, ?_⟩, (by simp +decide (disch := first | assumption | (apply GH.ok_push; assumption) | exact cellV_int _ _ | exact cellV_bool _ | omega) only [go_sem, ↓reduceIte, Nat.reduceEqDiff, Nat.reduceAdd, Int.reduceToNat]; first | done | exact rfl)⟩
      · refine Eq.trans ?_ hr4
        exact (by simp (disch := first | assumption | exact cellV_int _ _ | exact cellV_bool _ | omega | (simp only [GH.pn, GH.sn] <;> omega) | (with_reducible ((repeat (first | apply GH.ok_push | apply GH.ok_set)); assumption)) | ((try simp only [GH.push_hid, GH.set_hid]); first | assumption | (refine GH.vis ?_ ?_ <;> first | assumption | ((try simp only [GH.pn, GH.sn]) <;> omega)))) only [↓GH.gp_eq, ↓GH.gp_ne, ↓GH.gs_eq, ↓GH.gs_ne, GH.push_next, GH.set_next]; first | done | exact rfl)
      · exact (by simp (disch := first | assumption | exact cellV_int _ _ | exact cellV_bool _ | omega | (simp only [GH.pn, GH.sn] <;> omega) | (with_reducible ((repeat (first | apply GH.ok_push | apply GH.ok_set)); assumption)) | ((try simp only [GH.push_hid, GH.set_hid]); first | assumption | (refine GH.vis ?_ ?_ <;> first | assumption | ((try simp only [GH.pn, GH.sn]) <;> omega)))) only [↓GH.gp_eq, ↓GH.gp_ne, ↓GH.gs_eq, ↓GH.gs_ne, GH.push_next, GH.set_next]; first | done | exact rfl)
      · exact (by simp (disch := first | assumption | exact cellV_int _ _ | exact cellV_bool _ | omega | (simp only [GH.pn, GH.sn] <;> omega) | (with_reducible ((repeat (first | apply GH.ok_push | apply GH.ok_set)); assumption)) | ((try simp only [GH.push_hid, GH.set_hid]); first | assumption | (refine GH.vis ?_ ?_ <;> first | assumption | ((try simp only [GH.pn, GH.sn]) <;> omega)))) only [↓GH.gp_eq, ↓GH.gp_ne, ↓GH.gs_eq, ↓GH.gs_ne, GH.push_next, GH.set_next]; first | done | exact rfl)
      · simp only [GH.push_next]; omega
    · rintro e g' lo ho' - ⟨hlo, ⟨a1, a2, a3⟩, he⟩
      have v1 := GH.seen a1 Nat.one_ne_zero
      have v2 := GH.seen a2 Nat.one_ne_zero
      have hn4 : g.next < g'.next := by omega
      simp +decide (disch := first | assumption | exact cellV_int _ _ | exact cellV_bool _ | omega | (simp only [GH.pn, GH.sn] <;> omega) | (with_reducible ((repeat (first | apply GH.ok_push | apply GH.ok_set)); assumption)) | ((try simp only [GH.push_hid, GH.set_hid]); first | assumption | (refine GH.vis ?_ ?_ <;> first | assumption | ((try simp only [GH.pn, GH.sn]) <;> omega)))) only [go_sem, ↓reduceIte, Nat.reduceEqDiff, Nat.reduceAdd, Int.reduceToNat, Int.reduceAdd, Int.reduceNeg, Int.reduceSub, Int.reduceMul, Int.reduceLT, Int.reduceLE, Int.reduceEq, ↓GH.gp_eq, ↓GH.gp_ne, ↓GH.gs_eq, ↓GH.gs_ne, GH.push_next, GH.set_next, he, a1, a2]
      intro hx
      exact ⟨by omega, hcv.symm⟩
    · rintro m e g' lo ho' hl' ih out ⟨hlo, i, ⟨hi, hm⟩, ⟨a1, a2, a3, a4⟩, he⟩
      have v1 := GH.seen a1 Nat.one_ne_zero
      have v2 := GH.seen a2 Nat.one_ne_zero
      simp +decide (disch := first | assumption | (apply GH.ok_push; assumption) | exact cellV_int _ _ | exact cellV_bool _ | omega) only [go_sem, ↓reduceIte, Nat.reduceEqDiff, Nat.reduceAdd, Int.reduceToNat]
      by_cases c : i < w.length
      · have hp : i < (Try.txt w).size := by rw [hsz]; exact c
        have hx9 := hdg _ (List.getElem_mem c)
        have hg := Try.txt_get hdg i hp
        have hs1 := count_step c 1
        have hs2 := count_step c 2
        have hs3 := count_step c 3
        have hb1 := count_le w 1 i
        have hb2 := count_le w 2 i
        have hb3 := count_le w 3 i
        obtain ⟨x, hx⟩ : ∃ x, w[i] = x := ⟨_, rfl⟩
        rw [hx] at hx9 hg hs1 hs2 hs3
        have hdec : Utf8.decode (Try.txt w) i = (48 + x, 1) := by rw [decode_ascii (Try.txt w) i hp (by omega), hg]
        refine Wk.nxtS (j := g2.next + 1) (pos := i) (s := Try.txt w) (c := 48 + x) (w := 1) (by rw [he.2.2]; rfl) a3 a4 hp hdec ?_
        have v3 := GH.seen a3 (by simp [iterOb])
        have b1 : (g'.set (g2.next + 1) (iterOb (Try.txt w) (i + 1))).get g.next = cellsOb [.int .i64 0, .int .i64 0, .int .i64 0] 38 := (GH.get_set_ne a3 (by simp [iterOb]) _ (by omega)).trans a1
        have b2 : (g'.set (g2.next + 1) (iterOb (Try.txt w) (i + 1))).get g2.next = cellsOb (cn3 (w.take i)) 38 := (GH.get_set_ne a3 (by simp [iterOb]) _ (by omega)).trans a2
        have b3 : (g'.set (g2.next + 1) (iterOb (Try.txt w) (i + 1))).get (g2.next + 1) = iterOb (Try.txt w) (i + 1) := GH.get_set_same a3 (by simp [iterOb]) _
        have b4 : g2.next + 1 < (g'.set (g2.next + 1) (iterOb (Try.txt w) (i + 1))).next := a4
        have hok4 : (g'.set (g2.next + 1) (iterOb (Try.txt w) (i + 1))).ok := GH.ok_set ho'
        generalize g'.set (g2.next + 1) (iterOb (Try.txt w) (i + 1)) = g4 at b1 b2 b3 b4 hok4 ⊢
        have w1 := GH.seen b1 Nat.one_ne_zero
        have w2 := GH.seen b2 Nat.one_ne_zero
        have w3 := GH.seen b3 (by simp [iterOb])
        have hcast : (((48 + x : Nat) : Int)) = 48 + (x : Int) := by omega
        rcases (show x = 1 ∨ x = 2 ∨ x = 3 ∨ 4 ≤ x by omega) with rfl | rfl | rfl | hx4
        · have hia := ia3 g2.next
          have hcx : (48 + ((1 : Nat) : Int) - 49) = 0 := by decide
          have hcy : (48 + ((1 : Nat) : Int) ≤ 51) := by decide
          simp +decide (disch := first | assumption | exact cellV_int _ _ | exact cellV_bool _ | omega | (simp only [GH.pn, GH.sn] <;> omega) | (with_reducible ((repeat (first | apply GH.ok_push | apply GH.ok_set)); assumption)) | ((try simp only [GH.push_hid, GH.set_hid]); first | assumption | (refine GH.vis ?_ ?_ <;> first | assumption | ((try simp only [GH.pn, GH.sn]) <;> omega)))) only [go_sem, ↓reduceIte, Nat.reduceEqDiff, Nat.reduceAdd, Int.reduceToNat, Int.reduceAdd, Int.reduceNeg, Int.reduceSub, Int.reduceMul, Int.reduceLT, Int.reduceLE, Int.reduceEq, ↓GH.gp_eq, ↓GH.gp_ne, ↓GH.gs_eq, ↓GH.gs_ne, GH.push_next, GH.set_next, he, hcast, b2, hia, hcx, hcy]
          refine ih (m - 1) _ _ _ (by omega) ⟨by omega, i + 1, ⟨by omega, by omega⟩, ⟨?_, ?_, ?_, ?_⟩, ?_⟩
          · exact (GH.get_set_ne b2 Nat.one_ne_zero _ (by omega)).trans b1
          · refine (GH.get_set_same b2 Nat.one_ne_zero _).trans ?_
            simp only [cn3, hs1, hs2, hs3]
            rfl
          · exact (GH.get_set_ne b2 Nat.one_ne_zero _ (by omega)).trans b3
          · exact b4
          · exact (by simp +decide (disch := first | assumption | (apply GH.ok_push; assumption) | exact cellV_int _ _ | exact cellV_bool _ | omega) only [go_sem, ↓reduceIte, Nat.reduceEqDiff, Nat.reduceAdd, Int.reduceToNat, he]; first | done | exact rfl)
        · have hia := ia3 g2.next
          have hcx : (48 + ((2 : Nat) : Int) - 49) = 1 := by decide
          have hcy : (48 + ((2 : Nat) : Int) ≤ 51) := by decide
          simp +decide (disch := first | assumption | exact cellV_int _ _ | exact cellV_bool _ | omega | (simp only [GH.pn, GH.sn] <;> omega) | (with_reducible ((repeat (first | apply GH.ok_push | apply GH.ok_set)); assumption)) | ((try simp only [GH.push_hid, GH.set_hid]); first | assumption | (refine GH.vis ?_ ?_ <;> first | assumption | ((try simp only [GH.pn, GH.sn]) <;> omega)))) only [go_sem, ↓reduceIte, Nat.reduceEqDiff, Nat.reduceAdd, Int.reduceToNat, Int.reduceAdd, Int.reduceNeg, Int.reduceSub, Int.reduceMul, Int.reduceLT, Int.reduceLE, Int.reduceEq, ↓GH.gp_eq, ↓GH.gp_ne, ↓GH.gs_eq, ↓GH.gs_ne, GH.push_next, GH.set_next, he, hcast, b2, hia, hcx, hcy]
          refine ih (m - 1) _ _ _ (by omega) ⟨by omega, i + 1, ⟨by omega, by omega⟩, ⟨?_, ?_, ?_, ?_⟩, ?_⟩
          · exact (GH.get_set_ne b2 Nat.one_ne_zero _ (by omega)).trans b1
          · refine (GH.get_set_same b2 Nat.one_ne_zero _).trans ?_
            simp only [cn3, hs1, hs2, hs3]
            rfl
          · exact (GH.get_set_ne b2 Nat.one_ne_zero _ (by omega)).trans b3
          · exact b4
          · exact (by simp +decide (disch := first | assumption | (apply GH.ok_push; assumption) | exact cellV_int _ _ | exact cellV_bool _ | omega) only [go_sem, ↓reduceIte, Nat.reduceEqDiff, Nat.reduceAdd, Int.reduceToNat, he]; first | done | exact rfl)
        · have hia := ia3 g2.next
          have hcx : (48 + ((3 : Nat) : Int) - 49) = 2 := by decide
          have hcy : (48 + ((3 : Nat) : Int) ≤ 51) := by decide
          simp +decide (disch := first | assumption | exact cellV_int _ _ | exact cellV_bool _ | omega | (simp only [GH.pn, GH.sn] <;> omega) | (with_reducible ((repeat (first | apply GH.ok_push | apply GH.ok_set)); assumption)) | ((try simp only [GH.push_hid, GH.set_hid]); first | assumption | (refine GH.vis ?_ ?_ <;> first | assumption | ((try simp only [GH.pn, GH.sn]) <;> omega)))) only [go_sem, ↓reduceIte, Nat.reduceEqDiff, Nat.reduceAdd, Int.reduceToNat, Int.reduceAdd, Int.reduceNeg, Int.reduceSub, Int.reduceMul, Int.reduceLT, Int.reduceLE, Int.reduceEq, ↓GH.gp_eq, ↓GH.gp_ne, ↓GH.gs_eq, ↓GH.gs_ne, GH.push_next, GH.set_next, he, hcast, b2, hia, hcx, hcy]
          refine ih (m - 1) _ _ _ (by omega) ⟨by omega, i + 1, ⟨by omega, by omega⟩, ⟨?_, ?_, ?_, ?_⟩, ?_⟩
          · exact (GH.get_set_ne b2 Nat.one_ne_zero _ (by omega)).trans b1
          · refine (GH.get_set_same b2 Nat.one_ne_zero _).trans ?_
            simp only [cn3, hs1, hs2, hs3]
            rfl
          · exact (GH.get_set_ne b2 Nat.one_ne_zero _ (by omega)).trans b3
          · exact b4
          · exact (by simp +decide (disch := first | assumption | (apply GH.ok_push; assumption) | exact cellV_int _ _ | exact cellV_bool _ | omega) only [go_sem, ↓reduceIte, Nat.reduceEqDiff, Nat.reduceAdd, Int.reduceToNat, he]; first | done | exact rfl)
        · have hx4' : ¬ (48 + (x : Int) ≤ 51) := by omega
          simp +decide (disch := first | assumption | exact cellV_int _ _ | exact cellV_bool _ | omega | (simp only [GH.pn, GH.sn] <;> omega) | (with_reducible ((repeat (first | apply GH.ok_push | apply GH.ok_set)); assumption)) | ((try simp only [GH.push_hid, GH.set_hid]); first | assumption | (refine GH.vis ?_ ?_ <;> first | assumption | ((try simp only [GH.pn, GH.sn]) <;> omega)))) only [go_sem, ↓reduceIte, Nat.reduceEqDiff, Nat.reduceAdd, Int.reduceToNat, Int.reduceAdd, Int.reduceNeg, Int.reduceSub, Int.reduceMul, Int.reduceLT, Int.reduceLE, Int.reduceEq, ↓GH.gp_eq, ↓GH.gp_ne, ↓GH.gs_eq, ↓GH.gs_ne, GH.push_next, GH.set_next, he, hcast, hx4']
          refine ih (m - 1) _ _ _ (by omega) ⟨by omega, i + 1, ⟨by omega, by omega⟩, ⟨b1, ?_, b3, b4⟩, (by simp +decide (disch := first | assumption | (apply GH.ok_push; assumption) | exact cellV_int _ _ | exact cellV_bool _ | omega) only [go_sem, ↓reduceIte, Nat.reduceEqDiff, Nat.reduceAdd, Int.reduceToNat, he]; first | done | exact rfl)⟩
          rw [b2]
          simp only [cn3, hs1, hs2, hs3]
          rw [if_neg (by omega), if_neg (by omega), if_neg (by omega)]
          rfl
      · refine Wk.nxtE (j := g2.next + 1) (pos := i) (s := Try.txt w) (by rw [he.2.2]; rfl) a3 a4 (by rw [hsz]; exact c) ?_
        have hie : i = w.length := by omega
        subst hie
        simp +decide (disch := first | assumption | (apply GH.ok_push; assumption) | exact cellV_int _ _ | exact cellV_bool _ | omega) only [go_sem, ↓reduceIte, Nat.reduceEqDiff, Nat.reduceAdd, Int.reduceToNat]
        rw [List.take_length] at a2
        exact out _ _ _ ⟨hlo, ⟨a1, a2, a4⟩, (by simp +decide (disch := first | assumption | (apply GH.ok_push; assumption) | exact cellV_int _ _ | exact cellV_bool _ | omega) only [go_sem, ↓reduceIte, Nat.reduceEqDiff, Nat.reduceAdd, Int.reduceToNat, he]; first | done | exact rfl)⟩
  · have hdv : daysV n s = .tuple #[.string ⟨#[]⟩, .int .i64 (aErr n s)] := by unfold daysV; rw [if_neg hz]
    have hcv : countV n s = .tuple #[.agg #[.int .i64 0, .int .i64 0, .int .i64 0], .int .i64 (aErr n s)] := by unfold countV; rw [if_neg hz]
    have hz' : ¬ (aErr n s = 0) := hz
    rw [hdv]
    simp +decide (disch := first | assumption | exact cellV_int _ _ | exact cellV_bool _ | omega | (simp only [GH.pn, GH.sn] <;> omega) | (with_reducible ((repeat (first | apply GH.ok_push | apply GH.ok_set)); assumption)) | ((try simp only [GH.push_hid, GH.set_hid]); first | assumption | (refine GH.vis ?_ ?_ <;> first | assumption | ((try simp only [GH.pn, GH.sn]) <;> omega)))) only [go_sem, ↓reduceIte, Nat.reduceEqDiff, Nat.reduceAdd, Int.reduceToNat, Int.reduceAdd, Int.reduceNeg, Int.reduceSub, Int.reduceMul, Int.reduceLT, Int.reduceLE, Int.reduceEq, ↓GH.gp_eq, ↓GH.gp_ne, ↓GH.gs_eq, ↓GH.gs_ne, GH.push_next, GH.set_next, hz', hr4, bld0]
    intro hx
    exact ⟨by omega, hcv.symm⟩
end Go.Proofs.Ytgnnhenbmnopaaa
set_option maxRecDepth 100000
set_option maxHeartbeats 8000000
set_option linter.unusedSimpArgs false
set_option linter.unusedVariables false
namespace Go.Proofs.Ytgnnhenbmnopaaa
open Go.Ds Go.Aw
theorem ia3u (j : Nat) : iaddrAF 3 1 (.pointer (some ⟨j, 0, none⟩)) (.int .i64 0) = some (.pointer (some ⟨j, 0, none⟩)) ∧ iaddrAF 3 1 (.pointer (some ⟨j, 0, none⟩)) (.int .i64 1) = some (.pointer (some ⟨j, 1, none⟩)) ∧ iaddrAF 3 1 (.pointer (some ⟨j, 0, none⟩)) (.int .i64 2) = some (.pointer (some ⟨j, 2, none⟩)) := ⟨rfl, rfl, rfl⟩
theorem cv3u (x : Int) (h : x = 0 ∨ x = 1 ∨ x = 2) : convF .i64 (.int .u8 (wrapF .u8 x)) = some (.int .i64 x) := by rcases h with rfl | rfl | rfl <;> rfl
theorem refCount_rets {X : Caller} (hX : Xok X) (s : ByteArray) (n : Int) (g : GH) :
    Rets Try.prog X 36 [.string s, .int .i64 n] g (fun v g' lo => g.next ≤ lo ∧ v = countV n s) := by
  refine Rets.run hX.pres p36 (hX.free 36 (by decide) _ _) rfl fun ho => ?_
  simp +decide (disch := first | assumption | exact cellV_int _ _ | exact cellV_bool _ | omega | (simp only [GH.pn, GH.sn] <;> omega) | (with_reducible ((repeat (first | apply GH.ok_push | apply GH.ok_set)); assumption)) | ((try simp only [GH.push_hid, GH.set_hid]); first | assumption | (refine GH.vis ?_ ?_ <;> first | assumption | ((try simp only [GH.pn, GH.sn]) <;> omega)))) only [go_sem, ↓reduceIte, Nat.reduceEqDiff, Nat.reduceAdd, Int.reduceToNat, Int.reduceAdd, Int.reduceNeg, Int.reduceSub, Int.reduceMul, Int.reduceLT, Int.reduceLE, Int.reduceEq, ↓GH.gp_eq, ↓GH.gp_ne, ↓GH.gs_eq, ↓GH.gs_ne, GH.push_next, GH.set_next]
  refine CallD.calm (refDays_rets hX s n _) ?_
  rintro v g2 hx2 rfl
  have hn2 := hx2.next
  simp only [GH.push_next] at hn2
  have ho2 := hx2.ok (GH.ok_push ho)
  have hr4 : g2.get g.next = cellsOb [.int .i64 0, .int .i64 0, .int .i64 0] 38 := (hx2.kept.gets _ (Nat.lt_succ_self _)).trans (by simp (disch := first | assumption | exact cellV_int _ _ | exact cellV_bool _ | omega | (simp only [GH.pn, GH.sn] <;> omega) | (with_reducible ((repeat (first | apply GH.ok_push | apply GH.ok_set)); assumption)) | ((try simp only [GH.push_hid, GH.set_hid]); first | assumption | (refine GH.vis ?_ ?_ <;> first | assumption | ((try simp only [GH.pn, GH.sn]) <;> omega)))) only [↓GH.gp_eq, ↓GH.gp_ne, ↓GH.gs_eq, ↓GH.gs_ne, GH.push_next, GH.set_next]; first | done | exact rfl)
  have hv4 := GH.seen hr4 Nat.one_ne_zero
  by_cases hz : aErr n s = 0
  · obtain ⟨ds, hw, rfl, hd2, hd⟩ := aErr_zero hz
    have hds := derr_zero.1 hd
    have hdg := wd_dig hw.dig hds
    have hln := wd_len hw.len hds
    obtain ⟨w, hwd⟩ : ∃ w, wd n.toNat ds = w := ⟨_, rfl⟩
    have hsz := Try.txt_size w
    have hdv : daysV n (Try.txt ds) = .tuple #[.string (Try.txt w), .int .i64 0] := by unfold daysV; rw [if_pos hz, digs_txt hw.dig, hwd]
    have hcv : countV n (Try.txt ds) = .tuple #[.agg (cn3 w).toArray, .int .i64 0] := by unfold countV; rw [if_pos hz, digs_txt hw.dig, hwd]
    rw [hwd] at hdg hln
    rw [hdv]
    simp +decide (disch := first | assumption | exact cellV_int _ _ | exact cellV_bool _ | omega | (simp only [GH.pn, GH.sn] <;> omega) | (with_reducible ((repeat (first | apply GH.ok_push | apply GH.ok_set)); assumption)) | ((try simp only [GH.push_hid, GH.set_hid]); first | assumption | (refine GH.vis ?_ ?_ <;> first | assumption | ((try simp only [GH.pn, GH.sn]) <;> omega)))) only [go_sem, ↓reduceIte, Nat.reduceEqDiff, Nat.reduceAdd, Int.reduceToNat, Int.reduceAdd, Int.reduceNeg, Int.reduceSub, Int.reduceMul, Int.reduceLT, Int.reduceLE, Int.reduceEq, ↓GH.gp_eq, ↓GH.gp_ne, ↓GH.gs_eq, ↓GH.gs_ne, GH.push_next, GH.set_next]
    refine Wk.loops (fun m e g' lo => g.next ≤ lo ∧ ∃ i : Nat, (i ≤ w.length ∧ m = w.length - i) ∧ (g'.get g.next = cellsOb [.int .i64 0, .int .i64 0, .int .i64 0] 38 ∧ g'.get g2.next = cellsOb (cn3 (w.take i)) 38 ∧ g2.next < g'.next) ∧ (ev e (.s 4) = ptrTo g.next ∧ ev e (.s 8) = ptrTo g2.next ∧ ev e (.s 6) = .string (Try.txt w) ∧ ev e (.s 7) = .int .i64 0 ∧ ev e (.s 9) = .int .i64 i))
      (fun e g' lo => g.next ≤ lo ∧ (g'.get g.next = cellsOb [.int .i64 0, .int .i64 0, .int .i64 0] 38 ∧ g'.get g2.next = cellsOb (cn3 w) 38 ∧ g2.next < g'.next) ∧ (ev e (.s 4) = ptrTo g.next ∧ ev e (.s 8) = ptrTo g2.next ∧ ev e (.s 7) = .int .i64 0)) (n := w.length) ?_ ?_ ?_
    · refine ⟨by first | exact Nat.le_refl _ | omega, 0, ⟨Nat.zero_le _, rfl⟩, ⟨?_, ?_, ?_⟩, (by simp +decide (disch := first | assumption | (apply GH.ok_push; assumption) | exact cellV_int _ _ | exact cellV_bool _ | omega) only [go_sem, ↓reduceIte, Nat.reduceEqDiff, Nat.reduceAdd, Int.reduceToNat]; first | done | exact rfl)⟩
      · refine Eq.trans ?_ hr4
        exact (by simp (disch := first | assumption | exact cellV_int _ _ | exact cellV_bool _ | omega | (simp only [GH.pn, GH.sn] <;> omega) | (with_reducible ((repeat (first | apply GH.ok_push | apply GH.ok_set)); assumption)) | ((try simp only [GH.push_hid, GH.set_hid]); first | assumption | (refine GH.vis ?_ ?_ <;> first | assumption | ((try simp only [GH.pn, GH.sn]) <;> omega)))) only [↓GH.gp_eq, ↓GH.gp_ne, ↓GH.gs_eq, ↓GH.gs_ne, GH.push_next, GH.set_next]; first | done | exact rfl)
      · exact (by simp (disch := first | assumption | exact cellV_int _ _ | exact cellV_bool _ | omega | (simp only [GH.pn, GH.sn] <;> omega) | (with_reducible ((repeat (first | apply GH.ok_push | apply GH.ok_set)); assumption)) | ((try simp only [GH.push_hid, GH.set_hid]); first | assumption | (refine GH.vis ?_ ?_ <;> first | assumption | ((try simp only [GH.pn, GH.sn]) <;> omega)))) only [↓GH.gp_eq, ↓GH.gp_ne, ↓GH.gs_eq, ↓GH.gs_ne, GH.push_next, GH.set_next]; first | done | exact rfl)
      · simp only [GH.push_next]; omega
    · rintro e g' lo ho' - ⟨hlo, ⟨a1, a2, a3⟩, he⟩
      have v1 := GH.seen a1 Nat.one_ne_zero
      have v2 := GH.seen a2 Nat.one_ne_zero
      have hn4 : g.next < g'.next := by omega
      simp +decide (disch := first | assumption | exact cellV_int _ _ | exact cellV_bool _ | omega | (simp only [GH.pn, GH.sn] <;> omega) | (with_reducible ((repeat (first | apply GH.ok_push | apply GH.ok_set)); assumption)) | ((try simp only [GH.push_hid, GH.set_hid]); first | assumption | (refine GH.vis ?_ ?_ <;> first | assumption | ((try simp only [GH.pn, GH.sn]) <;> omega)))) only [go_sem, ↓reduceIte, Nat.reduceEqDiff, Nat.reduceAdd, Int.reduceToNat, Int.reduceAdd, Int.reduceNeg, Int.reduceSub, Int.reduceMul, Int.reduceLT, Int.reduceLE, Int.reduceEq, ↓GH.gp_eq, ↓GH.gp_ne, ↓GH.gs_eq, ↓GH.gs_ne, GH.push_next, GH.set_next, he, a1, a2]
      intro hx
      exact ⟨by omega, hcv.symm⟩
    · rintro m e g' lo ho' hl' ih out ⟨hlo, i, ⟨hi, hm⟩, ⟨b1, b2, b4⟩, he⟩
      have w1 := GH.seen b1 Nat.one_ne_zero
      have w2 := GH.seen b2 Nat.one_ne_zero
      by_cases c : i < w.length
      · have hg := idx_w hdg i c i rfl
        have hx9 := hdg _ (List.getElem_mem c)
        have hs1 := count_step c 1
        have hs2 := count_step c 2
        have hs3 := count_step c 3
        have hb1 := count_le w 1 i
        have hb2 := count_le w 2 i
        have hb3 := count_le w 3 i
        obtain ⟨x, hx⟩ : ∃ x, w[i] = x := ⟨_, rfl⟩
        rw [hx] at hx9 hg hs1 hs2 hs3
        rcases (show x = 1 ∨ x = 2 ∨ x = 3 ∨ 4 ≤ x by omega) with rfl | rfl | rfl | hx4
        · have hia := ia3u g2.next
          have hcx : (48 + ((1 : Nat) : Int) - 49) = 0 := by decide
          have hcy : (48 + ((1 : Nat) : Int) ≤ 51) := by decide
          have hcz := cv3u 0 (by omega)
          simp +decide (disch := first | assumption | exact cellV_int _ _ | exact cellV_bool _ | omega | (simp only [GH.pn, GH.sn] <;> omega) | (with_reducible ((repeat (first | apply GH.ok_push | apply GH.ok_set)); assumption)) | ((try simp only [GH.push_hid, GH.set_hid]); first | assumption | (refine GH.vis ?_ ?_ <;> first | assumption | ((try simp only [GH.pn, GH.sn]) <;> omega)))) only [go_sem, ↓reduceIte, Nat.reduceEqDiff, Nat.reduceAdd, Int.reduceToNat, Int.reduceAdd, Int.reduceNeg, Int.reduceSub, Int.reduceMul, Int.reduceLT, Int.reduceLE, Int.reduceEq, ↓GH.gp_eq, ↓GH.gp_ne, ↓GH.gs_eq, ↓GH.gs_ne, GH.push_next, GH.set_next, he, hg, hsz, c, b2, hia, hcx, hcy, hcz]
          refine ih (m - 1) _ _ _ (by omega) ⟨by omega, i + 1, ⟨by omega, by omega⟩, ⟨?_, ?_, ?_⟩, ?_⟩
          · exact (GH.get_set_ne b2 Nat.one_ne_zero _ (by omega)).trans b1
          · refine (GH.get_set_same b2 Nat.one_ne_zero _).trans ?_
            simp only [cn3, hs1, hs2, hs3]
            rfl
          · exact b4
          · exact (by simp +decide (disch := first | assumption | (apply GH.ok_push; assumption) | exact cellV_int _ _ | exact cellV_bool _ | omega) only [go_sem, ↓reduceIte, Nat.reduceEqDiff, Nat.reduceAdd, Int.reduceToNat, he]; first | done | exact rfl)
        · have hia := ia3u g2.next
          have hcx : (48 + ((2 : Nat) : Int) - 49) = 1 := by decide
          have hcy : (48 + ((2 : Nat) : Int) ≤ 51) := by decide
          have hcz := cv3u 1 (by omega)
          simp +decide (disch := first | assumption | exact cellV_int _ _ | exact cellV_bool _ | omega | (simp only [GH.pn, GH.sn] <;> omega) | (with_reducible ((repeat (first | apply GH.ok_push | apply GH.ok_set)); assumption)) | ((try simp only [GH.push_hid, GH.set_hid]); first | assumption | (refine GH.vis ?_ ?_ <;> first | assumption | ((try simp only [GH.pn, GH.sn]) <;> omega)))) only [go_sem, ↓reduceIte, Nat.reduceEqDiff, Nat.reduceAdd, Int.reduceToNat, Int.reduceAdd, Int.reduceNeg, Int.reduceSub, Int.reduceMul, Int.reduceLT, Int.reduceLE, Int.reduceEq, ↓GH.gp_eq, ↓GH.gp_ne, ↓GH.gs_eq, ↓GH.gs_ne, GH.push_next, GH.set_next, he, hg, hsz, c, b2, hia, hcx, hcy, hcz]
          refine ih (m - 1) _ _ _ (by omega) ⟨by omega, i + 1, ⟨by omega, by omega⟩, ⟨?_, ?_, ?_⟩, ?_⟩
          · exact (GH.get_set_ne b2 Nat.one_ne_zero _ (by omega)).trans b1
          · refine (GH.get_set_same b2 Nat.one_ne_zero _).trans ?_
            simp only [cn3, hs1, hs2, hs3]
            rfl
          · exact b4
          · exact (by simp +decide (disch := first | assumption | (apply GH.ok_push; assumption) | exact cellV_int _ _ | exact cellV_bool _ | omega) only [go_sem, ↓reduceIte, Nat.reduceEqDiff, Nat.reduceAdd, Int.reduceToNat, he]; first | done | exact rfl)
        · have hia := ia3u g2.next
          have hcx : (48 + ((3 : Nat) : Int) - 49) = 2 := by decide
          have hcy : (48 + ((3 : Nat) : Int) ≤ 51) := by decide
          have hcz := cv3u 2 (by omega)
          simp +decide (disch := first | assumption | exact cellV_int _ _ | exact cellV_bool _ | omega | (simp only [GH.pn, GH.sn] <;> omega) | (with_reducible ((repeat (first | apply GH.ok_push | apply GH.ok_set)); assumption)) | ((try simp only [GH.push_hid, GH.set_hid]); first | assumption | (refine GH.vis ?_ ?_ <;> first | assumption | ((try simp only [GH.pn, GH.sn]) <;> omega)))) only [go_sem, ↓reduceIte, Nat.reduceEqDiff, Nat.reduceAdd, Int.reduceToNat, Int.reduceAdd, Int.reduceNeg, Int.reduceSub, Int.reduceMul, Int.reduceLT, Int.reduceLE, Int.reduceEq, ↓GH.gp_eq, ↓GH.gp_ne, ↓GH.gs_eq, ↓GH.gs_ne, GH.push_next, GH.set_next, he, hg, hsz, c, b2, hia, hcx, hcy, hcz]
          refine ih (m - 1) _ _ _ (by omega) ⟨by omega, i + 1, ⟨by omega, by omega⟩, ⟨?_, ?_, ?_⟩, ?_⟩
          · exact (GH.get_set_ne b2 Nat.one_ne_zero _ (by omega)).trans b1
          · refine (GH.get_set_same b2 Nat.one_ne_zero _).trans ?_
            simp only [cn3, hs1, hs2, hs3]
            rfl
          · exact b4
          · exact (by simp +decide (disch := first | assumption | (apply GH.ok_push; assumption) | exact cellV_int _ _ | exact cellV_bool _ | omega) only [go_sem, ↓reduceIte, Nat.reduceEqDiff, Nat.reduceAdd, Int.reduceToNat, he]; first | done | exact rfl)
        · have hx4' : ¬ (48 + (x : Int) ≤ 51) := by omega
          simp +decide (disch := first | assumption | exact cellV_int _ _ | exact cellV_bool _ | omega | (simp only [GH.pn, GH.sn] <;> omega) | (with_reducible ((repeat (first | apply GH.ok_push | apply GH.ok_set)); assumption)) | ((try simp only [GH.push_hid, GH.set_hid]); first | assumption | (refine GH.vis ?_ ?_ <;> first | assumption | ((try simp only [GH.pn, GH.sn]) <;> omega)))) only [go_sem, ↓reduceIte, Nat.reduceEqDiff, Nat.reduceAdd, Int.reduceToNat, Int.reduceAdd, Int.reduceNeg, Int.reduceSub, Int.reduceMul, Int.reduceLT, Int.reduceLE, Int.reduceEq, ↓GH.gp_eq, ↓GH.gp_ne, ↓GH.gs_eq, ↓GH.gs_ne, GH.push_next, GH.set_next, he, hg, hsz, c, hx4']
          refine ih (m - 1) _ _ _ (by omega) ⟨by omega, i + 1, ⟨by omega, by omega⟩, ⟨b1, ?_, b4⟩, (by simp +decide (disch := first | assumption | (apply GH.ok_push; assumption) | exact cellV_int _ _ | exact cellV_bool _ | omega) only [go_sem, ↓reduceIte, Nat.reduceEqDiff, Nat.reduceAdd, Int.reduceToNat, he]; first | done | exact rfl)⟩
          rw [b2]
          simp only [cn3, hs1, hs2, hs3]
          rw [if_neg (by omega), if_neg (by omega), if_neg (by omega)]
          rfl
      · have hie : i = w.length := by omega
        subst hie
        simp +decide (disch := first | assumption | exact cellV_int _ _ | exact cellV_bool _ | omega | (simp only [GH.pn, GH.sn] <;> omega) | (with_reducible ((repeat (first | apply GH.ok_push | apply GH.ok_set)); assumption)) | ((try simp only [GH.push_hid, GH.set_hid]); first | assumption | (refine GH.vis ?_ ?_ <;> first | assumption | ((try simp only [GH.pn, GH.sn]) <;> omega)))) only [go_sem, ↓reduceIte, Nat.reduceEqDiff, Nat.reduceAdd, Int.reduceToNat, Int.reduceAdd, Int.reduceNeg, Int.reduceSub, Int.reduceMul, Int.reduceLT, Int.reduceLE, Int.reduceEq, ↓GH.gp_eq, ↓GH.gp_ne, ↓GH.gs_eq, ↓GH.gs_ne, GH.push_next, GH.set_next, he, hsz]
        rw [List.take_length] at b2
        exact out _ _ _ ⟨hlo, ⟨b1, b2, b4⟩, (by simp +decide (disch := first | assumption | (apply GH.ok_push; assumption) | exact cellV_int _ _ | exact cellV_bool _ | omega) only [go_sem, ↓reduceIte, Nat.reduceEqDiff, Nat.reduceAdd, Int.reduceToNat, he]; first | done | exact rfl)⟩
  · have hdv : daysV n s = .tuple #[.string ⟨#[]⟩, .int .i64 (aErr n s)] := by unfold daysV; rw [if_neg hz]
    have hcv : countV n s = .tuple #[.agg #[.int .i64 0, .int .i64 0, .int .i64 0], .int .i64 (aErr n s)] := by unfold countV; rw [if_neg hz]
    have hsz0 : (⟨#[]⟩ : ByteArray).size = 0 := rfl
    rw [hdv]
    simp +decide (disch := first | assumption | exact cellV_int _ _ | exact cellV_bool _ | omega | (simp only [GH.pn, GH.sn] <;> omega) | (with_reducible ((repeat (first | apply GH.ok_push | apply GH.ok_set)); assumption)) | ((try simp only [GH.push_hid, GH.set_hid]); first | assumption | (refine GH.vis ?_ ?_ <;> first | assumption | ((try simp only [GH.pn, GH.sn]) <;> omega)))) only [go_sem, ↓reduceIte, Nat.reduceEqDiff, Nat.reduceAdd, Int.reduceToNat, Int.reduceAdd, Int.reduceNeg, Int.reduceSub, Int.reduceMul, Int.reduceLT, Int.reduceLE, Int.reduceEq, ↓GH.gp_eq, ↓GH.gp_ne, ↓GH.gs_eq, ↓GH.gs_ne, GH.push_next, GH.set_next]
    refine Wk.loops (fun m e g' lo => g.next ≤ lo ∧ (g'.get g.next = cellsOb [.int .i64 0, .int .i64 0, .int .i64 0] 38 ∧ g'.get g2.next = cellsOb [.int .i64 0, .int .i64 0, .int .i64 0] 38 ∧ g2.next < g'.next) ∧ (ev e (.s 4) = ptrTo g.next ∧ ev e (.s 8) = ptrTo g2.next ∧ ev e (.s 6) = .string ⟨#[]⟩ ∧ ev e (.s 7) = .int .i64 (aErr n s) ∧ ev e (.s 9) = .int .i64 0))
      (fun e g' lo => g.next ≤ lo ∧ (g'.get g.next = cellsOb [.int .i64 0, .int .i64 0, .int .i64 0] 38 ∧ g'.get g2.next = cellsOb [.int .i64 0, .int .i64 0, .int .i64 0] 38 ∧ g2.next < g'.next) ∧ (ev e (.s 4) = ptrTo g.next ∧ ev e (.s 8) = ptrTo g2.next ∧ ev e (.s 7) = .int .i64 (aErr n s))) (n := 0) ?_ ?_ ?_
    · refine ⟨by first | exact Nat.le_refl _ | omega, ⟨?_, ?_, ?_⟩, (by simp +decide (disch := first | assumption | (apply GH.ok_push; assumption) | exact cellV_int _ _ | exact cellV_bool _ | omega) only [go_sem, ↓reduceIte, Nat.reduceEqDiff, Nat.reduceAdd, Int.reduceToNat]; first | done | exact rfl)⟩
      · refine Eq.trans ?_ hr4
        exact (by simp (disch := first | assumption | exact cellV_int _ _ | exact cellV_bool _ | omega | (simp only [GH.pn, GH.sn] <;> omega) | (with_reducible ((repeat (first | apply GH.ok_push | apply GH.ok_set)); assumption)) | ((try simp only [GH.push_hid, GH.set_hid]); first | assumption | (refine GH.vis ?_ ?_ <;> first | assumption | ((try simp only [GH.pn, GH.sn]) <;> omega)))) only [↓GH.gp_eq, ↓GH.gp_ne, ↓GH.gs_eq, ↓GH.gs_ne, GH.push_next, GH.set_next]; first | done | exact rfl)
      · exact (by simp (disch := first | assumption | exact cellV_int _ _ | exact cellV_bool _ | omega | (simp only [GH.pn, GH.sn] <;> omega) | (with_reducible ((repeat (first | apply GH.ok_push | apply GH.ok_set)); assumption)) | ((try simp only [GH.push_hid, GH.set_hid]); first | assumption | (refine GH.vis ?_ ?_ <;> first | assumption | ((try simp only [GH.pn, GH.sn]) <;> omega)))) only [↓GH.gp_eq, ↓GH.gp_ne, ↓GH.gs_eq, ↓GH.gs_ne, GH.push_next, GH.set_next]; first | done | exact rfl)
      · simp only [GH.push_next]; omega
    · rintro e g' lo ho' - ⟨hlo, ⟨a1, a2, a3⟩, he⟩
      have v1 := GH.seen a1 Nat.one_ne_zero
      have v2 := GH.seen a2 Nat.one_ne_zero
      have hn4 : g.next < g'.next := by omega
      simp +decide (disch := first | assumption | exact cellV_int _ _ | exact cellV_bool _ | omega | (simp only [GH.pn, GH.sn] <;> omega) | (with_reducible ((repeat (first | apply GH.ok_push | apply GH.ok_set)); assumption)) | ((try simp only [GH.push_hid, GH.set_hid]); first | assumption | (refine GH.vis ?_ ?_ <;> first | assumption | ((try simp only [GH.pn, GH.sn]) <;> omega)))) only [go_sem, ↓reduceIte, Nat.reduceEqDiff, Nat.reduceAdd, Int.reduceToNat, Int.reduceAdd, Int.reduceNeg, Int.reduceSub, Int.reduceMul, Int.reduceLT, Int.reduceLE, Int.reduceEq, ↓GH.gp_eq, ↓GH.gp_ne, ↓GH.gs_eq, ↓GH.gs_ne, GH.push_next, GH.set_next, he, a1, a2]
      intro hx
      exact ⟨by omega, hcv.symm⟩
    · rintro m e g' lo ho' hl' ih out ⟨hlo, ⟨b1, b2, b4⟩, he⟩
      simp +decide (disch := first | assumption | exact cellV_int _ _ | exact cellV_bool _ | omega | (simp only [GH.pn, GH.sn] <;> omega) | (with_reducible ((repeat (first | apply GH.ok_push | apply GH.ok_set)); assumption)) | ((try simp only [GH.push_hid, GH.set_hid]); first | assumption | (refine GH.vis ?_ ?_ <;> first | assumption | ((try simp only [GH.pn, GH.sn]) <;> omega)))) only [go_sem, ↓reduceIte, Nat.reduceEqDiff, Nat.reduceAdd, Int.reduceToNat, Int.reduceAdd, Int.reduceNeg, Int.reduceSub, Int.reduceMul, Int.reduceLT, Int.reduceLE, Int.reduceEq, ↓GH.gp_eq, ↓GH.gp_ne, ↓GH.gs_eq, ↓GH.gs_ne, GH.push_next, GH.set_next, he, hsz0]
      exact out _ _ _ ⟨hlo, ⟨b1, b2, b4⟩, (by simp +decide (disch := first | assumption | (apply GH.ok_push; assumption) | exact cellV_int _ _ | exact cellV_bool _ | omega) only [go_sem, ↓reduceIte, Nat.reduceEqDiff, Nat.reduceAdd, Int.reduceToNat, he]; first | done | exact rfl)⟩
theorem countV_form (n : Int) (s : ByteArray) : ∃ a b c e, countV n s = .tuple #[.agg #[.int .i64 a, .int .i64 b, .int .i64 c], .int .i64 e] := by
  unfold countV
  split <;> exact ⟨_, _, _, _, rfl⟩
theorem daysV_form (n : Int) (s : ByteArray) : ∃ a e, daysV n s = .tuple #[.string a, .int .i64 e] := by
  unfold daysV
  split <;> exact ⟨_, _, rfl⟩
end Go.Proofs.Ytgnnhenbmnopaaa
set_option maxRecDepth 100000
set_option maxHeartbeats 8000000
set_option linter.unusedSimpArgs false
set_option linter.unusedVariables false
namespace Go.Proofs.Ytgnnhenbmnopaaa
open Go.Ds Go.Aw
theorem txt_app (a b : List Nat) : Try.txt a ++ Try.txt b = Try.txt (a ++ b) := by
  unfold Try.txt
  rw [List.map_append]
  apply ByteArray.ext
  simp
theorem Wd.app {a b : List Nat} (ha : Wd a) (hb : Wd b) (h : a.length + b.length ≤ 200) : Wd (a ++ b) where
  dig := by
    intro d hd
    rcases List.mem_append.1 hd with h | h
    · exact ha.dig d h
    · exact hb.dig d h
  ne := by
    intro e
    exact ha.ne (List.append_eq_nil_iff.1 e).1
  len := by rw [List.length_append]; exact h
def apE (n : Int) (l r : ByteArray) : Int := if werr l = 0 then (if werr r = 0 then (if daysE n = 0 then (if 200 < l.size + r.size then 3 else 0) else daysE n) else werr r) else werr l
theorem apartErr_rets {X : Caller} (hX : Xfr X) (l r : ByteArray) (n : Int) (g : GH) : Rets Try.prog X 51 [.string l, .string r, .int .i64 n] g (fun v g' lo => g.next ≤ lo ∧ v = .int .i64 (apE n l r)) := by
  refine Rets.run hX.pres p51 (hX.free 51 (by decide) _ _) rfl fun ho => ?_
  simp +decide (disch := first | assumption | (apply GH.ok_push; assumption) | exact cellV_int _ _ | exact cellV_bool _ | omega) only [go_sem, ↓reduceIte, Nat.reduceEqDiff, Nat.reduceAdd, Int.reduceToNat]
  refine CallD.calm (wordErr_rets hX l _) ?_
  rintro v g1 hx1 rfl
  have hn1 := hx1.next
  by_cases h1 : werr l = 0
  · simp +decide (disch := first | assumption | (apply GH.ok_push; assumption) | exact cellV_int _ _ | exact cellV_bool _ | omega) only [go_sem, ↓reduceIte, Nat.reduceEqDiff, Nat.reduceAdd, Int.reduceToNat, h1]
    refine CallD.calm (wordErr_rets hX r _) ?_
    rintro v g2 hx2 rfl
    have hn2 := hx2.next
    by_cases h2 : werr r = 0
    · simp +decide (disch := first | assumption | (apply GH.ok_push; assumption) | exact cellV_int _ _ | exact cellV_bool _ | omega) only [go_sem, ↓reduceIte, Nat.reduceEqDiff, Nat.reduceAdd, Int.reduceToNat, h2]
      refine CallD.calm (daysErr_rets hX n _) ?_
      rintro v g3 hx3 ⟨rfl, rfl⟩
      have hl : l.size ≤ 200 := (Go.Proofs.werr_zero h1).1
      have hr : r.size ≤ 200 := (Go.Proofs.werr_zero h2).1
      by_cases h3 : daysE n = 0
      · by_cases h4 : 200 < l.size + r.size
        · have h4' : (l.size : Int) + r.size > 200 := by omega
          simp +decide (disch := first | assumption | (apply GH.ok_push; assumption) | exact cellV_int _ _ | exact cellV_bool _ | omega) only [go_sem, ↓reduceIte, Nat.reduceEqDiff, Nat.reduceAdd, Int.reduceToNat, h3, h4']
          intro hx
          exact ⟨by first | exact Nat.le_refl _ | omega, by rw [apE, if_pos h1, if_pos h2, if_pos h3, if_pos h4]⟩
        · have h4' : ¬ (l.size : Int) + r.size > 200 := by omega
          simp +decide (disch := first | assumption | (apply GH.ok_push; assumption) | exact cellV_int _ _ | exact cellV_bool _ | omega) only [go_sem, ↓reduceIte, Nat.reduceEqDiff, Nat.reduceAdd, Int.reduceToNat, h3, h4']
          intro hx
          exact ⟨by first | exact Nat.le_refl _ | omega, by rw [apE, if_pos h1, if_pos h2, if_pos h3, if_neg h4]⟩
      · have h3' : ¬ (daysE n = 0) := h3
        simp +decide (disch := first | assumption | (apply GH.ok_push; assumption) | exact cellV_int _ _ | exact cellV_bool _ | omega) only [go_sem, ↓reduceIte, Nat.reduceEqDiff, Nat.reduceAdd, Int.reduceToNat, h3']
        intro hx
        exact ⟨by first | exact Nat.le_refl _ | omega, by rw [apE, if_pos h1, if_pos h2, if_neg h3]⟩
    · have h2' : ¬ (werr r = 0) := h2
      simp +decide (disch := first | assumption | (apply GH.ok_push; assumption) | exact cellV_int _ _ | exact cellV_bool _ | omega) only [go_sem, ↓reduceIte, Nat.reduceEqDiff, Nat.reduceAdd, Int.reduceToNat, h2']
      intro hx
      exact ⟨by first | exact Nat.le_refl _ | omega, by rw [apE, if_pos h1, if_neg h2]⟩
  · have h1' : ¬ (werr l = 0) := h1
    simp +decide (disch := first | assumption | (apply GH.ok_push; assumption) | exact cellV_int _ _ | exact cellV_bool _ | omega) only [go_sem, ↓reduceIte, Nat.reduceEqDiff, Nat.reduceAdd, Int.reduceToNat, h1']
    intro hx
    exact ⟨by first | exact Nat.le_refl _ | omega, by rw [apE, if_neg h1]⟩
/-- Both words are apart on the first days. -/
def ApartL (a b : List Nat) (n : Nat) : Prop := ∀ d, d ≤ n → wd d (a ++ b) = wd d a ++ wd d b
open Classical in
noncomputable def apErr (n : Int) (l r : ByteArray) : Int :=
  if apE n l r = 0 then (if derr n.toNat (digs l) = 0 then (if derr n.toNat (digs r) = 0 then derr n.toNat (digs l ++ digs r) else derr n.toNat (digs r)) else derr n.toNat (digs l)) else apE n l r
open Classical in
noncomputable def apartV (n : Int) (l r : ByteArray) : Value :=
  .tuple #[.bool (decide (apErr n l r = 0 ∧ ApartL (digs l) (digs r) n.toNat)), .int .i64 (apErr n l r)]
theorem apE_zero {n : Int} {l r : ByteArray} (h : apE n l r = 0) : ∃ a b, Wd a ∧ Wd b ∧ l = Try.txt a ∧ r = Try.txt b ∧ daysE n = 0 ∧ a.length + b.length ≤ 200 := by
  unfold apE at h
  split at h
  · rename_i h1
    split at h
    · rename_i h2
      split at h
      · rename_i h3
        split at h
        · cases h
        · rename_i h4
          obtain ⟨a, ha, rfl⟩ := werr_word h1
          obtain ⟨b, hb, rfl⟩ := werr_word h2
          rw [Try.txt_size, Try.txt_size] at h4
          exact ⟨a, b, ha, hb, rfl, rfl, h3, by omega⟩
      · rename_i h3; exact absurd h h3
    · rename_i h2; exact absurd h h2
  · rename_i h1; exact absurd h h1
open Classical in
theorem apartV_err {n : Int} {l r : ByteArray} {e : Int} (h : apErr n l r = e) (he : e ≠ 0) : apartV n l r = .tuple #[.bool false, .int .i64 e] := by
  unfold apartV
  rw [h, decide_eq_false (fun z => he z.1)]
theorem dErr_days {n : Int} {w : List Nat} (h : daysE n = 0) : dErr n w = derr n.toNat w := by unfold dErr; rw [if_pos h]
open Classical in
theorem apart_rets {X : Caller} (hX : Xok X) (l r : ByteArray) (n : Int) (g : GH) : Rets Try.prog X 37 [.string l, .string r, .int .i64 n] g (fun v g' lo => g.next ≤ lo ∧ v = apartV n l r) := by
  refine Rets.run hX.pres p37 (hX.free 37 (by decide) _ _) rfl fun ho => ?_
  simp +decide (disch := first | assumption | (apply GH.ok_push; assumption) | exact cellV_int _ _ | exact cellV_bool _ | omega) only [go_sem, ↓reduceIte, Nat.reduceEqDiff, Nat.reduceAdd, Int.reduceToNat]
  refine CallD.calm (apartErr_rets hX.toXfr l r n _) ?_
  rintro v g1 hx1 rfl
  have hn1 := hx1.next
  have ho1 := hx1.ok ho
  by_cases h1 : apE n l r = 0
  · obtain ⟨a, b, ha, hb, rfl, rfl, hd, hab⟩ := apE_zero h1
    have hE : apErr n (Try.txt a) (Try.txt b) = (if derr n.toNat a = 0 then (if derr n.toNat b = 0 then derr n.toNat (a ++ b) else derr n.toNat b) else derr n.toNat a) := by
      unfold apErr
      rw [if_pos h1, digs_txt ha.dig, digs_txt hb.dig]
    have hn := daysE_of hd
    simp +decide (disch := first | assumption | (apply GH.ok_push; assumption) | exact cellV_int _ _ | exact cellV_bool _ | omega) only [go_sem, ↓reduceIte, Nat.reduceEqDiff, Nat.reduceAdd, Int.reduceToNat, h1]
    refine CallD.calm (diary_rets hX a ha n _) ?_
    rintro v g2 hx2 (⟨he, rfl⟩ | ⟨he, _, u1, rfl, hu1⟩)
    · have hn2 := hx2.next
      have he' : ¬ (dErr n a = 0) := he
      simp +decide (disch := first | assumption | (apply GH.ok_push; assumption) | exact cellV_int _ _ | exact cellV_bool _ | omega) only [go_sem, ↓reduceIte, Nat.reduceEqDiff, Nat.reduceAdd, Int.reduceToNat, he']
      intro hx
      rw [dErr_days hd] at he ⊢
      exact ⟨by omega, (apartV_err (by rw [hE, if_neg he]) he).symm⟩
    · have hn2 := hx2.next
      have ho2 := hx2.ok ho1
      rw [dErr_days hd] at he
      simp +decide (disch := first | assumption | (apply GH.ok_push; assumption) | exact cellV_int _ _ | exact cellV_bool _ | omega) only [go_sem, ↓reduceIte, Nat.reduceEqDiff, Nat.reduceAdd, Int.reduceToNat]
      refine CallD.calm (diary_rets hX b hb n _) ?_
      rintro v g3 hx3 (⟨he2, rfl⟩ | ⟨he2, _, u2, rfl, hu2⟩)
      · have hn3 := hx3.next
        have he' : ¬ (dErr n b = 0) := he2
        simp +decide (disch := first | assumption | (apply GH.ok_push; assumption) | exact cellV_int _ _ | exact cellV_bool _ | omega) only [go_sem, ↓reduceIte, Nat.reduceEqDiff, Nat.reduceAdd, Int.reduceToNat, he']
        intro hx
        rw [dErr_days hd] at he2 ⊢
        exact ⟨by omega, (apartV_err (by rw [hE, if_pos he, if_neg he2]) he2).symm⟩
      · have hn3 := hx3.next
        have ho3 := hx3.ok ho2
        rw [dErr_days hd] at he2
        have hadd : strB .add (Try.txt a) (Try.txt b) = some (.string (Try.txt (a ++ b))) := by rw [str_add (by rw [Try.txt_size, Try.txt_size]; omega), txt_app]
        simp +decide (disch := first | assumption | (apply GH.ok_push; assumption) | exact cellV_int _ _ | exact cellV_bool _ | omega) only [go_sem, ↓reduceIte, Nat.reduceEqDiff, Nat.reduceAdd, Int.reduceToNat, hadd]
        refine CallD.calm (diary_rets hX (a ++ b) (ha.app hb hab) n _) ?_
        rintro v g4 hx4 (⟨he3, rfl⟩ | ⟨he3, _, u3, rfl, hu3⟩)
        · have hn4 := hx4.next
          have he' : ¬ (dErr n (a ++ b) = 0) := he3
          simp +decide (disch := first | assumption | (apply GH.ok_push; assumption) | exact cellV_int _ _ | exact cellV_bool _ | omega) only [go_sem, ↓reduceIte, Nat.reduceEqDiff, Nat.reduceAdd, Int.reduceToNat, he']
          intro hx
          rw [dErr_days hd] at he3 ⊢
          exact ⟨by omega, (apartV_err (by rw [hE, if_pos he, if_pos he2]) he3).symm⟩
        · have hn4 := hx4.next
          have ho4 := hx4.ok ho3
          rw [dErr_days hd] at he3
          have hE0 : apErr n (Try.txt a) (Try.txt b) = 0 := by rw [hE, if_pos he, if_pos he2, he3]
          have k1 := (hu1.kept hx3.kept).kept hx4.kept
          have k2 := hu2.kept hx4.kept
          obtain ⟨k, rfl⟩ : ∃ k : Nat, n = k := ⟨n.toNat, by omega⟩
          simp only [Int.toNat_natCast] at he he2 he3 hu1 hu2 hu3 k1 k2
          have hln := hu3.len
          rw [strsW_len] at hln
          have z1 := derr_zero.1 he
          have z2 := derr_zero.1 he2
          have z3 := derr_zero.1 he3
          simp +decide (disch := first | assumption | (apply GH.ok_push; assumption) | exact cellV_int _ _ | exact cellV_bool _ | omega) only [go_sem, ↓reduceIte, Nat.reduceEqDiff, Nat.reduceAdd, Int.reduceToNat, hln]
          refine Wk.loops (fun m e g' lo => g.next ≤ lo ∧ g' = g4 ∧ ∃ i : Nat, (i ≤ k + 1 ∧ m = k + 1 - i) ∧ (∀ d, d < i → wd d (a ++ b) = wd d a ++ wd d b) ∧ (ev e (.s 9) = u1 ∧ ev e (.s 11) = u2 ∧ ev e (.s 51) = u3 ∧ ev e (.s 52) = .int .i64 ((k : Int) + 1) ∧ ev e (.s 53) = .int .i64 i))
            (fun e g' lo => g.next ≤ lo ∧ ApartL a b k) (n := k + 1) ?_ ?_ ?_
          · exact ⟨by omega, rfl, 0, ⟨Nat.zero_le _, rfl⟩, fun d h => by omega, (by simp +decide (disch := first | assumption | (apply GH.ok_push; assumption) | exact cellV_int _ _ | exact cellV_bool _ | omega) only [go_sem, ↓reduceIte, Nat.reduceEqDiff, Nat.reduceAdd, Int.reduceToNat]; first | done | exact rfl)⟩
          · rintro e g' lo - - ⟨hlo, hap⟩
            simp +decide (disch := first | assumption | (apply GH.ok_push; assumption) | exact cellV_int _ _ | exact cellV_bool _ | omega) only [go_sem, ↓reduceIte, Nat.reduceEqDiff, Nat.reduceAdd, Int.reduceToNat]
            intro hx
            refine ⟨hlo, ?_⟩
            unfold apartV
            rw [hE0, decide_eq_true ⟨rfl, by rw [digs_txt ha.dig, digs_txt hb.dig]; exact hap⟩]
          · rintro m e g' lo ho' hl' ih out ⟨hlo, rfl, i, ⟨hi, hm⟩, hp, he⟩
            by_cases c : i < k + 1
            · have c' : (i : Int) < (k : Int) + 1 := by omega
              have y1 := fun j (hj : j < i) => z1 j (by omega)
              have y2 := fun j (hj : j < i) => z2 j (by omega)
              have y3 := fun j (hj : j < i) => z3 j (by omega)
              have d1 := wd_dig ha.dig y1
              have d2 := wd_dig hb.dig y2
              have d3 := wd_dig (ha.app hb hab).dig y3
              have l1 := wd_len ha.len y1
              have l2 := wd_len hb.len y2
              obtain ⟨j1, o1, hj1, p1, q1⟩ := k1.ptr (strsW_get a c)
              obtain ⟨j2, o2, hj2, p2, q2⟩ := k2.ptr (strsW_get b c)
              obtain ⟨j3, o3, hj3, p3, q3⟩ := hu3.ptr (strsW_get (a ++ b) c)
              have p1 := p1 (i : Int) rfl
              have p2 := p2 (i : Int) rfl
              have p3 := p3 (i : Int) rfl
              have hadd2 : strB .add (Try.txt (wd i a)) (Try.txt (wd i b)) = some (.string (Try.txt (wd i a ++ wd i b))) := by rw [str_add (by rw [Try.txt_size, Try.txt_size]; omega), txt_app]
              have dd : Dig (wd i a ++ wd i b) := fun d hd => by
                rcases List.mem_append.1 hd with h | h
                · exact d1 d h
                · exact d2 d h
              by_cases cc : wd i (a ++ b) = wd i a ++ wd i b
              · have cc' : decide (Try.txt (wd i (a ++ b)) = Try.txt (wd i a ++ wd i b)) = true := decide_eq_true (by rw [cc])
                simp +decide (disch := first | assumption | exact cellV_int _ _ | exact cellV_bool _ | omega | (simp only [GH.pn, GH.sn] <;> omega) | (with_reducible ((repeat (first | apply GH.ok_push | apply GH.ok_set)); assumption)) | ((try simp only [GH.push_hid, GH.set_hid]); first | assumption | (refine GH.vis ?_ ?_ <;> first | assumption | ((try simp only [GH.pn, GH.sn]) <;> omega)))) only [go_sem, ↓reduceIte, Nat.reduceEqDiff, Nat.reduceAdd, Int.reduceToNat, Int.reduceAdd, Int.reduceNeg, Int.reduceSub, Int.reduceMul, Int.reduceLT, Int.reduceLE, Int.reduceEq, ↓GH.gp_eq, ↓GH.gp_ne, ↓GH.gs_eq, ↓GH.gs_ne, GH.push_next, GH.set_next, he, c', p1, q1, p2, q2, p3, q3, hadd2, cc']
                refine ih (m - 1) _ _ _ (by omega) ⟨hlo, rfl, i + 1, ⟨by omega, by omega⟩, fun d hd => ?_, (by simp +decide (disch := first | assumption | (apply GH.ok_push; assumption) | exact cellV_int _ _ | exact cellV_bool _ | omega) only [go_sem, ↓reduceIte, Nat.reduceEqDiff, Nat.reduceAdd, Int.reduceToNat, he]; first | done | exact rfl)⟩
                rcases Nat.lt_or_ge d i with z | z
                · exact hp d z
                · obtain rfl : d = i := by omega
                  exact cc
              · have cc' : decide (Try.txt (wd i (a ++ b)) = Try.txt (wd i a ++ wd i b)) = false := decide_eq_false (fun z => cc ((txt_inj d3 dd).1 z))
                simp +decide (disch := first | assumption | exact cellV_int _ _ | exact cellV_bool _ | omega | (simp only [GH.pn, GH.sn] <;> omega) | (with_reducible ((repeat (first | apply GH.ok_push | apply GH.ok_set)); assumption)) | ((try simp only [GH.push_hid, GH.set_hid]); first | assumption | (refine GH.vis ?_ ?_ <;> first | assumption | ((try simp only [GH.pn, GH.sn]) <;> omega)))) only [go_sem, ↓reduceIte, Nat.reduceEqDiff, Nat.reduceAdd, Int.reduceToNat, Int.reduceAdd, Int.reduceNeg, Int.reduceSub, Int.reduceMul, Int.reduceLT, Int.reduceLE, Int.reduceEq, ↓GH.gp_eq, ↓GH.gp_ne, ↓GH.gs_eq, ↓GH.gs_ne, GH.push_next, GH.set_next, he, c', p1, q1, p2, q2, p3, q3, hadd2, cc']
                intro hx
                refine ⟨hlo, ?_⟩
                unfold apartV
                rw [hE0, decide_eq_false (fun z => cc (by have := z.2; rw [digs_txt ha.dig, digs_txt hb.dig] at this; exact this i (by simp; omega)))]
            · have c' : ¬ (i : Int) < (k : Int) + 1 := by omega
              simp +decide (disch := first | assumption | exact cellV_int _ _ | exact cellV_bool _ | omega | (simp only [GH.pn, GH.sn] <;> omega) | (with_reducible ((repeat (first | apply GH.ok_push | apply GH.ok_set)); assumption)) | ((try simp only [GH.push_hid, GH.set_hid]); first | assumption | (refine GH.vis ?_ ?_ <;> first | assumption | ((try simp only [GH.pn, GH.sn]) <;> omega)))) only [go_sem, ↓reduceIte, Nat.reduceEqDiff, Nat.reduceAdd, Int.reduceToNat, Int.reduceAdd, Int.reduceNeg, Int.reduceSub, Int.reduceMul, Int.reduceLT, Int.reduceLE, Int.reduceEq, ↓GH.gp_eq, ↓GH.gp_ne, ↓GH.gs_eq, ↓GH.gs_ne, GH.push_next, GH.set_next, he, c']
              exact out _ _ _ ⟨hlo, fun d hd => hp d (by omega)⟩
  · have h1' : ¬ (apE n l r = 0) := h1
    simp +decide (disch := first | assumption | (apply GH.ok_push; assumption) | exact cellV_int _ _ | exact cellV_bool _ | omega) only [go_sem, ↓reduceIte, Nat.reduceEqDiff, Nat.reduceAdd, Int.reduceToNat, h1']
    intro hx
    refine ⟨by omega, (apartV_err ?_ h1).symm⟩
    unfold apErr
    rw [if_neg h1]
end Go.Proofs.Ytgnnhenbmnopaaa
set_option maxRecDepth 100000
set_option maxHeartbeats 8000000
set_option linter.unusedSimpArgs false
set_option linter.unusedVariables false
namespace Go.Proofs.Ytgnnhenbmnopaaa
open Go.Ds Go.Aw
theorem aErr_dd {n : Int} {a : List Nat} (ha : Wd a) (hd : daysE n = 0) : aErr n (Try.txt a) = derr n.toNat a := by rw [aErr_word ha, dErr_days hd]
open Classical in
theorem refApart_rets {X : Caller} (hX : Xok X) (l r : ByteArray) (n : Int) (g : GH) : Rets Try.prog X 38 [.string l, .string r, .int .i64 n] g (fun v g' lo => g.next ≤ lo ∧ v = apartV n l r) := by
  refine Rets.run hX.pres p38 (hX.free 38 (by decide) _ _) rfl fun ho => ?_
  simp +decide (disch := first | assumption | (apply GH.ok_push; assumption) | exact cellV_int _ _ | exact cellV_bool _ | omega) only [go_sem, ↓reduceIte, Nat.reduceEqDiff, Nat.reduceAdd, Int.reduceToNat]
  refine CallD.calm (refWord_rets hX.toXfr l _) ?_
  rintro v g0 hx0 ⟨rfl, rfl⟩
  by_cases w1 : werr l = 0
  · simp +decide (disch := first | assumption | (apply GH.ok_push; assumption) | exact cellV_int _ _ | exact cellV_bool _ | omega) only [go_sem, ↓reduceIte, Nat.reduceEqDiff, Nat.reduceAdd, Int.reduceToNat, w1]
    refine CallD.calm (refWord_rets hX.toXfr r _) ?_
    rintro v g1 hx1 ⟨rfl, rfl⟩
    by_cases w2 : werr r = 0
    · obtain ⟨a, ha, rfl⟩ := werr_word w1
      obtain ⟨b, hb, rfl⟩ := werr_word w2
      have hla := ha.len
      have hlb := hb.len
      have sa := Try.txt_size a
      have sb := Try.txt_size b
      by_cases dn : n < 0
      · have hE : apE n (Try.txt a) (Try.txt b) = 2 := by
          have e : daysE n = 2 := by unfold daysE; rw [if_pos (.inl dn)]
          unfold apE; rw [if_pos w1, if_pos w2, e, if_neg (by decide)]
        have hE2 : apErr n (Try.txt a) (Try.txt b) = 2 := by unfold apErr; rw [hE, if_neg (by decide)]
        simp +decide (disch := first | assumption | (apply GH.ok_push; assumption) | exact cellV_int _ _ | exact cellV_bool _ | omega) only [go_sem, ↓reduceIte, Nat.reduceEqDiff, Nat.reduceAdd, Int.reduceToNat, w2, dn]
        intro hx
        exact ⟨by first | exact Nat.le_refl _ | omega, (apartV_err hE2 (by decide)).symm⟩
      · by_cases dn2 : n > 40
        · have hE : apE n (Try.txt a) (Try.txt b) = 2 := by
            have e : daysE n = 2 := by unfold daysE; rw [if_pos (.inr dn2)]
            unfold apE; rw [if_pos w1, if_pos w2, e, if_neg (by decide)]
          have hE2 : apErr n (Try.txt a) (Try.txt b) = 2 := by unfold apErr; rw [hE, if_neg (by decide)]
          simp +decide (disch := first | assumption | (apply GH.ok_push; assumption) | exact cellV_int _ _ | exact cellV_bool _ | omega) only [go_sem, ↓reduceIte, Nat.reduceEqDiff, Nat.reduceAdd, Int.reduceToNat, w2, dn, dn2]
          intro hx
          exact ⟨by first | exact Nat.le_refl _ | omega, (apartV_err hE2 (by decide)).symm⟩
        · have hd : daysE n = 0 := by unfold daysE; rw [if_neg (by omega)]
          by_cases hab : a.length + b.length ≤ 200
          · have hab' : ¬ ((a.length : Int) + b.length > 200) := by omega
            have h1 : apE n (Try.txt a) (Try.txt b) = 0 := by
              unfold apE; rw [if_pos w1, if_pos w2, if_pos hd, if_neg (by rw [sa, sb]; omega)]
            have hE : apErr n (Try.txt a) (Try.txt b) = (if derr n.toNat a = 0 then (if derr n.toNat b = 0 then derr n.toNat (a ++ b) else derr n.toNat b) else derr n.toNat a) := by
              unfold apErr
              rw [if_pos h1, digs_txt ha.dig, digs_txt hb.dig]
            have hn := daysE_of hd
            simp +decide (disch := first | assumption | (apply GH.ok_push; assumption) | exact cellV_int _ _ | exact cellV_bool _ | omega) only [go_sem, ↓reduceIte, Nat.reduceEqDiff, Nat.reduceAdd, Int.reduceToNat, w2, dn, dn2, sa, sb, hab']
            refine CallD.calm (refAll_rets hX.toXfr (Try.txt a) n _) ?_
            rintro v g2 hx2 (⟨he, rfl⟩ | ⟨he, _, _, u1, rfl, hu1⟩)
            · have hn2 := hx2.next
              have he' : ¬ (aErr n (Try.txt a) = 0) := he
              simp +decide (disch := first | assumption | (apply GH.ok_push; assumption) | exact cellV_int _ _ | exact cellV_bool _ | omega) only [go_sem, ↓reduceIte, Nat.reduceEqDiff, Nat.reduceAdd, Int.reduceToNat, he']
              intro hx
              rw [aErr_dd ha hd] at he ⊢
              exact ⟨by first | exact Nat.le_refl _ | omega, (apartV_err (by rw [hE, if_neg he]) he).symm⟩
            · have hn2 := hx2.next
              have ho2 := hx2.ok ho
              rw [aErr_dd ha hd] at he
              rw [digs_txt ha.dig] at hu1
              simp +decide (disch := first | assumption | (apply GH.ok_push; assumption) | exact cellV_int _ _ | exact cellV_bool _ | omega) only [go_sem, ↓reduceIte, Nat.reduceEqDiff, Nat.reduceAdd, Int.reduceToNat]
              refine CallD.calm (refAll_rets hX.toXfr (Try.txt b) n _) ?_
              rintro v g3 hx3 (⟨he2, rfl⟩ | ⟨he2, _, _, u2, rfl, hu2⟩)
              · have hn3 := hx3.next
                have he' : ¬ (aErr n (Try.txt b) = 0) := he2
                simp +decide (disch := first | assumption | (apply GH.ok_push; assumption) | exact cellV_int _ _ | exact cellV_bool _ | omega) only [go_sem, ↓reduceIte, Nat.reduceEqDiff, Nat.reduceAdd, Int.reduceToNat, he']
                intro hx
                rw [aErr_dd hb hd] at he2 ⊢
                exact ⟨by first | exact Nat.le_refl _ | omega, (apartV_err (by rw [hE, if_pos he, if_neg he2]) he2).symm⟩
              · have hn3 := hx3.next
                have ho3 := hx3.ok ho2
                rw [aErr_dd hb hd] at he2
                rw [digs_txt hb.dig] at hu2
                have hadd : strB .add (Try.txt a) (Try.txt b) = some (.string (Try.txt (a ++ b))) := by rw [str_add (by rw [Try.txt_size, Try.txt_size]; omega), txt_app]
                simp +decide (disch := first | assumption | (apply GH.ok_push; assumption) | exact cellV_int _ _ | exact cellV_bool _ | omega) only [go_sem, ↓reduceIte, Nat.reduceEqDiff, Nat.reduceAdd, Int.reduceToNat, hadd]
                refine CallD.calm (refAll_rets hX.toXfr (Try.txt (a ++ b)) n _) ?_
                rintro v g4 hx4 (⟨he3, rfl⟩ | ⟨he3, _, _, u3, rfl, hu3⟩)
                · have hn4 := hx4.next
                  have he' : ¬ (aErr n (Try.txt (a ++ b)) = 0) := he3
                  simp +decide (disch := first | assumption | (apply GH.ok_push; assumption) | exact cellV_int _ _ | exact cellV_bool _ | omega) only [go_sem, ↓reduceIte, Nat.reduceEqDiff, Nat.reduceAdd, Int.reduceToNat, he']
                  intro hx
                  rw [aErr_dd (ha.app hb hab) hd] at he3 ⊢
                  exact ⟨by first | exact Nat.le_refl _ | omega, (apartV_err (by rw [hE, if_pos he, if_pos he2]) he3).symm⟩
                · have hn4 := hx4.next
                  have ho4 := hx4.ok ho3
                  rw [aErr_dd (ha.app hb hab) hd] at he3
                  rw [digs_txt (ha.app hb hab).dig] at hu3
                  have hE0 : apErr n (Try.txt a) (Try.txt b) = 0 := by rw [hE, if_pos he, if_pos he2, he3]
                  have k1 := (hu1.kept hx3.kept).kept hx4.kept
                  have k2 := hu2.kept hx4.kept
                  obtain ⟨k, rfl⟩ : ∃ k : Nat, n = k := ⟨n.toNat, by omega⟩
                  simp only [Int.toNat_natCast] at he he2 he3 hu1 hu2 hu3 k1 k2
                  have z1 := derr_zero.1 he
                  have z2 := derr_zero.1 he2
                  have z3 := derr_zero.1 he3
                  simp +decide (disch := first | assumption | (apply GH.ok_push; assumption) | exact cellV_int _ _ | exact cellV_bool _ | omega) only [go_sem, ↓reduceIte, Nat.reduceEqDiff, Nat.reduceAdd, Int.reduceToNat]
                  refine Wk.loops (fun m e g' lo => g1.next ≤ lo ∧ g' = g4 ∧ ∃ i : Nat, (i ≤ k + 1 ∧ m = k + 1 - i) ∧ (∀ d, d < i → wd d (a ++ b) = wd d a ++ wd d b) ∧ (ev e (.s 9) = u1 ∧ ev e (.s 10) = u2 ∧ ev e (.s 11) = u3 ∧ ev e (.s 2) = .int .i64 (k : Int) ∧ ev e (.s 12) = .int .i64 i))
                    (fun e g' lo => g1.next ≤ lo ∧ ApartL a b k) (n := k + 1) ?_ ?_ ?_
                  · exact ⟨by first | exact Nat.le_refl _ | omega, rfl, 0, ⟨Nat.zero_le _, rfl⟩, fun d h => by omega, (by simp +decide (disch := first | assumption | (apply GH.ok_push; assumption) | exact cellV_int _ _ | exact cellV_bool _ | omega) only [go_sem, ↓reduceIte, Nat.reduceEqDiff, Nat.reduceAdd, Int.reduceToNat]; first | done | exact rfl)⟩
                  · rintro e g' lo - - ⟨hlo, hap⟩
                    simp +decide (disch := first | assumption | (apply GH.ok_push; assumption) | exact cellV_int _ _ | exact cellV_bool _ | omega) only [go_sem, ↓reduceIte, Nat.reduceEqDiff, Nat.reduceAdd, Int.reduceToNat]
                    intro hx
                    refine ⟨hlo, ?_⟩
                    unfold apartV
                    rw [hE0, decide_eq_true ⟨rfl, by rw [digs_txt ha.dig, digs_txt hb.dig]; exact hap⟩]
                  · rintro m e g' lo ho' hl' ih out ⟨hlo, rfl, i, ⟨hi, hm⟩, hp, he⟩
                    by_cases c : i < k + 1
                    · have c' : (i : Int) ≤ (k : Int) := by omega
                      have y1 := fun j (hj : j < i) => z1 j (by omega)
                      have y2 := fun j (hj : j < i) => z2 j (by omega)
                      have y3 := fun j (hj : j < i) => z3 j (by omega)
                      have d1 := wd_dig ha.dig y1
                      have d2 := wd_dig hb.dig y2
                      have d3 := wd_dig (ha.app hb hab).dig y3
                      have l1 := wd_len ha.len y1
                      have l2 := wd_len hb.len y2
                      obtain ⟨j1, o1, hj1, p1, q1⟩ := k1.ptr (strsW_get a c)
                      obtain ⟨j2, o2, hj2, p2, q2⟩ := k2.ptr (strsW_get b c)
                      obtain ⟨j3, o3, hj3, p3, q3⟩ := hu3.ptr (strsW_get (a ++ b) c)
                      have p1 := p1 (i : Int) rfl
                      have p2 := p2 (i : Int) rfl
                      have p3 := p3 (i : Int) rfl
                      have hadd2 : strB .add (Try.txt (wd i a)) (Try.txt (wd i b)) = some (.string (Try.txt (wd i a ++ wd i b))) := by rw [str_add (by rw [Try.txt_size, Try.txt_size]; omega), txt_app]
                      have dd : Dig (wd i a ++ wd i b) := fun d hd => by
                        rcases List.mem_append.1 hd with h | h
                        · exact d1 d h
                        · exact d2 d h
                      by_cases cc : wd i (a ++ b) = wd i a ++ wd i b
                      · have cc' : decide (Try.txt (wd i (a ++ b)) = Try.txt (wd i a ++ wd i b)) = true := decide_eq_true (by rw [cc])
                        simp +decide (disch := first | assumption | exact cellV_int _ _ | exact cellV_bool _ | omega | (simp only [GH.pn, GH.sn] <;> omega) | (with_reducible ((repeat (first | apply GH.ok_push | apply GH.ok_set)); assumption)) | ((try simp only [GH.push_hid, GH.set_hid]); first | assumption | (refine GH.vis ?_ ?_ <;> first | assumption | ((try simp only [GH.pn, GH.sn]) <;> omega)))) only [go_sem, ↓reduceIte, Nat.reduceEqDiff, Nat.reduceAdd, Int.reduceToNat, Int.reduceAdd, Int.reduceNeg, Int.reduceSub, Int.reduceMul, Int.reduceLT, Int.reduceLE, Int.reduceEq, ↓GH.gp_eq, ↓GH.gp_ne, ↓GH.gs_eq, ↓GH.gs_ne, GH.push_next, GH.set_next, he, c', p1, q1, p2, q2, p3, q3, hadd2, cc']
                        refine ih (m - 1) _ _ _ (by omega) ⟨hlo, rfl, i + 1, ⟨by omega, by omega⟩, fun d hd => ?_, (by simp +decide (disch := first | assumption | (apply GH.ok_push; assumption) | exact cellV_int _ _ | exact cellV_bool _ | omega) only [go_sem, ↓reduceIte, Nat.reduceEqDiff, Nat.reduceAdd, Int.reduceToNat, he]; first | done | exact rfl)⟩
                        rcases Nat.lt_or_ge d i with z | z
                        · exact hp d z
                        · obtain rfl : d = i := by omega
                          exact cc
                      · have cc' : decide (Try.txt (wd i (a ++ b)) = Try.txt (wd i a ++ wd i b)) = false := decide_eq_false (fun z => cc ((txt_inj d3 dd).1 z))
                        simp +decide (disch := first | assumption | exact cellV_int _ _ | exact cellV_bool _ | omega | (simp only [GH.pn, GH.sn] <;> omega) | (with_reducible ((repeat (first | apply GH.ok_push | apply GH.ok_set)); assumption)) | ((try simp only [GH.push_hid, GH.set_hid]); first | assumption | (refine GH.vis ?_ ?_ <;> first | assumption | ((try simp only [GH.pn, GH.sn]) <;> omega)))) only [go_sem, ↓reduceIte, Nat.reduceEqDiff, Nat.reduceAdd, Int.reduceToNat, Int.reduceAdd, Int.reduceNeg, Int.reduceSub, Int.reduceMul, Int.reduceLT, Int.reduceLE, Int.reduceEq, ↓GH.gp_eq, ↓GH.gp_ne, ↓GH.gs_eq, ↓GH.gs_ne, GH.push_next, GH.set_next, he, c', p1, q1, p2, q2, p3, q3, hadd2, cc']
                        intro hx
                        refine ⟨hlo, ?_⟩
                        unfold apartV
                        rw [hE0, decide_eq_false (fun z => cc (by have := z.2; rw [digs_txt ha.dig, digs_txt hb.dig] at this; exact this i (by simp; omega)))]
                    · have c' : ¬ (i : Int) ≤ (k : Int) := by omega
                      simp +decide (disch := first | assumption | exact cellV_int _ _ | exact cellV_bool _ | omega | (simp only [GH.pn, GH.sn] <;> omega) | (with_reducible ((repeat (first | apply GH.ok_push | apply GH.ok_set)); assumption)) | ((try simp only [GH.push_hid, GH.set_hid]); first | assumption | (refine GH.vis ?_ ?_ <;> first | assumption | ((try simp only [GH.pn, GH.sn]) <;> omega)))) only [go_sem, ↓reduceIte, Nat.reduceEqDiff, Nat.reduceAdd, Int.reduceToNat, Int.reduceAdd, Int.reduceNeg, Int.reduceSub, Int.reduceMul, Int.reduceLT, Int.reduceLE, Int.reduceEq, ↓GH.gp_eq, ↓GH.gp_ne, ↓GH.gs_eq, ↓GH.gs_ne, GH.push_next, GH.set_next, he, c']
                      exact out _ _ _ ⟨hlo, fun d hd => hp d (by omega)⟩
          · have hab' : ((a.length : Int) + b.length > 200) := by omega
            have hE : apE n (Try.txt a) (Try.txt b) = 3 := by
              unfold apE; rw [if_pos w1, if_pos w2, if_pos hd, if_pos (by rw [sa, sb]; omega)]
            have hE2 : apErr n (Try.txt a) (Try.txt b) = 3 := by unfold apErr; rw [hE, if_neg (by decide)]
            simp +decide (disch := first | assumption | (apply GH.ok_push; assumption) | exact cellV_int _ _ | exact cellV_bool _ | omega) only [go_sem, ↓reduceIte, Nat.reduceEqDiff, Nat.reduceAdd, Int.reduceToNat, w2, dn, dn2, sa, sb, hab']
            intro hx
            exact ⟨by first | exact Nat.le_refl _ | omega, (apartV_err hE2 (by decide)).symm⟩
    · have w2' : ¬ (werr r = 0) := w2
      have hE : apE n l r = werr r := by unfold apE; rw [if_pos w1, if_neg w2]
      have hE2 : apErr n l r = werr r := by unfold apErr; rw [hE, if_neg w2]
      simp +decide (disch := first | assumption | (apply GH.ok_push; assumption) | exact cellV_int _ _ | exact cellV_bool _ | omega) only [go_sem, ↓reduceIte, Nat.reduceEqDiff, Nat.reduceAdd, Int.reduceToNat, w2']
      intro hx
      exact ⟨by first | exact Nat.le_refl _ | omega, (apartV_err hE2 w2).symm⟩
  · have w1' : ¬ (werr l = 0) := w1
    have hE : apE n l r = werr l := by unfold apE; rw [if_neg w1]
    have hE2 : apErr n l r = werr l := by unfold apErr; rw [hE, if_neg w1]
    simp +decide (disch := first | assumption | (apply GH.ok_push; assumption) | exact cellV_int _ _ | exact cellV_bool _ | omega) only [go_sem, ↓reduceIte, Nat.reduceEqDiff, Nat.reduceAdd, Int.reduceToNat, w1']
    intro hx
    exact ⟨by first | exact Nat.le_refl _ | omega, (apartV_err hE2 w1).symm⟩
theorem apartV_form (n : Int) (l r : ByteArray) : ∃ a e, apartV n l r = .tuple #[.bool a, .int .i64 e] := ⟨_, _, rfl⟩
end Go.Proofs.Ytgnnhenbmnopaaa
