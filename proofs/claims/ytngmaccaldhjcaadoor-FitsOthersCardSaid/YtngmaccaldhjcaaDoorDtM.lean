import Derived.Test.YtngmaccaldhjcaaDoorDtL
set_option linter.all false
set_option linter.unusedSimpArgs false
set_option linter.unnecessarySimpa false
set_option linter.unusedVariables false
set_option linter.unusedSectionVars false
set_option linter.unusedSectionVars false
set_option linter.unusedVariables false
namespace Go.Ds
section
variable {P : Program} {X : Caller} {Q : Out → Env → GH → Nat → Prop} {dd : Option P3} {l : List PI} {k : Nat} {sp : List (Nat × (Nat × Nat))} {wr : List Nat} {ks : List Fr} {e : Env} {g : GH} {lo : Nat}
/-- Nothing is appended. -/
theorem AppD.none {t : TypeId} {b n c : Nat} {base : Option Addr} {xv : Value} (hnew : SlR g xv []) (hsz : n * (b + 1) ≤ 1073741824)
    (h : Wk P X Q (.R l (k + 1) ((k, (g.next, g.next)) :: sp) wr ks (putE e dd (.slice base n c)) g lo)) : AppD P X Q t 1 b (.slice base n c) xv [] dd l k sp wr ks e g lo := fun y z hy hz => by
  have hlen : lenF xv = some 0 := by
    rcases hnew with ⟨rfl, _⟩ | ⟨j, off, cap, ob, rfl, _⟩ <;> rfl
  have hstr : strOk 1 xv = true := by
    rcases hnew with ⟨rfl, _⟩ | ⟨j, off, cap, ob, rfl, _⟩ <;> rfl
  refine GR.same rfl (Hp.mk (bnd 0) fun call => ?_) h.R
  simp only [runH, hy, hz, hstr, cond_true, appF, hlen, Nat.add_zero]
  rw [mul_succ_le (by simpa using hsz)]
  rfl
/-- Appending to a full slice of a row that nobody else grows: to new memory. -/
theorem AppD.full {t t' : TypeId} {b j : Nat} {xv : Value} {vs new cells : List Value} {base : Nat} (hj : g.get j = cellsOb cells t') (hcs : cells.take vs.length = vs) (hlc : vs.length ≤ cells.length) (hnew : SlR g xv new) (hne : new ≠ [])
    (hsz : (vs.length + new.length) * (b + 1) ≤ 1073741824) (hb : base ≤ g.next) (hlo : base ≤ lo) (ho : g.ok)
    (h : ∀ s' g' sp wr, Grew g g' s' (vs ++ new) t base lo lo → Kept g g' → Wk P X Q (.R l (k + 1) sp wr ks (putE e dd s') g' lo)) : AppD P X Q t 1 b (.slice (some ⟨j, 0, Option.none⟩) vs.length vs.length) xv [] dd l k sp wr ks e g lo := fun y z hy hz => by
  have hlen : lenF xv = some new.length := by
    rcases hnew with ⟨rfl, rfl⟩ | ⟨j, off, cap, ob, rfl, _⟩ <;> rfl
  have hstr : strOk 1 xv = true := by
    rcases hnew with ⟨rfl, rfl⟩ | ⟨j, off, cap, ob, rfl, _⟩ <;> rfl
  have hfirst : ∀ lo, firstF (g.at lo) 1 new.length xv = some new := by
    intro lo
    rcases hnew with ⟨rfl, rfl⟩ | ⟨j, off, cap, ob, rfl, h2, h3, h4, h5, h6⟩
    · exact absurd rfl hne
    · simp only [firstF, Nat.mul_one]
      have := SlR.readN (cap := cap) (lo := lo) h3 h4 h5 h6 (i := 0) (n := new.length) (by omega)
      rw [Nat.add_zero, List.drop_zero, List.take_length] at this
      exact this
  have hpos : 0 < new.length := List.length_pos_iff.2 hne
  have hz0 : Nat.beq new.length 0 = false := by rw [beq_d, decide_eq_false_iff_not]; omega
  have hbig : vs.length < OPEN := by
    have : vs.length + new.length ≤ 1073741824 := Nat.le_trans (Nat.le_mul_of_pos_right _ (Nat.succ_pos b)) hsz
    unfold OPEN; omega
  let G : GH := ⟨T5.set g.tr g.next (slackOb (vs ++ new) t g.next), Nat.succ g.next, g.hid, T5.set g.fams g.next [(g.next, (vs ++ new).length)]⟩
  refine GR.more (v := .slice (some ⟨g.next, 0, Option.none⟩) (vs.length + new.length) (OPEN + 1)) (g' := G) rfl (Hp.mk (bnd (g.next + 1)) fun call => ?_) rfl (Nat.le_succ _) (h _ G _ _ ?_ ?_).R
  · simp only [runH, hy, hz, hstr, cond_true, appF, hlen]
    rw [mul_succ_le hsz, hz0, hfirst]
    simp only [cond_false]
    rw [show (g.at g.next).get j = cellsOb cells t' from hj]
    unfold cellsOb
    simp only [Nat.mul_one]
    rw [show Nat.beq vs.length (OPEN + 1) = false by rw [beq_d, decide_eq_false_iff_not]; omega, show Nat.blt vs.length OPEN = true by rw [blt_d]; simpa using hbig, show Nat.ble (vs.length + new.length) vs.length = false by rw [ble_d, decide_eq_false_iff_not]; omega]
    simp only [cond_false, Bool.not_true]
    rw [show dropN 0 cells = cells from rfl, takeN_len hlc, hcs]
    simp only [appNew]
    have : Nat.blt (g.at g.next).next (@LIM (bnd (g.next + 1))) = true := by rw [Nat.blt_eq]; exact Nat.lt_succ_self _
    rw [this]
    simp only [cond_true, lenN_length]
    rfl
  · have hget : ∀ i, G.get i = if g.next = i then slackOb (vs ++ new) t g.next else g.get i := GH.get_push ho (slackOb (vs ++ new) t g.next)
    refine ⟨rfl, rfl, fun i hi => ho i (Nat.le_trans (Nat.le_succ _) hi), fun i hi => by rw [hget, if_neg (by omega)], fun f hf => ?_, .inr ⟨g.next, g.next, by simp, Nat.lt_succ_self _, by rw [hget, if_pos rfl], by simp [hne], hb, Nat.le_refl _, ?_⟩, hlo, fun s ws hr => hr.mono (Nat.le_succ _) fun i hi => by rw [hget, if_neg (by omega)]⟩
    · show (T5.set g.fams g.next [(g.next, (vs ++ new).length)]) f = _
      rw [T5.get_set', if_neg (by omega)]
    · show ∀ x ∈ (T5.set g.fams g.next [(g.next, (vs ++ new).length)]) g.next, _
      rw [T5.get_set', if_pos rfl]
      simp
  · have hget : ∀ i, G.get i = if g.next = i then slackOb (vs ++ new) t g.next else g.get i := GH.get_push ho (slackOb (vs ++ new) t g.next)
    refine ⟨Nat.le_succ _, fun i hi => by rw [hget, if_neg (by omega)], fun f hf => ?_⟩
    show (T5.set g.fams g.next [(g.next, (vs ++ new).length)]) f = _
    rw [T5.get_set', if_neg (by omega)]
/-- The same, whatever is appended. -/
theorem AppD.copy {t t' : TypeId} {b j : Nat} {xv : Value} {vs new cells : List Value} (hj : g.get j = cellsOb cells t') (hcs : cells.take vs.length = vs) (hlc : vs.length ≤ cells.length) (hjn : j < g.next) (hnew : SlR g xv new)
    (hsz : (vs.length + new.length) * (b + 1) ≤ 1073741824) (ho : g.ok)
    (h : ∀ s' g' sp wr, Kept g g' → g'.ok → SlR g' s' (vs ++ new) → Wk P X Q (.R l (k + 1) sp wr ks (putE e dd s') g' lo)) : AppD P X Q t 1 b (.slice (some ⟨j, 0, Option.none⟩) vs.length vs.length) xv [] dd l k sp wr ks e g lo := by
  by_cases c : new = []
  · subst c
    refine AppD.none hnew (by simpa using hsz) (h _ _ _ _ (Kept.refl g) ho ?_)
    rw [List.append_nil]
    exact .inr ⟨j, 0, _, _, rfl, hjn, hj, .inl rfl, by simpa [cellsOb] using hlc, by simpa [cellsOb] using hcs⟩
  · exact AppD.full (base := 0) hj hcs hlc hnew c hsz (Nat.zero_le _) (Nat.zero_le _) ho fun s' g' sp wr hg hk => h s' g' sp wr hk hg.ok hg.own.read
end
end Go.Ds
