import Derived.Test.YtngmaccaldhjcaaDoorDtD
set_option linter.all false
set_option linter.unusedSimpArgs false
set_option linter.unnecessarySimpa false
set_option linter.unusedVariables false
set_option linter.unusedSectionVars false
set_option linter.unusedSectionVars false
set_option linter.unusedVariables false
namespace Go.Ds
section
variable {P : Program} {X : Caller} {Q : Out → Env → GH → Nat → Prop} {gd : Option (P3 × Bool)} {dd : Option P3} {l : List PI} {k : Nat} {sp : List (Nat × (Nat × Nat))} {wr : List Nat} {ks : List Fr} {e : Env} {g : GH} {lo : Nat} {f : FuncId} {as : List PO}
theorem GR.use (h : lo ≤ g.next → g.ok → SpOk sp g.next → GR P X Q l k sp wr ks e g lo) : GR P X Q l k sp wr ks e g lo := by
  unfold GR at *
  exact fun hl ho hs => h hl ho hs hl ho hs
/-- A call that asks nothing of what was made beside it. -/
theorem GR.calmF {R : Value → GH → Prop} {hide : List Nat} (hg : wantF e gd = some true) (hw : anyIn wr hide = false) (hf : ∀ L, Rets P X f (evs e as) (g.hide (L ++ g.hid)) (fun v g' lo' => g.next ≤ lo' ∧ R v g'))
    (h : ∀ v g' L, GExt g (g'.hide g.hid) g.next → R v g' → g'.hid = L ++ g.hid → GR P X Q l (Nat.succ k) ((k, (g.next, g'.next)) :: sp) wr ks (putE e dd v) (g'.hide g.hid) lo) : GR P X Q (⟨gd, dd, none, some (.callF f as), hide⟩ :: l) k sp wr ks e g lo := by
  refine GR.use fun hl ho hs => ?_
  obtain ⟨v, g', lo', h1, h2, h3, h4⟩ := (hf (spansOf sp hide)).hp (fun i hi => inSpans_app (inSpans_none (SpOk.spans hs hi hide)) (ho i hi))
  have : lo' = g.next := Nat.le_antisymm h2.low h3
  subst this
  refine GR.hop hg (g' := g') (lo' := g.next) (v := v) h1 (.inr (Nat.le_refl _)) hw h2.next ?_
  have hb : Nat.blt g.next g.next = false := by rw [blt_d]; simp
  rw [hb, Nat.min_eq_left hl]
  exact h v g' (spansOf sp hide) ⟨h2.next, rfl, Nat.le_refl _, h2.keep, h2.fams⟩ h4 h2.hid
/-- Making an object beside other operations. -/
theorem GR.allocH {t : TypeId} {z : List Value} {hide : List Nat} (hg : wantF e gd = some true) (hw : anyIn wr hide = false) (h : GR P X Q l (Nat.succ k) ((k, (g.next, Nat.succ g.next)) :: sp) wr ks (putE e dd (ptrTo g.next)) (g.push (cellsOb z t)) lo) : GR P X Q (⟨gd, dd, none, some (.alloc t z), hide⟩ :: l) k sp wr ks e g lo := by
  refine GR.use fun hl ho hs => ?_
  have hp : Hp P X (.alloc t z) e (g.hide (spansOf sp hide ++ g.hid)) (ptrTo g.next) ((g.hide (spansOf sp hide ++ g.hid)).push (cellsOb z t)) g.next := Hp.mk (bnd (g.next + 1)) fun call => pushF_big (h := (g.hide (spansOf sp hide ++ g.hid)).at g.next)
  refine GR.hop hg hp (.inr (Nat.le_refl _)) hw (Nat.le_succ _) ?_
  have hb : Nat.blt g.next g.next = false := by rw [blt_d]; simp
  rw [hb, Nat.min_eq_left hl]
  exact h
end
end Go.Ds
