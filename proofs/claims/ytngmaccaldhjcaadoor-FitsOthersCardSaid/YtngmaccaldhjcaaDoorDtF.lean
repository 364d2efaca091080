import Derived.Test.YtngmaccaldhjcaaDoorDtE
set_option linter.all false
set_option linter.unusedSimpArgs false
set_option linter.unnecessarySimpa false
set_option linter.unusedVariables false
set_option linter.unusedSectionVars false
set_option linter.unusedSectionVars false
set_option linter.unusedVariables false
namespace Go.Ds
theorem SlR.but {g g' : GH} {s : Value} {vs : List Value} {j0 : Nat} (h : SlR g s vs) (hne : ∀ a l c, s = .slice (some a) l c → a.block ≠ j0) (hn : g.next ≤ g'.next) (hg : ∀ j, j < g.next → j ≠ j0 → g'.get j = g.get j) : SlR g' s vs := by
  rcases h with h | ⟨j, off, cap, ob, h1, h2, h3, h4, h5, h6⟩
  · exact .inl h
  · exact .inr ⟨j, off, cap, ob, h1, by omega, by rw [hg j h2 (hne _ _ _ h1)]; exact h3, h4, h5, h6⟩
section
variable {P : Program} {X : Caller} {Q : Out → Env → GH → Nat → Prop} {gd : Option (P3 × Bool)} {dd : Option P3} {l : List PI} {k : Nat} {sp : List (Nat × (Nat × Nat))} {wr : List Nat} {ks : List Fr} {e : Env} {g : GH} {lo : Nat} {f : FuncId} {as : List PO}
theorem GR.callV {R : Value → GH → Nat → Prop} {x : PO} {first captured : Array Value} (hg : wantF e gd = some true) (hx : ev e x = .func (.func f) first captured) (hf : Rets P X f (first.toList ++ evs e as ++ captured.toList) g R)
    (h : ∀ v g' lo' wr, GExt g g' lo' → R v g' lo' → GR P X Q l (Nat.succ k) ((k, (g.next, g'.next)) :: sp) wr ks (putE e dd v) g' (min lo lo')) : GR P X Q (⟨gd, dd, none, some (.callV x as), []⟩ :: l) k sp wr ks e g lo := by
  refine GR.use fun hl ho hs => ?_
  unfold Rets at hf
  obtain ⟨v, g', lo', ⟨i, d, n, h1⟩, h2, h3⟩ := hf ho
  have hp : Hp P X (.callV x as) e g v g' lo' := by
    unfold Hp
    refine ⟨i, d, n, ?_⟩
    simp only [runH, callVF, hx]
    exact h1
  exact GR.wrote hg hp h2.hid h2.next (h v g' lo' _ h2 h3)
end
end Go.Ds
