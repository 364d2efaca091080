import Derived.Test.YtngmaccaldhjcaaDoorDtI
set_option linter.all false
set_option linter.unusedSimpArgs false
set_option linter.unnecessarySimpa false
set_option linter.unusedVariables false
set_option linter.unusedSectionVars false
set_option linter.unusedSectionVars false
set_option linter.unusedVariables false
namespace Go.Ds

/-! ## Functions, calls and loops over symbolic runs -/
def Fin0 (g0 : GH) (Q : Value → GH → Nat → Prop) (v : Value) (g : GH) (lo : Nat) : Prop := GExt g0 g lo → Q v g lo
theorem Fin0.cg {g0 : GH} {Q : Value → GH → Nat → Prop} {v : Value} {g : GH} {lo : Nat} {x0 : Prop} (_ : Tick = x0) : Fin0 g0 Q v g lo = Fin0 g0 Q v g lo := rfl
def Qr (rs : List PR) (g0 : GH) (Q : Value → GH → Nat → Prop) : Out → Env → GH → Nat → Prop := fun o e g' lo => (∀ id, o ≠ .exit id) ∧ ∃ l, resF (g'.at lo) e rs = some l ∧ Fin0 g0 Q (oneOf l) g' lo
section
variable {P : Program} {X : Caller} {Q : Out → Env → GH → Nat → Prop} {ks : List Fr} {e : Env} {g : GH} {lo : Nat}
def resW (rs : List PR) (e : Env) (g : GH) (lo : Nat) (k : List Value → Prop) : Prop := oV (resF (g.at lo) e rs) k
theorem resW0 {k : List Value → Prop} : resW [] e g lo k = k [] := oV_s [] k
theorem resWt {p : P3} {l : List PR} {k : List Value → Prop} : resW (.tmp p :: l) e g lo k = nV (ev e (.s p)) fun v => resW l e g lo fun vs => k (v :: vs) := by
  unfold resW nV
  simp only [resF, ev_at]
  cases resF (g.at lo) e l with
  | none => exact propext ⟨fun ⟨_, h, _⟩ => (by cases h), fun ⟨_, h, _⟩ => (by cases h)⟩
  | some l => rw [oV_s, oV_s]
theorem resWc {p : P3} {n : Option Nat} {l : List PR} {k : List Value → Prop} : resW (.cell p n :: l) e g lo k = oV (loadF n (g.at lo) (ev e (.s p))) fun v => resW l e g lo fun vs => k (v :: vs) := by
  unfold resW
  simp only [resF, ev_at]
  cases resF (g.at lo) e l with
  | none => exact propext ⟨fun ⟨_, h, _⟩ => (by cases h), fun ⟨_, _, _, h, _⟩ => (by cases h)⟩
  | some l => cases loadF n (g.at lo) (ev e (.s p)) with
    | none => exact propext ⟨fun ⟨_, h, _⟩ => (by cases h), fun ⟨_, h, _⟩ => (by cases h)⟩
    | some v => rw [oV_s, oV_s, oV_s]
theorem qret {rs : List PR} {g0 : GH} {Q : Value → GH → Nat → Prop} : Qr rs g0 Q .ret e g lo = resW rs e g lo fun l => nV (oneOf l) fun v => Fin0 g0 Q v g lo :=
  propext ⟨fun ⟨_, l, h, k⟩ => ⟨l, h, k⟩, fun ⟨l, h, k⟩ => ⟨fun id h => (by cases h), l, h, k⟩⟩
theorem qend {rs : List PR} {g0 : GH} {Q : Value → GH → Nat → Prop} : Qr rs g0 Q .normal e g lo = resW rs e g lo fun l => nV (oneOf l) fun v => Fin0 g0 Q v g lo :=
  propext ⟨fun ⟨_, l, h, k⟩ => ⟨l, h, k⟩, fun ⟨l, h, k⟩ => ⟨fun id h => (by cases h), l, h, k⟩⟩
theorem Rets.run (hX : ∀ i, @CallPres i X) {f : FuncId} {args : List Value} {Q : Value → GH → Nat → Prop} {c : PC} {rs : List PR} (hp : prepF P f = some ⟨c, rs⟩) (hx : X f args (g.at g.next) = none) (hlen : Nat.ble (lenN args) 512 = true)
    (h : g.ok → Wk P X (Qr rs g Q) (.C c [] (Env.fill Env.none 0 args) g g.next)) : Rets P X f args g Q :=
  Rets.intro hX hp hx hlen fun ho => (h ho).C
theorem ev_fill (e : Env) (i : Nat) (v : Value) (l : List Value) (p : PO) : ev (Env.fill e i (v :: l)) p = ev (Env.fill (putE e (some i) v) (i + 1) l) p := rfl
theorem ev_fill0 (e : Env) (i : Nat) (p : PO) : ev (Env.fill e i []) p = ev e p := rfl

variable {dd : Option P3} {l : List PI} {k : Nat} {sp : List (Nat × (Nat × Nat))} {wr : List Nat}
variable (P X Q) in
/-- A call that is to be told what it does. -/
def CallD (f : FuncId) (args : List Value) (hide : List Nat) (dd : Option P3) (l : List PI) (k : Nat) (sp : List (Nat × (Nat × Nat))) (wr : List Nat) (ks : List Fr) (e : Env) (g : GH) (lo : Nat) : Prop :=
  ∀ as : List PO, evs e as = args → GR P X Q (⟨none, dd, none, some (.callF f as), hide⟩ :: l) k sp wr ks e g lo
theorem CallD.cg {f : FuncId} {args : List Value} {hide : List Nat} {x0 : Prop} (_ : Tick = x0) : CallD P X Q f args hide dd l k sp wr ks e g lo = CallD P X Q f args hide dd l k sp wr ks e g lo := rfl
theorem Wk.of_GR {p : Hop} {hide : List Nat} (hs : ∀ n, stepR P X Q (run P X Q n) dd p hide l k sp wr ks e g lo = GR P X Q (⟨none, dd, none, some p, hide⟩ :: l) k sp wr ks e g lo) : Wk P X Q (.R (⟨none, dd, none, some p, hide⟩ :: l) k sp wr ks e g lo) = GR P X Q (⟨none, dd, none, some p, hide⟩ :: l) k sp wr ks e g lo := D_is fun n => hs n
theorem evs_inv {as bs : List PO} (h : evs e as = evs e bs) {f : FuncId} {hide : List Nat} (hr : GR P X Q (⟨none, dd, none, some (.callF f as), hide⟩ :: l) k sp wr ks e g lo) : GR P X Q (⟨none, dd, none, some (.callF f bs), hide⟩ :: l) k sp wr ks e g lo := by
  unfold GR at *
  intro h1 h2 h3
  obtain ⟨i, d, n, e1, g1, lo1, o', e', g', lo', k1, k2⟩ := hr h1 h2 h3
  refine ⟨i, d, n, e1, g1, lo1, o', e', g', lo', ?_, k2⟩
  simp only [regGo, want_none, stepH, runH, h] at k1 ⊢
  exact k1
theorem dcall {f : FuncId} {as : List PO} {hide : List Nat} : Wk P X Q (.R (⟨none, dd, none, some (.callF f as), hide⟩ :: l) k sp wr ks e g lo) = nV (evs e as) fun args => CallD P X Q f args hide dd l k sp wr ks e g lo := by
  rw [nV_eq, Wk.of_GR (fun n => by cases hide <;> rfl)]
  exact propext ⟨fun h bs hb => evs_inv hb.symm h, fun h => h as rfl⟩
/-- A call that leaves what was there. -/
theorem CallD.calm {f : FuncId} {args : List Value} {R : Value → GH → Prop} (hf : Rets P X f args g (fun v g' lo' => g.next ≤ lo' ∧ R v g'))
    (h : ∀ v g', GExt g g' g.next → R v g' → Wk P X Q (.R l (k + 1) ((k, (g.next, g'.next)) :: sp) wr ks (putE e dd v) g' lo)) : CallD P X Q f args [] dd l k sp wr ks e g lo := fun as ha => by
  subst ha
  exact GR.calm rfl hf fun v g' x r => (h v g' x r).R
/-- A call that may write to what was there. -/
theorem CallD.call {f : FuncId} {args : List Value} {R : Value → GH → Nat → Prop} (hf : Rets P X f args g R)
    (h : ∀ v g' lo', GExt g g' lo' → R v g' lo' → Wk P X Q (.R l (k + 1) ((k, (g.next, g'.next)) :: sp) (bif Nat.blt lo' g.next then k :: wr else wr) ks (putE e dd v) g' (min lo lo'))) : CallD P X Q f args [] dd l k sp wr ks e g lo := fun as ha => by
  subst ha
  exact GR.call rfl hf fun v g' lo' x r => (h v g' lo' x r).R
/-- A call beside operations that made nothing. -/
theorem CallD.calmH {f : FuncId} {args : List Value} {R : Value → GH → Prop} {hide : List Nat} (hsp : spansOf sp hide = []) (hw : anyIn wr hide = false) (hf : Rets P X f args g (fun v g' lo' => g.next ≤ lo' ∧ R v g'))
    (h : ∀ v g', GExt g g' g.next → R v g' → Wk P X Q (.R l (k + 1) ((k, (g.next, g'.next)) :: sp) wr ks (putE e dd v) g' lo)) : CallD P X Q f args hide dd l k sp wr ks e g lo := fun as ha => by
  subst ha
  exact GR.calmH rfl hsp hw hf fun v g' x r => (h v g' x r).R
/-- A call that asks nothing of what was made beside it. -/
theorem CallD.calmF {f : FuncId} {args : List Value} {R : Value → GH → Prop} {hide : List Nat} (hw : anyIn wr hide = false) (hf : ∀ L, Rets P X f args (g.hide (L ++ g.hid)) (fun v g' lo' => g.next ≤ lo' ∧ R v g'))
    (h : ∀ v g' L, GExt g (g'.hide g.hid) g.next → R v g' → g'.hid = L ++ g.hid → Wk P X Q (.R l (k + 1) ((k, (g.next, g'.next)) :: sp) wr ks (putE e dd v) (g'.hide g.hid) lo)) : CallD P X Q f args hide dd l k sp wr ks e g lo := fun as ha => by
  subst ha
  exact GR.calmF rfl hw hf fun v g' L x r q => (h v g' L x r q).R
variable (P X Q) in
def AppD (t : TypeId) (sz b : Nat) (s x : Value) (hide : List Nat) (dd : Option P3) (l : List PI) (k : Nat) (sp : List (Nat × (Nat × Nat))) (wr : List Nat) (ks : List Fr) (e : Env) (g : GH) (lo : Nat) : Prop :=
  ∀ y z : PO, ev e y = s → ev e z = x → GR P X Q (⟨none, dd, none, some (.app t sz b y z), hide⟩ :: l) k sp wr ks e g lo
theorem AppD.cg {t : TypeId} {sz b : Nat} {s x : Value} {hide : List Nat} {x0 : Prop} (_ : Tick = x0) : AppD P X Q t sz b s x hide dd l k sp wr ks e g lo = AppD P X Q t sz b s x hide dd l k sp wr ks e g lo := rfl
theorem dapp {t : TypeId} {sz b : Nat} {s x : PO} {hide : List Nat} : Wk P X Q (.R (⟨none, dd, none, some (.app t sz b s x), hide⟩ :: l) k sp wr ks e g lo) = nV (ev e s) fun u => nV (ev e x) fun v => AppD P X Q t sz b u v hide dd l k sp wr ks e g lo := by
  rw [nV_eq, nV_eq, Wk.of_GR (fun n => by cases hide <;> rfl)]
  refine propext ⟨fun hr y z hy hz => ?_, fun h => h s x rfl rfl⟩
  unfold GR at *
  intro h1 h2 h3
  obtain ⟨i, d, n, e1, g1, lo1, o', e', g', lo', k1, k2⟩ := hr h1 h2 h3
  refine ⟨i, d, n, e1, g1, lo1, o', e', g', lo', ?_, k2⟩
  simp only [regGo, want_none, stepH, runH, hy, hz] at k1 ⊢
  exact k1
/-- Appending what is read elsewhere to a slice that is owned. -/
theorem AppD.own {t : TypeId} {b : Nat} {sv xv : Value} {vs new : List Value} {base : Nat} (hown : Own g sv vs t base) (hnew : SlR g xv new) (hne : new ≠ [])
    (hc : new.all cellV = true) (hsz : (vs.length + new.length) * (b + 1) ≤ 1073741824) (hb : base ≤ g.next) (hlo : base ≤ lo) (ho : g.ok)
    (h : ∀ s' g' lo' sp wr, Grew g g' s' (vs ++ new) t base lo lo' → Wk P X Q (.R l (k + 1) sp wr ks (putE e dd s') g' lo')) : AppD P X Q t 1 b sv xv [] dd l k sp wr ks e g lo := fun y z hy hz =>
  GR.app rfl hy hz hown hnew hne hc hsz hb hlo ho fun s' g' lo' sp wr hg => (h s' g' lo' sp wr hg).R
variable (P X Q) in
/-- A call of a function value. -/
def CallV (x : Value) (args : List Value) (dd : Option P3) (l : List PI) (k : Nat) (sp : List (Nat × (Nat × Nat))) (wr : List Nat) (ks : List Fr) (e : Env) (g : GH) (lo : Nat) : Prop :=
  ∀ (y : PO) (as : List PO), ev e y = x → evs e as = args → GR P X Q (⟨none, dd, none, some (.callV y as), []⟩ :: l) k sp wr ks e g lo
theorem CallV.cg {x : Value} {args : List Value} {x0 : Prop} (_ : Tick = x0) : CallV P X Q x args dd l k sp wr ks e g lo = CallV P X Q x args dd l k sp wr ks e g lo := rfl
theorem dcallV {x : PO} {as : List PO} : Wk P X Q (.R (⟨none, dd, none, some (.callV x as), []⟩ :: l) k sp wr ks e g lo) = nV (ev e x) fun v => nV (evs e as) fun args => CallV P X Q v args dd l k sp wr ks e g lo := by
  rw [nV_eq, nV_eq, Wk.of_GR (fun n => rfl)]
  refine propext ⟨fun hr y z hy hz => ?_, fun h => h x as rfl rfl⟩
  unfold GR at *
  intro h1 h2 h3
  obtain ⟨i, d, n, e1, g1, lo1, o', e', g', lo', k1, k2⟩ := hr h1 h2 h3
  refine ⟨i, d, n, e1, g1, lo1, o', e', g', lo', ?_, k2⟩
  simp only [regGo, want_none, stepH, runH, hy, hz] at k1 ⊢
  exact k1
theorem CallV.go {f : FuncId} {args all : List Value} {R : Value → GH → Nat → Prop} {first captured : Array Value} (ha : first.toList ++ args ++ captured.toList = all) (hf : Rets P X f all g R)
    (h : ∀ v g' lo' wr, GExt g g' lo' → R v g' lo' → Wk P X Q (.R l (k + 1) ((k, (g.next, g'.next)) :: sp) wr ks (putE e dd v) g' (min lo lo'))) : CallV P X Q (.func (.func f) first captured) args dd l k sp wr ks e g lo := fun y as hy hz => by
  subst hz; subst ha
  exact GR.callV rfl hy hf fun v g' lo' wr x r => (h v g' lo' wr x r).R
theorem Wk.mkslice {t : TypeId} {b : Nat} {zero : List Value} {x y : PO} {n c : Nat} (hx : asNat (ev e x) = some n) (hy : asNat (ev e y) = some c) (hn : n ≤ c) (hc : c * (b + 1) ≤ 1073741824)
    (h : Wk P X Q (.R l (k + 1) ((k, (g.next, Nat.succ g.next)) :: sp) wr ks (putE e dd (.slice (some ⟨g.next, 0, none⟩) n c)) (g.push (cellsOb (repeatN zero c) t)) lo)) :
    Wk P X Q (.R (⟨none, dd, none, some (.mkslice t b zero x y), []⟩ :: l) k sp wr ks e g lo) := by
  rw [Wk.of_GR fun n => rfl]
  exact GR.mkslice rfl hx hy hn hc h.R
/-- A loop, by what holds at the head of each round, what holds behind it, and a number that falls. -/
theorem Wk.loops {b : PC} {id : Nat} (I : Nat → Env → GH → Nat → Prop) (J : Env → GH → Nat → Prop) {n : Nat} (h0 : I n e g lo)
    (hx : ∀ e g lo, g.ok → lo ≤ g.next → J e g lo → Wk P X Q (.O .normal ks e g lo))
    (hs : ∀ n e g lo, g.ok → lo ≤ g.next → (∀ m e' g' lo', m < n → I m e' g' lo' → Wk P X Q (.O .normal (.again b :: .blk id :: ks) e' g' lo')) → (∀ e' g' lo', J e' g' lo' → Wk P X Q (.O (.exit id) (.again b :: .blk id :: ks) e' g' lo')) → I n e g lo → Wk P X Q (.C b (.again b :: .blk id :: ks) e g lo)) : Wk P X Q (.C (.loop b) (.blk id :: ks) e g lo) := by
  rw [dloop]
  refine GC.loops I J h0 (fun e g lo a b h => (hx e g lo a b h).O) fun n e g lo a b' ih out hI => (hs n e g lo a b' (fun m e' g' lo' hm h => ?_) (fun e' g' lo' h => ?_) hI).C
  · rw [dOagain]; exact ih m e' g' lo' hm h
  · rw [dOagain]; exact out e' g' lo' h
end
theorem one1 (v : Value) : oneOf [v] = v := Eq.trans rfl rfl
theorem one2 (v w : Value) : oneOf [v, w] = .tuple #[v, w] := Eq.trans rfl rfl
theorem one3 (u v w : Value) : oneOf [u, v, w] = .tuple #[u, v, w] := Eq.trans rfl rfl
attribute [congr] nV_cg vB_cg vG_cg oV_cg bifP_cg pV_cg oC_cg gP_cg
attribute [go_sem ↓] resW0 resWt resWc vB_b' vG_b vG_u oV_s' bifP_t' bifP_f' pV_p' oC_c'
attribute [go_sem] vG_b vG_u tick same_tt same_tf same_ft same_ff same_t same_f bifP_n nV_eq vB_b oV_s bifP_t bifP_f pV_p pV_to oC_c gP_t gP_y far_nil far_cons qret qend ev_fill ev_fill0 one1 one2 one3
attribute [go_sem ↓] dallocH dskip dreg dseq dcond dblock dexit dret dOnil dOseq dOblk dXseq dXblk dnil dguard dpop dalloc dbox dload dbslice dstore dloadH dcall dapp dcallV
attribute [congr] D_cg Fin0.cg CallD.cg AppD.cg CallV.cg
end Go.Ds
