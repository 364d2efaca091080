import Derived.Test.YtngmaccaldhjcaaDoorDtN
import Derived.Test.YtngmaccaldhjcaaDoorDtJ
import Derived.Test.YtngmaccaldhjcaaDoorDtM
import Derived.Test.YtngmaccaldhjcaaDoorDsZd
set_option linter.all false
set_option linter.unusedSimpArgs false
set_option linter.unnecessarySimpa false
set_option linter.unusedVariables false
set_option linter.unusedSectionVars false
set_option linter.unusedSectionVars false
set_option linter.unusedVariables false
namespace Go.Ds
section
variable {P : Program} {X : Caller} {Q : Out → Env → GH → Nat → Prop} {ks : List Fr} {e : Env} {g : GH} {lo : Nat}
/-- One round of a loop. -/
theorem Wk.once {b : PC} (h : Wk P X Q (.C b (.again b :: ks) e g lo)) : Wk P X Q (.C (.loop b) ks e g lo) := by
  rw [dloop]; exact GC.loop h.C
theorem Wk.more {b : PC} (h : Wk P X Q (.C (.loop b) ks e g lo)) : Wk P X Q (.O .normal (.again b :: ks) e g lo) := by
  rw [dOagain]; exact GO.again h.C
theorem Wk.leave {b : PC} {j : Nat} (h : Wk P X Q (.O (.exit j) ks e g lo)) : Wk P X Q (.O (.exit j) (.again b :: ks) e g lo) := by
  rw [dOagain]; exact GO.exit_again h.O
end
end Go.Ds
set_option linter.unusedSectionVars false
set_option linter.unusedVariables false
namespace Go.Ds
/-! ## A store beside loads, in the walk -/
section
variable {P : Program} {X : Caller} {Q : Out → Env → GH → Nat → Prop} {dd : Option P3} {l : List PI} {k : Nat} {sp : List (Nat × (Nat × Nat))} {wr : List Nat} {ks : List Fr} {e : Env} {g : GH} {lo : Nat}
variable (P X Q) in
def StB (n : Nat) (xv yv : Value) (osv : List Value) (hide : List Nat) (dd : Option P3) (l : List PI) (k : Nat) (sp : List (Nat × (Nat × Nat))) (wr : List Nat) (ks : List Fr) (e : Env) (g : GH) (lo : Nat) : Prop :=
  ∀ (y z : PO) (os : List PO), ev e y = xv → ev e z = yv → evs e os = osv → GR P X Q (⟨none, dd, none, some (.storeB n y z os), hide⟩ :: l) k sp wr ks e g lo
theorem dstoreB {n : Nat} {x y : PO} {os : List PO} {hide : List Nat} : Wk P X Q (.R (⟨none, dd, none, some (.storeB n x y os), hide⟩ :: l) k sp wr ks e g lo) = nV (ev e x) fun xv => nV (ev e y) fun yv => nV (evs e os) fun osv => StB P X Q n xv yv osv hide dd l k sp wr ks e g lo := by
  rw [nV_eq, nV_eq, nV_eq, Wk.of_GR (fun n => by cases hide <;> rfl)]
  refine propext ⟨fun hr a b c ha hb hc => ?_, fun h => h x y os rfl rfl rfl⟩
  unfold GR at *
  intro h1 h2 h3
  obtain ⟨i, d, n, e1, g1, lo1, o', e', g', lo', k1, k2⟩ := hr h1 h2 h3
  refine ⟨i, d, n, e1, g1, lo1, o', e', g', lo', ?_, k2⟩
  simp only [regGo, want_none, stepH, runH, ha, hb, hc, Hop.isB] at k1 ⊢
  exact k1
theorem StB.go {n j off : Nat} {v : Value} {vs cells : List Value} {t : TypeId} {osv : List Value} {hide : List Nat} (hvs : cellsOf v = vs) (hn : vs.length = n) (hc : vs.all cellV = true)
    (hj : g.get j = cellsOb cells t) (hl : off + vs.length ≤ cells.length) (hlt : j < g.next) (hos : osv.all (offB j) = true) (hsp : inSpans (spansOf sp hide) j = false) (hw : anyIn wr hide = false)
    (h : Wk P X Q (.R l (k + 1) ((k, (g.next, g.next)) :: sp) (k :: wr) ks (putE e dd undef) (g.set j (cellsOb (splice off cells vs) t)) (min lo j))) :
    StB P X Q n (.pointer (some ⟨j, off, none⟩)) v osv hide dd l k sp wr ks e g lo := fun y z os hy hz ho => by
  subst ho
  exact GR.storeB rfl hy hz hvs hn hc hj hl hlt hos hsp hw h.R
end
attribute [go_sem ↓] dstoreB
end Go.Ds
set_option linter.unusedSectionVars false
set_option linter.unusedVariables false
namespace Go.Ds
/-- One object was written. -/
structure Wrote (g g' : GH) (j : Nat) (o : Ob) : Prop where
  next : g'.next = g.next
  hid : g'.hid = g.hid
  ok : g'.ok
  fams : ∀ f, g'.fams f = g.fams f
  get : g'.get j = o
  others : ∀ i, i ≠ j → g'.get i = g.get i
theorem Wrote.kept {a g g' : GH} {j : Nat} {o : Ob} (h : Wrote g g' j o) (k : Kept a g) (hj : a.next ≤ j) : Kept a g' :=
  ⟨by rw [h.next]; exact k.next, fun i hi => (h.others i (by omega)).trans (k.gets i hi), fun f hf => (h.fams f).trans (k.fams f hf)⟩
theorem Wrote.set {g : GH} {j : Nat} {o o' : Ob} (hj : g.get j = o') (hk : o'.kind ≠ 0) (ho : g.ok) : Wrote g (g.set j o) j o :=
  ⟨rfl, rfl, GH.ok_set ho, fun _ => rfl, GH.get_set_same hj hk o, fun i hi => GH.get_set_ne hj hk o (Ne.symm hi)⟩
theorem SlR.whole {g : GH} {j n c : Nat} {vs : List Value} {t : TypeId} (h : g.get j = cellsOb vs t) (hj : j < g.next) (hn : n = vs.length) : SlR g (.slice (some ⟨j, 0, none⟩) n c) vs := by
  subst hn
  exact .inr ⟨j, 0, c, _, rfl, hj, h, .inl rfl, by simp [cellsOb], by simp [cellsOb]⟩
theorem SlR.wrote {g g' : GH} {s : Value} {vs : List Value} {j0 : Nat} {o : Ob} (h : SlR g s vs) (w : Wrote g g' j0 o) (hne : ∀ a l c, s = .slice (some a) l c → a.block ≠ j0) : SlR g' s vs :=
  h.but hne (by rw [w.next]; exact Nat.le_refl _) fun j _ hj => w.others j hj
/-- What an append leaves. -/
structure Grew2 (g g' : GH) (s' : Value) (vs : List Value) (t : TypeId) (base : Nat) : Prop where
  next : g'.next = g.next + 1
  hid : g'.hid = g.hid
  ok : g'.ok
  gets : ∀ j, j < g.next → g'.get j = g.get j
  fams : ∀ f, f < base → g'.fams f = g.fams f
  own : Own g' s' vs t base
  read : ∀ s ws, SlR g s ws → SlR g' s ws

/-- What was there is there as it was; who grows it is not told. -/
structure Keeps (g g' : GH) : Prop where
  next : g.next ≤ g'.next
  gets : ∀ j, j < g.next → g'.get j = g.get j
theorem Keeps.refl (g : GH) : Keeps g g := ⟨Nat.le_refl _, fun _ _ => rfl⟩
theorem Keeps.trans {a b c : GH} (h : Keeps a b) (k : Keeps b c) : Keeps a c :=
  ⟨Nat.le_trans h.next k.next, fun j hj => (k.gets j (Nat.lt_of_lt_of_le hj h.next)).trans (h.gets j hj)⟩
theorem Kept.keeps {a b : GH} (h : Kept a b) : Keeps a b := ⟨h.next, h.gets⟩
theorem GExt.keeps {g g' : GH} (x : GExt g g' g.next) : Keeps g g' := ⟨x.next, x.gets⟩
theorem Keeps.push {a b : GH} (h : Keeps a b) (ho : b.ok) (o : Ob) : Keeps a (b.push o) :=
  h.trans ⟨Nat.le_succ _, fun j hj => by rw [GH.get_push ho, if_neg (by omega)]⟩
theorem Keeps.wrote {a g g' : GH} {j : Nat} {o : Ob} (k : Keeps a g) (h : Wrote g g' j o) (hj : a.next ≤ j) : Keeps a g' :=
  ⟨by rw [h.next]; exact k.next, fun i hi => (h.others i (by omega)).trans (k.gets i hi)⟩
theorem SlR.keeps {g g' : GH} {s : Value} {vs : List Value} (h : SlR g s vs) (x : Keeps g g') : SlR g' s vs := h.mono x.next x.gets
section
variable {P : Program} {X : Caller} {Q : Out → Env → GH → Nat → Prop} {gd : Option (P3 × Bool)} {dd : Option P3} {l : List PI} {k : Nat} {sp : List (Nat × (Nat × Nat))} {wr : List Nat} {ks : List Fr} {e : Env} {g : GH} {lo : Nat}
theorem GR.cpy {x y : PO} {j c n : Nat} {cells new : List Value} {t : TypeId} {sv : Value} (hg : wantF e gd = some true) (hx : ev e x = .slice (some ⟨j, 0, none⟩) n c) (hy : ev e y = sv) (hnew : SlR g sv new) (hj : g.get j = cellsOb cells t) (hn : n ≤ cells.length)
    (hlt : j < g.next) (hc : new.all cellV = true) (hle : new.length ≤ n) (ho : g.ok)
    (h : ∀ g' lo' sp wr, Wrote g g' j (cellsOb (new ++ cells.drop new.length) t) → min lo j ≤ lo' → GR P X Q l (Nat.succ k) sp wr ks (putE e dd (.int .i64 new.length)) g' lo') :
    GR P X Q (⟨gd, dd, none, some (.cpy 1 x y), []⟩ :: l) k sp wr ks e g lo := by
  have hlen : lenF sv = some new.length := by
    rcases hnew with ⟨rfl, rfl⟩ | ⟨j, off, cap, ob, rfl, _⟩ <;> rfl
  have hstr : strOk 1 sv = true := by
    rcases hnew with ⟨rfl, rfl⟩ | ⟨j, off, cap, ob, rfl, _⟩ <;> rfl
  have hmin : Nat.min new.length n = new.length := Nat.min_eq_left hle
  have hfirst : ∀ lo, firstF (g.at lo) 1 new.length sv = some new := by
    intro lo
    rcases hnew with ⟨rfl, rfl⟩ | ⟨j, off, cap, ob, rfl, h2, h3, h4, h5, h6⟩
    · rfl
    · simp only [firstF, Nat.mul_one]
      have := SlR.readN (cap := cap) (lo := lo) h3 h4 h5 h6 (i := 0) (n := new.length) (by omega)
      rw [Nat.add_zero, List.drop_zero, List.take_length] at this
      exact this
  by_cases h0 : new.length = 0
  · have hnil : new = [] := List.eq_nil_of_length_eq_zero h0
    have hz : Nat.beq new.length 0 = true := by rw [h0]; rfl
    refine GR.same (v := .int .i64 new.length) hg (Hp.mk (bnd 0) fun call => ?_) (h g lo _ _ ⟨rfl, rfl, ho, fun _ => rfl, by rw [hj, hnil]; rfl, fun _ _ => rfl⟩ (Nat.min_le_left _ _))
    simp only [runH, hx, hy, hstr, cond_true, cpyF, hlen, hmin, hfirst, hz]
    rw [h0]; rfl
  · have hz : Nat.beq new.length 0 = false := by rw [beq_d, decide_eq_false h0]
    have hsp : splice 0 cells new = new ++ cells.drop new.length := by simp only [splice, lenN_length, dropN_drop]
    have hw : writeF (g.at g.next) ⟨j, 0, none⟩ new = some ((g.set j (cellsOb (new ++ cells.drop new.length) t)).at j) := by
      unfold writeF
      rw [show (g.at g.next).get j = cellsOb cells t from hj]
      unfold cellsOb
      simp only [lenN_length]
      rw [show Nat.ble (0 + new.length) cells.length = true by rw [ble_d, decide_eq_true (by omega)], show Nat.blt j (g.at g.next).next = true from Nat.blt_eq ▸ hlt]
      simp only [Bool.and_self, cond_true, cond_false, hsp]
      have hb : Nat.blt j g.next = true := Nat.blt_eq ▸ hlt
      simp only [AH.set, GH.at, GH.set, hb, cond_true]
    refine GR.wrote (lo' := j) (v := .int .i64 new.length) (g' := g.set j (cellsOb (new ++ cells.drop new.length) t)) hg (Hp.mk (bnd 0) fun call => ?_) rfl (Nat.le_refl _) (h _ _ _ _ (Wrote.set hj Nat.one_ne_zero ho) (Nat.le_refl _))
    simp only [runH, hx, hy, hstr, cond_true, cpyF, hlen, hmin, hfirst, hz, hc, Bool.not_true, cond_false, hw]
    rfl
theorem Wk.cpy {x y : PO} {j c n : Nat} {cells new : List Value} {t : TypeId} {sv : Value} (hx : ev e x = .slice (some ⟨j, 0, none⟩) n c) (hy : ev e y = sv) (hnew : SlR g sv new) (hj : g.get j = cellsOb cells t) (hn : n ≤ cells.length)
    (hlt : j < g.next) (hc : new.all cellV = true) (hle : new.length ≤ n) (ho : g.ok)
    (h : ∀ g' lo' sp wr, Wrote g g' j (cellsOb (new ++ cells.drop new.length) t) → min lo j ≤ lo' → Wk P X Q (.R l (k + 1) sp wr ks (putE e dd (.int .i64 new.length)) g' lo')) :
    Wk P X Q (.R (⟨none, dd, none, some (.cpy 1 x y), []⟩ :: l) k sp wr ks e g lo) := by
  rw [Wk.of_GR fun n => rfl]
  exact GR.cpy rfl hx hy hnew hj hn hlt hc hle ho fun g' lo' sp wr h1 h2 => (h g' lo' sp wr h1 h2).R
end
end Go.Ds
set_option linter.unusedSectionVars false
set_option linter.unusedVariables false
namespace Go.Ds
/-! ## Rows that may be written: made whole, or appended to -/
/-- A slice that was made by appending; the members of its family lie where they were made. -/
def OwnM (g : GH) (s : Value) (vs : List Value) (t : TypeId) (base : Nat) : Prop :=
  (s = .slice none 0 0 ∧ vs = []) ∨ ∃ j fam, s = .slice (some ⟨j, 0, none⟩) vs.length (OPEN + 1) ∧ j < g.next ∧ g.get j = slackOb vs t fam ∧ vs ≠ [] ∧ base ≤ fam ∧ fam ≤ j ∧ (∀ x ∈ g.fams fam, x.2 ≤ vs.length ∧ fam ≤ x.1 ∧ x.1 ≤ j)
theorem OwnM.own {g : GH} {s : Value} {vs : List Value} {t : TypeId} {base : Nat} (h : OwnM g s vs t base) : Own g s vs t base := by
  rcases h with h | ⟨j, fam, h1, h2, h3, h4, h5, h6, h7⟩
  · exact .inl h
  · exact .inr ⟨j, fam, h1, h2, h3, h4, h5, h6, fun x hx => (h7 x hx).1⟩
theorem OwnM.read {g : GH} {s : Value} {vs : List Value} {t : TypeId} {base : Nat} (h : OwnM g s vs t base) : SlR g s vs := h.own.read
theorem OwnM.nil {g : GH} {t : TypeId} {base : Nat} : OwnM g (.slice none 0 0) [] t base := .inl ⟨rfl, rfl⟩
theorem OwnM.mono {g g' : GH} {s : Value} {vs : List Value} {t : TypeId} {base : Nat} (h : OwnM g s vs t base) (hn : g.next ≤ g'.next) (hg : ∀ j, j < g.next → g'.get j = g.get j) (hf : ∀ f, f < g.next → g'.fams f = g.fams f) : OwnM g' s vs t base := by
  rcases h with h | ⟨j, fam, h1, h2, h3, h4, h5, h6, h7⟩
  · exact .inl h
  · exact .inr ⟨j, fam, h1, by omega, by rw [hg j h2]; exact h3, h4, h5, h6, by rw [hf fam (by omega)]; exact h7⟩
theorem OwnM.kept {g g' : GH} {s : Value} {vs : List Value} {t : TypeId} {base : Nat} (h : OwnM g s vs t base) (x : Kept g g') : OwnM g' s vs t base := h.mono x.next x.gets x.fams
theorem OwnM.cell {g : GH} {s : Value} {vs : List Value} {t : TypeId} {base : Nat} (h : OwnM g s vs t base) : cellV s = true := h.own.cell
/-- What an append leaves. -/
structure GrewM (g g' : GH) (s' : Value) (vs : List Value) (t : TypeId) (base : Nat) : Prop where
  next : g'.next = g.next + 1
  hid : g'.hid = g.hid
  ok : g'.ok
  gets : ∀ j, j < g.next → g'.get j = g.get j
  fams : ∀ f, f < base → g'.fams f = g.fams f
  own : OwnM g' s' vs t base
  read : ∀ s ws, SlR g s ws → SlR g' s ws

/-- A row that may be written, with nothing below the base. -/
def Row (g : GH) (s : Value) (vs : List Value) (t : TypeId) (base : Nat) : Prop :=
  (∃ j c, s = .slice (some ⟨j, 0, none⟩) vs.length c ∧ base ≤ j ∧ j < g.next ∧ g.get j = cellsOb vs t) ∨ OwnM g s vs t base
theorem Row.read {g : GH} {s : Value} {vs : List Value} {t : TypeId} {base : Nat} (h : Row g s vs t base) : SlR g s vs := by
  rcases h with ⟨j, c, rfl, h1, h2, h3⟩ | h
  · exact SlR.whole h3 h2 rfl
  · exact h.read
theorem Row.kept {g g' : GH} {s : Value} {vs : List Value} {t : TypeId} {base : Nat} (h : Row g s vs t base) (x : Kept g g') : Row g' s vs t base := by
  rcases h with ⟨j, c, rfl, h1, h2, h3⟩ | h
  · exact .inl ⟨j, c, rfl, h1, Nat.lt_of_lt_of_le h2 x.next, (x.gets j h2).trans h3⟩
  · exact .inr (h.kept x)
/-- A place in a slice. -/
def AtRow (s : Value) (i : Nat) (p : Value) : Prop := ∃ j n c, s = .slice (some ⟨j, 0, none⟩) n c ∧ p = .pointer (some ⟨j, i, none⟩)
theorem Row.ptr {g : GH} {s : Value} {vs : List Value} {t : TypeId} {base : Nat} (h : Row g s vs t base) {i : Nat} {v : Value} (hv : vs[i]? = some v) : ∃ p, (∀ n : Int, n = i → iaddrSF 1 s (.int .i64 n) = some p) ∧ (∀ lo, loadF none (g.at lo) p = some v) ∧ AtRow s i p := by
  have hlt : i < vs.length := (List.getElem?_eq_some_iff.1 hv).1
  obtain ⟨j, n, c, rfl, hn⟩ : ∃ j n c, s = .slice (some ⟨j, 0, none⟩) n c ∧ n = vs.length := by
    rcases h with ⟨j, c, rfl, h1, h2, h3⟩ | ⟨rfl, rfl⟩ | ⟨j, fam, rfl, h2, h3, h4, h5, h6, h7⟩
    · exact ⟨j, _, c, rfl, rfl⟩
    · simp at hlt
    · exact ⟨j, _, _, rfl, rfl⟩
  subst hn
  obtain ⟨p, h1, h2⟩ := h.read.at hv
  have := h1 (i : Int) rfl
  rw [iaddrS_at rfl hlt] at this
  simp only [Option.some.injEq] at this
  exact ⟨p, h1, h2, j, _, c, rfl, this.symm⟩
/-- What a write into a row leaves. -/
structure RowW (g g' : GH) (base : Nat) : Prop where
  next : g'.next = g.next
  hid : g'.hid = g.hid
  ok : g'.ok
  gets : ∀ j, j < base → g'.get j = g.get j
  fams : ∀ f, f < base → g'.fams f = g.fams f
/-- What lies below a base is as it was. -/
structure Below0 (g g' : GH) (base : Nat) : Prop where
  next : g.next ≤ g'.next
  gets : ∀ j, j < base → g'.get j = g.get j
  fams : ∀ f, f < base → g'.fams f = g.fams f
theorem Below0.refl (g : GH) (b : Nat) : Below0 g g b := ⟨Nat.le_refl _, fun _ _ => rfl, fun _ _ => rfl⟩
theorem Below0.kept {a g g' : GH} {b : Nat} (h : Below0 a g b) (k : Kept g g') (hb : b ≤ g.next) : Below0 a g' b :=
  ⟨Nat.le_trans h.next k.next, fun j hj => (k.gets j (by omega)).trans (h.gets j hj), fun f hf => (k.fams f (by omega)).trans (h.fams f hf)⟩
theorem Below0.write {a g g' : GH} {b : Nat} (h : Below0 a g b) (w : RowW g g' b) : Below0 a g' b :=
  ⟨by rw [w.next]; exact h.next, fun j hj => (w.gets j hj).trans (h.gets j hj), fun f hf => (w.fams f hf).trans (h.fams f hf)⟩
theorem Kept.below {a g : GH} {b : Nat} (h : Kept a g) (hb : b ≤ a.next) : Below0 a g b := ⟨h.next, fun j hj => h.gets j (by omega), fun f hf => h.fams f (by omega)⟩
theorem Kept.after {a g g' : GH} {b : Nat} (h : Kept a g) (k : Below0 g g' b) (hb : a.next ≤ b) : Kept a g' :=
  ⟨Nat.le_trans h.next k.next, fun j hj => (k.gets j (by omega)).trans (h.gets j hj), fun f hf => (k.fams f (by omega)).trans (h.fams f hf)⟩

theorem killGo_spec (keep off : Nat) : ∀ (ms : List (Nat × Nat)) (g : GH) (low : Nat) (fam : Nat), g.ok → (∀ x ∈ ms, fam ≤ x.1) → inSpans g.hid keep = false → ∃ (g' : GH) (low' : Nat), killGo keep off ms (g.at low) = g'.at low' ∧ g'.next = g.next ∧ g'.hid = g.hid ∧ g'.ok ∧ (∀ f, g'.fams f = g.fams f) ∧ (∀ j, j < fam → g'.get j = g.get j) ∧ g'.get keep = g.get keep ∧ min low fam ≤ low'
  | [], g, low, fam, ho, _, _ => ⟨g, low, rfl, rfl, rfl, ho, fun _ => rfl, fun _ _ => rfl, rfl, Nat.min_le_left _ _⟩
  | (i, n) :: ms, g, low, fam, ho, hm, hk => by
    have hi : fam ≤ i := hm (i, n) List.mem_cons_self
    have hm' := fun x hx => hm x (List.mem_cons_of_mem (i, n) hx)
    simp only [killGo]
    cases hb : (Nat.blt off n && !Nat.beq i keep) with
    | false =>
      simp only [cond_false]
      exact killGo_spec keep off ms g low fam ho hm' hk
    | true =>
      simp only [cond_true]
      have hne : i ≠ keep := by
        intro e
        rw [e] at hb
        simp at hb
      have hget : ∀ j, j ≠ i → (g.set i dead).get j = g.get j := by
        intro j hj
        unfold GH.get
        rw [@AH.get_eq ⟨⟨0⟩⟩, @AH.get_eq ⟨⟨0⟩⟩]
        show (bif inSpans g.hid j then dead else T5.get (T5.set g.tr i dead) j) = (bif inSpans g.hid j then dead else T5.get g.tr j)
        rw [T5.get_set', if_neg (Ne.symm hj)]
      obtain ⟨g', low', h1, h2, h3, h4, h5, h6, h7, h8⟩ := killGo_spec keep off ms (g.set i dead) (bif Nat.blt i low then i else low) fam (GH.ok_set ho) hm' hk
      refine ⟨g', low', h1, h2, h3, h4, h5, fun j hj => (h6 j hj).trans (hget j (by omega)), h7.trans (hget keep (Ne.symm hne)), ?_⟩
      have : (bif Nat.blt i low then i else low) = min i low := low_min' i low
      rw [this] at h8
      omega
section
variable {P : Program} {X : Caller} {Q : Out → Env → GH → Nat → Prop} {gd : Option (P3 × Bool)} {dd : Option P3} {l : List PI} {k : Nat} {sp : List (Nat × (Nat × Nat))} {wr : List Nat} {ks : List Fr} {e : Env} {g : GH} {lo : Nat}
/-- A write into a row. -/
theorem GR.storeR {x y : PO} {v : Value} {vs : List Value} {t : TypeId} {base lw j i fam : Nat} (hg : wantF e gd = some true) (hx : ev e x = .pointer (some ⟨j, i, none⟩)) (hy : ev e y = v) (hcv : cellsOf v = [v]) (hc : cellV v = true)
    (hj : g.get j = slackOb vs t fam) (hjn : j < g.next) (hi : i < vs.length) (hbf : base ≤ fam) (hfj : fam ≤ j) (hms : ∀ z ∈ g.fams fam, z.2 ≤ vs.length ∧ fam ≤ z.1 ∧ z.1 ≤ j) (ho : g.ok) (hlo : lw ≤ lo) (hlw : lw ≤ base)
    (h : ∀ g' lo' wr, RowW g g' base → (g'.get j = slackOb (vs.set i v) t fam ∧ j < g'.next ∧ ∀ z ∈ g'.fams fam, z.2 ≤ vs.length ∧ fam ≤ z.1 ∧ z.1 ≤ j) → lw ≤ lo' → GR P X Q l (Nat.succ k) ((k, (g.next, g.next)) :: sp) wr ks (putE e dd undef) g' lo') :
    GR P X Q (⟨gd, dd, none, some (.store 1 x y), []⟩ :: l) k sp wr ks e g lo := by
  obtain ⟨g1, low1, e1, n1, h1, o1, f1, b1, k1, m1⟩ := killGo_spec j i (g.fams fam) g g.next fam ho (fun z hz => (hms z hz).2.1) (GH.seen hj Nat.one_ne_zero)
  have hj1 : g1.get j = slackOb vs t fam := k1.trans hj
  let ms := (g.fams fam).filter fun m => Nat.ble m.2 i || Nat.beq m.1 j
  let G2 : GH := ⟨g1.tr, g1.next, g1.hid, T5.set g1.fams fam ms⟩
  have ho2 : G2.ok := o1
  have hj2 : G2.get j = slackOb vs t fam := hj1
  let G3 : GH := G2.set j (slackOb (vs.set i v) t fam)
  have hkill : killF (g.at g.next) fam j i = G2.at low1 := by
    unfold killF
    show (killGo j i (g.fams fam) (g.at g.next)).setFam fam ms = _
    rw [e1]; rfl
  have hw : writeF (g.at g.next) ⟨j, i, none⟩ [v] = some (G3.at (bif Nat.blt j low1 then j else low1)) := by
    unfold writeF
    rw [show (g.at g.next).get j = slackOb vs t fam from hj]
    unfold slackOb
    simp only [lenN_length, List.length_singleton]
    rw [show Nat.ble (i + 1) vs.length = true by rw [ble_d, decide_eq_true (by omega)], show Nat.blt j (g.at g.next).next = true from Nat.blt_eq ▸ hjn]
    simp only [Bool.and_self, cond_true, hkill, splice_set _ _ _ hi]
    rfl
  have hs : storeF 1 (g.at g.next) (.pointer (some ⟨j, i, none⟩)) v = some (G3.at (bif Nat.blt j low1 then j else low1)) := by
    unfold storeF
    simp only [hcv, lenN_length, List.length_singleton, List.all_cons, List.all_nil, hc]
    exact hw
  have hget3 : ∀ q, q ≠ j → G3.get q = g1.get q := fun q hq => GH.get_set_ne hj2 Nat.one_ne_zero _ (Ne.symm hq)
  have hfams : ∀ f, G3.fams f = if fam = f then ms else g1.fams f := fun f => T5.get_set' g1.fams fam f ms
  refine GR.wrote (lo' := bif Nat.blt j low1 then j else low1) (v := undef) (g' := G3) hg (Hp.mk (bnd 0) fun call => ?_) h1 (by show g.next ≤ g1.next; omega) ?_
  · simp only [runH, hx, hy, hs, asUnit]
  · have hlow : min j low1 = bif Nat.blt j low1 then j else low1 := (low_min' j low1).symm
    have := h G3 (min lo (bif Nat.blt j low1 then j else low1)) (bif Nat.blt (bif Nat.blt j low1 then j else low1) g.next then k :: wr else wr) ⟨n1, h1, ho2, fun q hq => (hget3 q (by omega)).trans (b1 q (by omega)), fun f hf => by rw [hfams, if_neg (by omega)]; exact f1 f⟩
      ⟨GH.get_set_same hj2 Nat.one_ne_zero _, by show j < g1.next; omega, fun z hz => by
        rw [hfams, if_pos rfl] at hz
        exact hms z (List.mem_filter.1 hz).1⟩ (by rw [← hlow]; omega)
    have hnn : G3.next = g.next := n1
    rw [hnn]
    exact this
/-- A write into a row, as the walk comes to it. -/
theorem Row.store {x y : PO} {v p : Value} {s : Value} {vs : List Value} {t : TypeId} {base lw i : Nat} (hrow : Row g s vs t base) (hp : AtRow s i p) (hi : i < vs.length) (hx : ev e x = p) (hy : ev e y = v) (hcv : cellsOf v = [v]) (hc : cellV v = true) (ho : g.ok) (hlo : lw ≤ lo) (hlw : lw ≤ base)
    (h : ∀ g' lo' wr, RowW g g' base → Row g' s (vs.set i v) t base → lw ≤ lo' → Wk P X Q (.R l (k + 1) ((k, (g.next, g.next)) :: sp) wr ks (putE e dd undef) g' lo')) :
    pV p fun j off => nV (cellsOf (ev e y)) fun us => oC (g.get j) (fun cells t => gP (us.length = 1 ∧ us.all cellV = true ∧ off + us.length ≤ cells.length ∧ j < g.next)
      (Wk P X Q (.R l (k + 1) ((k, (g.next, g.next)) :: sp) (k :: wr) ks (putE e dd undef) (g.set j (cellsOb (splice off cells us) t)) (min lo j)))) (GR P X Q (⟨none, dd, none, some (.store 1 x y), []⟩ :: l) k sp wr ks e g lo) := by
  obtain ⟨j, n, c, rfl, rfl⟩ := hp
  refine ⟨j, i, rfl, ?_⟩
  show nV (cellsOf (ev e y)) _
  rw [nV_eq, hy, hcv]
  show oC (g.get j) _ _
  rcases hrow with ⟨j', c', q, h1, h2, h3⟩ | ⟨q, _⟩ | ⟨j', fam, q, h2, h3, h4, h5, h6, h7⟩
  · cases q
    rw [h3, oC_c]
    refine ⟨⟨rfl, by simp [hc], by simp only [List.length_singleton]; omega, h2⟩, ?_⟩
    rw [splice_set _ _ _ hi]
    have w := Wrote.set (o := cellsOb (vs.set i v) t) h3 Nat.one_ne_zero ho
    exact h _ _ _ ⟨rfl, rfl, w.ok, fun q hq => w.others q (by omega), fun f _ => w.fams f⟩ (.inl ⟨j, c, by simp, h1, h2, w.get⟩) (by omega)
  · cases q
  · cases q
    refine .inr ⟨by rw [h3]; rfl, ?_⟩
    refine GR.storeR rfl hx hy hcv hc h3 h2 hi h5 h6 h7 ho hlo hlw fun g' lo' wr w ⟨q1, q2, q3⟩ hl => (h g' lo' wr w (.inr (.inr ⟨j, fam, by simp, q2, q1, ?_, h5, h6, fun z hz => by rw [List.length_set]; exact q3 z hz⟩)) hl).R
    intro e
    have := congrArg List.length e
    simp at this
    exact h4 (List.eq_nil_of_length_eq_zero (by simpa using this))
end
end Go.Ds
set_option linter.unusedSectionVars false
set_option linter.unusedVariables false
namespace Go.Ds
def AtBlk (s : Value) (j : Nat) : Prop := ∃ n c, s = .slice (some ⟨j, 0, none⟩) n c
theorem Row.at {g : GH} {s : Value} {vs : List Value} {t : TypeId} {base : Nat} (h : Row g s vs t base) {i : Nat} {v : Value} (hv : vs[i]? = some v) : ∃ j, j < g.next ∧ (∀ n : Int, n = i → iaddrSF 1 s (.int .i64 n) = some (.pointer (some ⟨j, i, none⟩))) ∧ (∀ lo, loadF none (g.at lo) (.pointer (some ⟨j, i, none⟩)) = some v) ∧ AtBlk s j := by
  have hlt : i < vs.length := (List.getElem?_eq_some_iff.1 hv).1
  obtain ⟨j, c, rfl, hj⟩ : ∃ j c, s = .slice (some ⟨j, 0, none⟩) vs.length c ∧ j < g.next := by
    rcases h with ⟨j, c, rfl, h1, h2, h3⟩ | ⟨rfl, rfl⟩ | ⟨j, fam, rfl, h2, h3, h4, h5, h6, h7⟩
    · exact ⟨j, c, rfl, h2⟩
    · simp at hlt
    · exact ⟨j, _, rfl, h2⟩
  refine ⟨j, hj, fun n hn => iaddrS_at hn hlt, ?_, _, c, rfl⟩
  obtain ⟨p, h1, h2⟩ := h.read.at hv
  have := h1 (i : Int) rfl
  rw [iaddrS_at rfl hlt] at this
  simp only [Option.some.injEq] at this
  rw [this]
  exact h2
theorem Row.len {g : GH} {s : Value} {vs : List Value} {t : TypeId} {base : Nat} (h : Row g s vs t base) : lenLF s = some (.int .i64 (vs.length : Int)) := h.read.len
section
variable {P : Program} {X : Caller} {Q : Out → Env → GH → Nat → Prop} {gd : Option (P3 × Bool)} {dd : Option P3} {l : List PI} {k : Nat} {sp : List (Nat × (Nat × Nat))} {wr : List Nat} {ks : List Fr} {e : Env} {g : GH} {lo : Nat}
/-- A write into a row, as the walk comes to it. -/
theorem Row.put {x y : PO} {v : Value} {s : Value} {vs : List Value} {t : TypeId} {base lw i j : Nat} (hrow : Row g s vs t base) (hp : AtBlk s j) (hi : i < vs.length) (hx : ev e x = .pointer (some ⟨j, i, none⟩)) (hy : ev e y = v) (hcv : cellsOf v = [v]) (hc : cellV v = true) (ho : g.ok) (hlo : lw ≤ lo) (hlw : lw ≤ base)
    (h : ∀ g' lo' wr, RowW g g' base → Row g' s (vs.set i v) t base → lw ≤ lo' → Wk P X Q (.R l (k + 1) ((k, (g.next, g.next)) :: sp) wr ks (putE e dd undef) g' lo')) :
    oC (g.get j) (fun cells t => gP ([v].length = 1 ∧ [v].all cellV = true ∧ i + [v].length ≤ cells.length ∧ j < g.next)
      (Wk P X Q (.R l (k + 1) ((k, (g.next, g.next)) :: sp) (k :: wr) ks (putE e dd undef) (g.set j (cellsOb (splice i cells [v]) t)) (min lo j)))) (GR P X Q (⟨none, dd, none, some (.store 1 x y), []⟩ :: l) k sp wr ks e g lo) := by
  obtain ⟨n, c, rfl⟩ := hp
  have := Row.store (P := P) (X := X) (Q := Q) (dd := dd) (l := l) (k := k) (sp := sp) (wr := wr) (ks := ks) (lo := lo) hrow ⟨j, n, c, rfl, rfl⟩ hi hx hy hcv hc ho hlo hlw h
  obtain ⟨j', off, q, this⟩ := this
  cases q
  change nV (cellsOf (ev e y)) _ at this
  rw [nV_eq, hy, hcv] at this
  exact this
/-- The same for a row that was appended to. -/
theorem OwnM.put {x y : PO} {v : Value} {s : Value} {vs : List Value} {t : TypeId} {base lw i j : Nat} (hrow : OwnM g s vs t base) (hp : AtBlk s j) (hi : i < vs.length) (hx : ev e x = .pointer (some ⟨j, i, none⟩)) (hy : ev e y = v) (hcv : cellsOf v = [v]) (hc : cellV v = true) (ho : g.ok) (hlo : lw ≤ lo) (hlw : lw ≤ base)
    (h : ∀ g' lo' wr, RowW g g' base → OwnM g' s (vs.set i v) t base → lw ≤ lo' → Wk P X Q (.R l (k + 1) ((k, (g.next, g.next)) :: sp) wr ks (putE e dd undef) g' lo')) :
    oC (g.get j) (fun cells t => gP ([v].length = 1 ∧ [v].all cellV = true ∧ i + [v].length ≤ cells.length ∧ j < g.next)
      (Wk P X Q (.R l (k + 1) ((k, (g.next, g.next)) :: sp) (k :: wr) ks (putE e dd undef) (g.set j (cellsOb (splice i cells [v]) t)) (min lo j)))) (GR P X Q (⟨none, dd, none, some (.store 1 x y), []⟩ :: l) k sp wr ks e g lo) := by
  obtain ⟨n, c, rfl⟩ := hp
  rcases hrow with ⟨q, _⟩ | ⟨j', fam, q, h2, h3, h4, h5, h6, h7⟩
  · cases q
  · cases q
    refine .inr ⟨by rw [h3]; rfl, ?_⟩
    refine GR.storeR rfl hx hy hcv hc h3 h2 hi h5 h6 h7 ho hlo hlw fun g' lo' wr w ⟨q1, q2, q3⟩ hl => (h g' lo' wr w (.inr ⟨j, fam, by simp, q2, q1, ?_, h5, h6, fun z hz => by rw [List.length_set]; exact q3 z hz⟩) hl).R
    intro e
    have := congrArg List.length e
    simp at this
    exact h4 (List.eq_nil_of_length_eq_zero (by simpa using this))
theorem Kept.write {a g g' : GH} {b : Nat} (h : Kept a g) (w : RowW g g' b) (hb : a.next ≤ b) : Kept a g' :=
  h.after ⟨by rw [w.next]; exact Nat.le_refl _, w.gets, w.fams⟩ hb
end
end Go.Ds
set_option linter.unusedSectionVars false
set_option linter.unusedVariables false
namespace Go.Ds
/-- A slice that was made by appending, and its family. -/
def OwnE (g : GH) (s : Value) (vs : List Value) (t : TypeId) (base fam : Nat) : Prop :=
  (s = .slice none 0 0 ∧ vs = []) ∨ ∃ j, s = .slice (some ⟨j, 0, none⟩) vs.length (OPEN + 1) ∧ j < g.next ∧ g.get j = slackOb vs t fam ∧ vs ≠ [] ∧ base ≤ fam ∧ fam ≤ j ∧ (∀ x ∈ g.fams fam, x.2 ≤ vs.length)
theorem OwnE.own {g : GH} {s : Value} {vs : List Value} {t : TypeId} {base fam : Nat} (h : OwnE g s vs t base fam) : Own g s vs t base := by
  rcases h with h | ⟨j, h⟩
  · exact .inl h
  · exact .inr ⟨j, fam, h⟩
theorem OwnE.read {g : GH} {s : Value} {vs : List Value} {t : TypeId} {base fam : Nat} (h : OwnE g s vs t base fam) : SlR g s vs := h.own.read
theorem OwnE.nil {g : GH} {t : TypeId} {base fam : Nat} : OwnE g (.slice none 0 0) [] t base fam := .inl ⟨rfl, rfl⟩
theorem OwnE.fam_lt {g : GH} {s : Value} {vs : List Value} {t : TypeId} {base fam : Nat} (h : OwnE g s vs t base fam) (hne : vs ≠ []) : fam < g.next := by
  rcases h with ⟨_, h⟩ | ⟨j, _, h1, _, _, _, h2, _⟩
  · exact absurd h hne
  · omega
theorem OwnE.mono {g g' : GH} {s : Value} {vs : List Value} {t : TypeId} {base fam : Nat} (h : OwnE g s vs t base fam) (hn : g.next ≤ g'.next) (hg : ∀ j, j < g.next → base ≤ j → g'.get j = g.get j) (hf : vs ≠ [] → g'.fams fam = g.fams fam) : OwnE g' s vs t base fam := by
  rcases h with h | ⟨j, h1, h2, h3, h4, h5, h6, h7⟩
  · exact .inl h
  · exact .inr ⟨j, h1, by omega, by rw [hg j h2 (by omega)]; exact h3, h4, h5, h6, by rw [hf h4]; exact h7⟩
theorem OwnE.kept {g g' : GH} {s : Value} {vs : List Value} {t : TypeId} {base fam : Nat} (h : OwnE g s vs t base fam) (x : Kept g g') : OwnE g' s vs t base fam :=
  h.mono x.next (fun j hj _ => x.gets j hj) fun hne => x.fams _ (h.fam_lt hne)
theorem OwnE.cell {g : GH} {s : Value} {vs : List Value} {t : TypeId} {base fam : Nat} (h : OwnE g s vs t base fam) : cellV s = true := h.own.cell
theorem OwnE.slice {g : GH} {s : Value} {vs : List Value} {t : TypeId} {base fam : Nat} (h : OwnE g s vs t base fam) : ∃ a n c, s = .slice a n c := by
  rcases h with ⟨rfl, _⟩ | ⟨j, rfl, _⟩ <;> exact ⟨_, _, _, rfl⟩
theorem SlR.slice {g : GH} {s : Value} {vs : List Value} (h : SlR g s vs) : ∃ a n c, s = .slice a n c := by
  rcases h with ⟨rfl, _⟩ | ⟨j, o, c, ob, rfl, _⟩ <;> exact ⟨_, _, _, rfl⟩
/-- What an append leaves. -/
structure GrewE (g g' : GH) (s' : Value) (vs : List Value) (t : TypeId) (base fam : Nat) : Prop where
  next : g'.next = g.next + 1
  hid : g'.hid = g.hid
  ok : g'.ok
  gets : ∀ j, j < g.next → g'.get j = g.get j
  fams : ∀ f, f < g.next → f ≠ fam → g'.fams f = g.fams f
  own : OwnE g' s' vs t base fam
  read : ∀ s ws, SlR g s ws → SlR g' s ws

section
variable {P : Program} {X : Caller} {Q : Out → Env → GH → Nat → Prop} {gd : Option (P3 × Bool)} {dd : Option P3} {l : List PI} {k : Nat} {sp : List (Nat × (Nat × Nat))} {wr : List Nat} {ks : List Fr} {e : Env} {g : GH} {lo : Nat}
end
end Go.Ds
set_option linter.unusedSectionVars false
set_option linter.unusedVariables false
namespace Go.Ds
section
variable {P : Program} {X : Caller} {Q : Out → Env → GH → Nat → Prop} {dd : Option P3} {l : List PI} {k : Nat} {sp : List (Nat × (Nat × Nat))} {wr : List Nat} {ks : List Fr} {e : Env} {g : GH} {lo : Nat}
end
end Go.Ds
set_option linter.unusedSectionVars false
set_option linter.unusedVariables false
namespace Go.Ds
/-! ## A symbolic beginning, and a closed rest -/
section
variable {P : Program} {X : Caller} {Q : Out → Env → GH → Nat → Prop}
/-- A beginning that leaves the heap, then the rest. -/
theorem GC.cut {a b : PC} {ks : List Fr} {e : Env} {g : GH} {lo : Nat} (h : GC P X (fun o e' g' lo' => o = .normal ∧ g' = g ∧ lo' = lo ∧ GC P X Q b ks e' g lo) a [] e g lo) : GC P X Q (.seq a b) ks e g lo := by
  unfold GC at *
  intro hl ho
  obtain ⟨i, d, n, o1, e1, g1, lo1, o', e', g', lo', k1, k2, rfl, rfl, rfl, k3⟩ := h hl ho
  simp only [evKs, Option.some.injEq, Prod.mk.injEq] at k2
  obtain ⟨rfl, rfl, hg⟩ := k2
  rw [hg] at k1
  obtain ⟨i2, d2, n2, o2, e2, g2, lo2, o3, e3, g3, lo3, q1, q2, q3⟩ := k3 hl ho
  let I := bnd (max (@LIM i) (@LIM i2))
  have hL : @LIM i ≤ @LIM I := Nat.le_max_left _ _
  have hL2 : @LIM i2 ≤ @LIM I := Nat.le_max_right _ _
  refine ⟨I, max d d2, max n n2, o2, e2, g2, lo2, o3, e3, g3, lo3, ?_, ?_, q3⟩
  · simp only [evC]
    rw [evC_mono hL (evF_mono hL (Nat.le_max_left _ _) (Nat.le_max_left _ _)) (Nat.le_max_left _ _) k1]
    simp only
    rw [evC_mono hL2 (evF_mono hL2 (Nat.le_max_right _ _) (Nat.le_max_right _ _)) (Nat.le_max_right _ _) q1]
  · exact evKs_mono hL2 (evF_mono hL2 (Nat.le_max_right _ _) (Nat.le_max_right _ _)) (Nat.le_max_right _ _) q2
/-- The run ends, and returns true. -/
def okTrue (rs : List PR) : Option (Out × Env × AH) → Bool
  | some (.exit _, _, _) => false
  | some (_, e, h) => match resF h e rs with
    | some [.bool true] => true
    | _ => false
  | none => false
noncomputable def evalC (i : Inhabited Bound) (P : Program) (X : Caller) (fuel d : Nat) (c : PC) (e : Env) (h : AH) : Option (Out × Env × AH) :=
  closeC c fun F => F (@evK i P X fuel d) fuel e h
theorem GC.eval {rs : List PR} {g0 : GH} {Qv : Value → GH → Nat → Prop} {c : PC} {e : Env} {g : GH} {lo : Nat} (i : Inhabited Bound) (n d : Nat) (hv : ∀ g' lo', Qv (.bool true) g' lo') (h : okTrue rs (evalC i P X n d c e (g.at lo)) = true) : GC P X (fun o e g' lo => (∀ id, o ≠ .exit id) ∧ ∃ l, resF (g'.at lo) e rs = some l ∧ (GExt g0 g' lo → Qv (oneOf l) g' lo)) c [] e g lo := by
  unfold GC at *
  intro hl ho
  unfold evalC at h
  rw [@closeC_eq i] at h
  rw [@evK_eq i] at h
  unfold okTrue at h
  split at h
  · cases h
  · rename_i o e' h' hne hr
    split at h
    · rename_i l hres
      refine ⟨i, d, n, o, e', ⟨h'.tr, h'.next, h'.hid, h'.fams⟩, h'.low, o, e', ⟨h'.tr, h'.next, h'.hid, h'.fams⟩, h'.low, hr, rfl, fun id hid => hne id (by rw [hid]), _, hres, fun _ => hv _ _⟩
    · cases h
  · cases h
end
end Go.Ds
set_option linter.unusedSectionVars false
set_option linter.unusedVariables false
namespace Go.Ds
open Go.ChangeShapes Go.WideShapes

/-! ## What came in, with slices in it -/
/-- The rows lie in these blocks, cell by cell. -/
structure SeenR (w : World) (rows : List (List Value)) (bs : List Nat) : Prop where
  len : bs.length = rows.length
  apart : ∀ (i j b : Nat), bs[i]? = some b → bs[j]? = some b → i = j
  rel : ∀ (i : Nat) r b, rows[i]? = some r → bs[i]? = some b → b < w.heap.size ∧ ∃ c t fr, w.heap[b]? = some (.cells c t fr) ∧ ∀ (k : Nat) v, r[k]? = some v → isJ v = true ∨ ∃ v', c[k]? = some v' ∧ VRel (seenPhi bs) v v'
theorem SeenR.emb {w : World} {rows : List (List Value)} {bs : List Nat} (h : SeenR w rows bs) (lo : Nat) [Inhabited Bound] (hL : rows.length ≤ LIM) : Emb (seenPhi bs) ((seenG rows).at lo) 0 w where
  dom := fun i e hi => by
    have := (List.getElem?_eq_some_iff.1 (seenPhi_some hi)).1
    show i < (seenG rows).next
    rw [seen_next, ← h.len]; exact this
  base := fun i e hi => by
    have hb := seenPhi_some hi
    have hlt := (List.getElem?_eq_some_iff.1 hb).1
    exact ⟨Nat.zero_le _, (h.rel i _ _ (List.getElem?_eq_getElem (by rw [← h.len]; exact hlt)) hb).1⟩
  obj := fun i hi hk => by
    have hi : i < rows.length := by rw [← seen_next rows]; exact hi
    have hr := List.getElem?_eq_getElem hi
    have hb := List.getElem?_eq_getElem (show i < bs.length by rw [h.len]; exact hi)
    obtain ⟨h1, c, t, fr, h2, h3⟩ := h.rel i _ _ hr hb
    refine ⟨⟨bs[i]'(by rw [h.len]; exact hi), 0⟩, by unfold seenPhi; rw [hb], ?_⟩
    have hg : ((seenG rows).at lo).get i = seenOb rows[i] := seen_get rows hr
    rw [hg]
    exact .inr (.inr (.inr ⟨rfl, ⟨rfl, .inl rfl⟩, c, t, fr, h2, fun k v hv => h3 k v hv⟩))
  apart := fun i j ei ej hi hj _ _ hne hb => by
    have h1 := seenPhi_some hi
    have h2 := seenPhi_some hj
    rw [← hb] at h2
    exact absurd (h.apart i j _ h1 h2) hne
  fam := fun i hi hk hs => by
    have hi : i < rows.length := by rw [← seen_next rows]; exact hi
    have hg : ((seenG rows).at lo).get i = seenOb rows[i] := seen_get rows (List.getElem?_eq_getElem hi)
    rw [hg] at hs; cases hs
  lim := by show (seenG rows).next ≤ _; rw [seen_next]; exact hL
  size := Nat.zero_le _
/-! ### A list with each member once -/
def once : List Nat → List Nat
  | [] => []
  | x :: l => if x ∈ once l then once l else x :: once l
theorem once_mem {x : Nat} : ∀ {l : List Nat}, x ∈ once l ↔ x ∈ l
  | [] => Iff.rfl
  | y :: l => by
    unfold once
    split
    · rename_i h
      rw [once_mem, List.mem_cons]
      constructor
      · exact .inr
      · rintro (rfl | h2)
        · exact once_mem.1 h
        · exact h2
    · rw [List.mem_cons, List.mem_cons, once_mem]
theorem once_apart : ∀ {l : List Nat} (i j b : Nat), (once l)[i]? = some b → (once l)[j]? = some b → i = j
  | [], i, j, b, h, _ => by simp [once] at h
  | y :: l, i, j, b, h, k => by
    unfold once at h k
    split at h
    · rename_i c
      rw [if_pos c] at k
      exact once_apart i j b h k
    · rename_i c
      rw [if_neg c] at k
      match i, j with
      | 0, 0 => rfl
      | i + 1, j + 1 => rw [once_apart i j b (by simpa using h) (by simpa using k)]
      | 0, j + 1 =>
        simp only [List.getElem?_cons_zero, Option.some.injEq] at h
        subst h
        exact absurd (List.mem_of_getElem? (by simpa using k)) c
      | i + 1, 0 =>
        simp only [List.getElem?_cons_zero, Option.some.injEq] at k
        subst k
        exact absurd (List.mem_of_getElem? (by simpa using h)) c

/-! ### Values, as they are seen -/
def absV (bs : List Nat) : Value → Value
  | .slice (some a) l c => if c = 0 ∧ l = 0 then .slice (some ⟨0, 0, none⟩) 0 0 else if a.spot = none ∧ a.block ∈ bs ∧ l ≤ c ∧ c < OPEN then .slice (some ⟨bs.idxOf a.block, a.off, none⟩) l c else junkV
  | v => if plainC v = true ∧ isJ v = false then v else junkV
theorem seenPhi_idx {bs : List Nat} {b : Nat} (h : b ∈ bs) : seenPhi bs (bs.idxOf b) = some ⟨b, 0⟩ := by
  unfold seenPhi
  have hlt := List.idxOf_lt_length_of_mem h
  rw [List.getElem?_eq_getElem hlt, List.getElem_idxOf hlt]
theorem absV_rel (bs : List Nat) (v : Value) : isJ (absV bs v) = true ∨ VRel (seenPhi bs) (absV bs v) v := by
  have inst : Inhabited Bound := ⟨⟨0⟩⟩
  unfold absV
  split
  · rename_i a l c
    split
    · rename_i h
      obtain ⟨rfl, rfl⟩ := h
      exact .inr (.sdead _ _)
    · split
      · rename_i h
        obtain ⟨h1, h2, h3, h4⟩ := h
        obtain ⟨b, off, spot⟩ := a
        dsimp only at h1 h2 ⊢
        subst h1
        exact .inr (.slc _ ⟨b, 0⟩ off l c (seenPhi_idx h2) h4 h3)
      · exact .inl rfl
  · split
    · rename_i h
      exact .inr (VRel.plainC h.1)
    · exact .inl rfl
def rowAt (w : World) (bs : List Nat) (b : Nat) : List Value :=
  match w.heap[b]? with
  | some (.cells c _ _) => c.toList.map (absV bs)
  | _ => []
def rowsAt (w : World) (bs : List Nat) : List (List Value) := bs.map (rowAt w bs)
theorem seen_world {w : World} {l : List Nat} (hb : ∀ b ∈ l, ∃ c t fr, w.heap[b]? = some (.cells c t fr)) : SeenR w (rowsAt w (once l)) (once l) where
  len := by simp [rowsAt]
  apart := once_apart
  rel := fun i r b hr hbi => by
    unfold rowsAt at hr
    rw [List.getElem?_map, hbi] at hr
    simp only [Option.map_some, Option.some.injEq] at hr
    subst hr
    obtain ⟨c, t, fr, hc⟩ := hb b (once_mem.1 (List.mem_of_getElem? hbi))
    refine ⟨(Array.getElem?_eq_some_iff.1 hc).1, c, t, fr, hc, fun k v hk => ?_⟩
    unfold rowAt at hk
    rw [hc] at hk
    simp only [List.getElem?_map, Option.map_eq_some_iff] at hk
    obtain ⟨v', h1, rfl⟩ := hk
    exact (absV_rel _ v').imp id fun h => ⟨v', by simpa using h1, h⟩
theorem addr_add {b off : Nat} (i : Nat) : (⟨b, off, none⟩ : Addr).add i = ⟨b, off + i, none⟩ := by
  unfold Addr.add
  split
  · rename_i h; congr 1; omega
  · rfl
/-- What is read of a slice in these blocks. -/
theorem seen_slice {w : World} {l : List Nat} {b off len cap : Nat} (hl : b ∈ l) {vs : List Value} (hlen : vs.length = len) (hcap : len ≤ cap) (hc0 : ¬ (cap = 0 ∧ len = 0)) (ho : cap < OPEN) {c : Array Value} {t : TypeId} {fr : Nat × Nat} (hc : w.heap[b]? = some (.cells c t fr)) (hoff : off ≤ c.size)
    (hv : ∀ (i : Nat) v, vs[i]? = some v → ∃ v', w.cell? ⟨b, off + i, none⟩ = some v' ∧ v = absV (once l) v' ∧ isJ v = false) :
    VRel (seenPhi (once l)) (absV (once l) (.slice (some ⟨b, off, none⟩) len cap)) (.slice (some ⟨b, off, none⟩) len cap) ∧ isJ (absV (once l) (.slice (some ⟨b, off, none⟩) len cap)) = false ∧ SlR (seenG (rowsAt w (once l))) (absV (once l) (.slice (some ⟨b, off, none⟩) len cap)) vs := by
  have hm : b ∈ once l := once_mem.2 hl
  have e : absV (once l) (.slice (some ⟨b, off, none⟩) len cap) = .slice (some ⟨(once l).idxOf b, off, none⟩) len cap := by
    rw [absV, if_neg hc0, if_pos ⟨rfl, hm, hcap, ho⟩]
  have hlt := List.idxOf_lt_length_of_mem hm
  have hrow : (rowsAt w (once l))[(once l).idxOf b]? = some (c.toList.map (absV (once l))) := by
    unfold rowsAt
    rw [List.getElem?_map, List.getElem?_eq_getElem hlt, List.getElem_idxOf hlt]
    simp only [Option.map_some, rowAt, hc]
  rw [e]
  have hget : ∀ i, i < len → (c.toList.map (absV (once l)))[off + i]? = vs[i]? := by
    intro i hi
    obtain ⟨v', h1, h2, h3⟩ := hv i _ (List.getElem?_eq_getElem (show i < vs.length by omega))
    rw [List.getElem?_eq_getElem (show i < vs.length by omega), h2, List.getElem?_map]
    unfold World.cell? at h1
    rw [hc] at h1
    simp only [Option.isSome_none, Bool.false_eq_true, if_false] at h1
    simp [h1]
  refine ⟨.slc _ ⟨b, 0⟩ off len cap (seenPhi_idx hm) ho hcap, rfl, ?_⟩
  have hfit : off + len ≤ (c.toList.map (absV (once l))).length := by
    by_cases h0 : len = 0
    · subst h0; simpa using hoff
    · have := hget (len - 1) (by omega)
      rw [List.getElem?_eq_getElem (show len - 1 < vs.length by omega)] at this
      have := (List.getElem?_eq_some_iff.1 this).1
      omega
  refine .inr ⟨(once l).idxOf b, off, cap, seenOb (c.toList.map (absV (once l))), by rw [hlen], by rw [seen_next]; simp only [rowsAt, List.length_map]; exact hlt, seen_get _ hrow, .inr ⟨rfl, ?_⟩, by show off + vs.length ≤ _; rw [hlen]; exact hfit, ?_⟩
  · rw [List.any_eq_false]
    intro x hx
    obtain ⟨i, hi⟩ := List.getElem?_of_mem hx
    obtain ⟨_, _, _, h3⟩ := hv i x hi
    rw [h3]; simp
  · show ((c.toList.map (absV (once l))).drop off).take vs.length = vs
    apply List.ext_getElem?
    intro i
    by_cases hi : i < vs.length
    · rw [List.getElem?_take, if_pos hi, List.getElem?_drop]
      exact hget i (by omega)
    · rw [List.getElem?_take, if_neg hi, List.getElem?_eq_none (by omega)]
/-- A slice of no room. -/
theorem seen_dead {w : World} {l : List Nat} (h0 : l ≠ []) (a : Addr) : VRel (seenPhi (once l)) (absV (once l) (.slice (some a) 0 0)) (.slice (some a) 0 0) ∧ isJ (absV (once l) (.slice (some a) 0 0)) = false ∧ SlR (seenG (rowsAt w (once l))) (absV (once l) (.slice (some a) 0 0)) [] := by
  have e : absV (once l) (.slice (some a) 0 0) = .slice (some ⟨0, 0, none⟩) 0 0 := by
    rw [absV, if_pos ⟨rfl, rfl⟩]
  rw [e]
  have hne : 0 < (once l).length := by
    obtain ⟨x, hx⟩ := List.exists_mem_of_ne_nil l h0
    exact List.length_pos_of_mem (once_mem.2 hx)
  have hlt : 0 < (rowsAt w (once l)).length := by simp only [rowsAt, List.length_map]; exact hne
  exact ⟨.sdead _ _, rfl, .inr ⟨0, 0, 0, _, rfl, by rw [seen_next]; exact hlt, seen_get _ (List.getElem?_eq_getElem hlt), .inr ⟨rfl, rfl⟩, Nat.zero_le _, rfl⟩⟩

/-! ### A list of lists of integers that came in -/
/-- What a list of integers is, where it lies in a cell. -/
def InnerOk (w : World) (k : IntKind) (x : Value) (zs : List Int) : Prop :=
  (x = .slice none 0 0 ∧ zs = []) ∨ (∃ a, x = .slice (some a) 0 0 ∧ zs = []) ∨
  ∃ (b off len cap : Nat) (c : Array Value) (t : TypeId) (fr : Nat × Nat), x = .slice (some ⟨b, off, none⟩) len cap ∧ 0 < cap ∧ zs.length = len ∧ len ≤ cap ∧ cap < OPEN ∧ w.heap[b]? = some (.cells c t fr) ∧ off ≤ c.size ∧ ∀ i, i < len → w.cell? ⟨b, off + i, none⟩ = some (.int k (zs.getD i 0))
def blocksIn : Value → List Nat
  | .slice (some a) _ (_ + 1) => [a.block]
  | _ => []
theorem inner_has {w : World} {k : IntKind} {x : Value} {zs : List Int} (h : InnerOk w k x zs) : ∀ b ∈ blocksIn x, ∃ c t fr, w.heap[b]? = some (.cells c t fr) := by
  intro b hb
  rcases h with ⟨rfl, _⟩ | ⟨a, rfl, _⟩ | ⟨b', off, len, cap, c, t, fr, rfl, h1, h2, h3, h4, h5, h6, h7⟩
  · simp [blocksIn] at hb
  · simp [blocksIn] at hb
  · obtain ⟨m, rfl⟩ : ∃ m, cap = m + 1 := ⟨cap - 1, by omega⟩
    simp only [blocksIn, List.mem_singleton] at hb
    subst hb
    exact ⟨c, t, fr, h5⟩
theorem inner_seen {w : World} {k : IntKind} {x : Value} {zs : List Int} (h : InnerOk w k x zs) {l : List Nat} (h0 : l ≠ []) (hl : ∀ b ∈ blocksIn x, b ∈ l) :
    isJ (absV (once l) x) = false ∧ SlR (seenG (rowsAt w (once l))) (absV (once l) x) (zs.map (Value.int k)) := by
  rcases h with ⟨rfl, rfl⟩ | ⟨a, rfl, rfl⟩ | ⟨b, off, len, cap, c, t, fr, rfl, h1, h2, h3, h4, h5, h6, h7⟩
  · have e : absV (once l) (.slice none 0 0) = .slice none 0 0 := by
      rw [absV]
      · rfl
      · intro a l c h; cases h
    rw [e]
    exact ⟨rfl, SlR.nil⟩
  · exact (seen_dead h0 a).2
  · have hb : b ∈ l := by
      obtain ⟨m, rfl⟩ : ∃ m, cap = m + 1 := ⟨cap - 1, by omega⟩
      exact hl b (by simp [blocksIn])
    refine (seen_slice hb (vs := zs.map (Value.int k)) (by rw [List.length_map]; exact h2) h3 (by omega) h4 h5 h6 (fun i v hi => ?_)).2
    rw [List.getElem?_map, Option.map_eq_some_iff] at hi
    obtain ⟨z, hz, rfl⟩ := hi
    have hlt := (List.getElem?_eq_some_iff.1 hz).1
    refine ⟨.int k z, ?_, ?_, rfl⟩
    · rw [h7 i (by omega)]; simp [hz]
    · rw [absV]
      · rfl
      · intro a l c h; cases h
theorem cell_has {w : World} {a : Addr} {v : Value} (h : w.cell? a = some v) : a.spot = none ∧ ∃ c t fr, w.heap[a.block]? = some (.cells c t fr) ∧ a.off < c.size := by
  unfold World.cell? at h
  split at h
  · rename_i c t fr hc
    split at h
    · cases h
    · rename_i hs
      exact ⟨by cases hq : a.spot with
        | none => rfl
        | some x => rw [hq] at hs; exact absurd rfl hs, c, t, fr, hc, (Array.getElem?_eq_some_iff.1 h).1⟩
  · cases h
theorem open_inner {H : Type} {enc : TypeId × Value → H} {P : Program} {w : World} {base : Nat} {held : Bool} {t e : TypeId} {k : IntKind} {fuel : Nat} {v : Value} {x : DataW H × List MemPlace} (ht : P.underlying t = some (.slice e)) (he : P.underlying e = some (.int k)) (hc : P.cellsOf e = 1)
    (h : DataW.trod enc P w base (fun _ => true) held fuel t [v] = some x) : ∃ zs, InnerOk w k v zs ∧ zs.length ≤ 9223372036854775807 ∧ ∀ n ∈ zs, (Lit.int k n).wf = true := by
  rcases open_ints ht he hc h with ⟨h1, _⟩ | ⟨a, len, cap, zs, h1, _, hl, hm, hz, _, hcell, hw⟩
  · simp only [List.cons.injEq, and_true] at h1
    subst h1
    exact ⟨[], .inl ⟨rfl, rfl⟩, by simp, by simp⟩
  · simp only [List.cons.injEq, and_true] at h1
    subst h1
    rw [if_pos rfl] at hz
    have hml : maxLen = 9223372036854775807 := rfl
    rw [hml] at hm
    by_cases c0 : cap = 0
    · subst c0
      have : len = 0 := by omega
      subst this
      exact ⟨[], .inr (.inl ⟨a, rfl, rfl⟩), by simp, by simp⟩
    · have h00 := hcell 0 (by omega)
      rw [show a.add 0 = a from rfl] at h00
      obtain ⟨q1, c, t', fr, q2, q3⟩ := cell_has h00
      obtain ⟨b, off, spot⟩ := a
      dsimp only at q1 q2 q3
      subst q1
      have hlt : (zs.take len).length = len := by rw [List.length_take]; omega
      refine ⟨zs.take len, .inr (.inr ⟨b, off, len, cap, c, t', fr, rfl, by omega, hlt, hl, by unfold OPEN; omega, q2, by omega, fun i hi => ?_⟩), by omega, fun n hn => hw n (List.mem_of_mem_take hn)⟩
      have := hcell i (by omega)
      rw [addr_add] at this
      rw [this]
      congr 2
      simp only [List.getD, List.getElem?_take, if_pos hi]
theorem list_of {α : Type} {Q : Nat → α → Prop} : ∀ n, (∀ i, i < n → ∃ y, Q i y) → ∃ L : List α, L.length = n ∧ ∀ (i : Nat) y, L[i]? = some y → Q i y
  | 0, _ => ⟨[], rfl, fun i y h => by simp at h⟩
  | n + 1, h => by
    obtain ⟨L, h1, h2⟩ := list_of n fun i hi => h i (by omega)
    obtain ⟨y, hy⟩ := h n (by omega)
    refine ⟨L ++ [y], by simp [h1], fun i z hz => ?_⟩
    by_cases c : i < L.length
    · rw [List.getElem?_append_left c] at hz
      exact h2 i z hz
    · have := (List.getElem?_eq_some_iff.1 hz).1
      simp only [List.length_append, List.length_singleton] at this
      have : i = n := by omega
      subst this
      rw [List.getElem?_append_right (by omega), h1, Nat.sub_self] at hz
      simp at hz
      subst hz
      exact hy
theorem absV_good {bs : List Nat} {v : Value} (h : isJ (absV bs v) = false) : VRel (seenPhi bs) (absV bs v) v := by
  rcases absV_rel bs v with h2 | h2
  · rw [h] at h2; cases h2
  · exact h2
/-- An argument that is a list of integers. -/
def Arg1 (w : World) (k : IntKind) (v : Value) (zs : List Int) : Prop :=
  (v = .slice none 0 0 ∧ zs = []) ∨ ∃ (b off len cap : Nat) (c : Array Value) (t : TypeId) (fr : Nat × Nat), v = .slice (some ⟨b, off, none⟩) len cap ∧ w.heap[b]? = some (.cells c t fr) ∧ InnerOk w k v zs
/-- An argument that is a list of lists of integers. -/
def Arg2 (w : World) (k : IntKind) (v : Value) (L : List (Value × List Int)) : Prop :=
  (v = .slice none 0 0 ∧ L = []) ∨ ∃ (b off len cap : Nat) (c : Array Value) (t : TypeId) (fr : Nat × Nat), v = .slice (some ⟨b, off, none⟩) len cap ∧ L.length = len ∧ len ≤ cap ∧ cap < OPEN ∧ w.heap[b]? = some (.cells c t fr) ∧ (cap ≠ 0 → off ≤ c.size) ∧
    ∀ (i : Nat) y, L[i]? = some y → w.cell? ⟨b, off + i, none⟩ = some y.1 ∧ InnerOk w k y.1 y.2
def blocks1 : Value → List Nat
  | .slice (some a) _ _ => [a.block]
  | _ => []
def blocks2 (v : Value) (L : List (Value × List Int)) : List Nat := blocks1 v ++ L.flatMap fun y => blocksIn y.1
theorem Arg1.has {w : World} {k : IntKind} {v : Value} {zs : List Int} (h : Arg1 w k v zs) : ∀ b ∈ blocks1 v, ∃ c t fr, w.heap[b]? = some (.cells c t fr) := by
  intro b hb
  rcases h with ⟨rfl, _⟩ | ⟨b', off, len, cap, c, t, fr, rfl, h1, _⟩
  · simp [blocks1] at hb
  · simp only [blocks1, List.mem_singleton] at hb
    subst hb
    exact ⟨c, t, fr, h1⟩
theorem Arg2.has {w : World} {k : IntKind} {v : Value} {L : List (Value × List Int)} (h : Arg2 w k v L) : ∀ b ∈ blocks2 v L, ∃ c t fr, w.heap[b]? = some (.cells c t fr) := by
  intro b hb
  rcases h with ⟨rfl, rfl⟩ | ⟨b', off, len, cap, c, t, fr, rfl, _, _, _, h1, _, h2⟩
  · simp [blocks2, blocks1] at hb
  · unfold blocks2 at hb
    rcases List.mem_append.1 hb with hb | hb
    · simp only [blocks1, List.mem_singleton] at hb
      subst hb
      exact ⟨c, t, fr, h1⟩
    · obtain ⟨y, hy, hb⟩ := List.mem_flatMap.1 hb
      obtain ⟨i, hi⟩ := List.getElem?_of_mem hy
      exact inner_has (h2 i y hi).2 b hb
theorem Arg1.seen {w : World} {k : IntKind} {v : Value} {zs : List Int} (h : Arg1 w k v zs) {l : List Nat} (hl : ∀ b ∈ blocks1 v, b ∈ l) :
    VRel (seenPhi (once l)) (absV (once l) v) v ∧ SlR (seenG (rowsAt w (once l))) (absV (once l) v) (zs.map (Value.int k)) := by
  rcases h with ⟨rfl, rfl⟩ | ⟨b, off, len, cap, c, t, fr, rfl, h1, h2⟩
  · have e : absV (once l) (.slice none 0 0) = .slice none 0 0 := by
      rw [absV]
      · rfl
      · intro a l c h; cases h
    rw [e]
    exact ⟨.snil, SlR.nil⟩
  · have hb : b ∈ l := hl b (by simp [blocks1])
    have := inner_seen h2 (l := l) (fun e => by rw [e] at hb; cases hb) (fun b' hb' => by
      unfold blocksIn at hb'
      split at hb'
      · rename_i e
        cases e
        simp only [List.mem_singleton] at hb'
        subst hb'
        exact hb
      · cases hb')
    exact ⟨absV_good this.1, this.2⟩
theorem Arg2.seen {w : World} {k : IntKind} {v : Value} {L : List (Value × List Int)} (h : Arg2 w k v L) {l : List Nat} (hl : ∀ b ∈ blocks2 v L, b ∈ l) :
    VRel (seenPhi (once l)) (absV (once l) v) v ∧ ∃ us : List Value, SlR (seenG (rowsAt w (once l))) (absV (once l) v) us ∧ us.length = (L.map (·.2)).length ∧ ∀ (i : Nat) x zs, us[i]? = some x → (L.map (·.2))[i]? = some zs → SlR (seenG (rowsAt w (once l))) x (zs.map (Value.int k)) := by
  rcases h with ⟨rfl, rfl⟩ | ⟨b, off, len, cap, c, t, fr, rfl, h1, h2, h3, h4, h5, h6⟩
  · have e : absV (once l) (.slice none 0 0) = .slice none 0 0 := by
      rw [absV]
      · rfl
      · intro a l c h; cases h
    rw [e]
    exact ⟨.snil, [], SlR.nil, rfl, fun i x zs h => by simp at h⟩
  · have hb : b ∈ l := hl b (by simp [blocks2, blocks1])
    have hl0 : l ≠ [] := fun e => by rw [e] at hb; cases hb
    have hsub : ∀ y ∈ L, ∀ b' ∈ blocksIn y.1, b' ∈ l := fun y hy b' hb' => hl b' (by
      unfold blocks2
      exact List.mem_append.2 (.inr (List.mem_flatMap.2 ⟨y, hy, hb'⟩)))
    have hin : ∀ y ∈ L, InnerOk w k y.1 y.2 := by
      intro y hy
      obtain ⟨i, hi⟩ := List.getElem?_of_mem hy
      exact (h6 i y hi).2
    have hus : ∀ (i : Nat) x, (L.map fun y => absV (once l) y.1)[i]? = some x → ∃ y, L[i]? = some y ∧ x = absV (once l) y.1 := by
      intro i x hi
      rw [List.getElem?_map, Option.map_eq_some_iff] at hi
      obtain ⟨y, h2, rfl⟩ := hi
      exact ⟨y, h2, rfl⟩
    have outer : isJ (absV (once l) (.slice (some ⟨b, off, none⟩) len cap)) = false ∧ SlR (seenG (rowsAt w (once l))) (absV (once l) (.slice (some ⟨b, off, none⟩) len cap)) (L.map fun y => absV (once l) y.1) := by
      by_cases c0 : cap = 0
      · subst c0
        have : len = 0 := by omega
        subst this
        have : L = [] := List.eq_nil_of_length_eq_zero h1
        rw [this]
        exact (seen_dead (w := w) hl0 ⟨b, off, none⟩).2
      · exact (seen_slice (w := w) (l := l) (vs := L.map fun y => absV (once l) y.1) hb (by rw [List.length_map]; exact h1) h2 (by omega) h3 h4 (h5 c0) (fun i x hi => by
          obtain ⟨y, g1, rfl⟩ := hus i x hi
          have hmem := List.mem_of_getElem? g1
          exact ⟨y.1, (h6 i y g1).1, rfl, (inner_seen (hin y hmem) hl0 (hsub y hmem)).1⟩)).2
    refine ⟨absV_good outer.1, _, outer.2, by simp, ?_⟩
    intro i x zs hi hz
    obtain ⟨y, g1, rfl⟩ := hus i x hi
    rw [List.getElem?_map, g1] at hz
    simp only [Option.map_some, Option.some.injEq] at hz
    subst hz
    have hmem := List.mem_of_getElem? g1
    exact (inner_seen (hin y hmem) hl0 (hsub y hmem)).2
theorem open_arg2 {H : Type} {enc : TypeId × Value → H} {P : Program} {w : World} {r : Reach} {b0 base : Nat} {held : Bool} {t e2 e : TypeId} {k : IntKind} {v : Value} {d : DataW H} {p : List MemPlace} (ht : P.underlying t = some (.slice e2)) (ht2 : P.underlying e2 = some (.slice e)) (he : P.underlying e = some (.int k)) (hc : P.cellsOf e = 1) (hc2 : P.cellsOf e2 = 1)
    (hv : Value.okWide P w r b0 t v) (h : DataW.Trod enc P w base (fun _ => true) held t v d p) :
    ∃ L, Arg2 w k v L ∧ L.length ≤ 9223372036854775807 ∧ ∀ y ∈ L, y.2.length ≤ 9223372036854775807 ∧ ∀ n ∈ y.2, (Lit.int k n).wf = true := by
  obtain ⟨fuel, hf⟩ := h
  have hcells : v.cells.toList = [v] := by
    unfold Value.okWide at hv
    simp only [ht] at hv
    unfold Cell.okWide at hv
    simp only [ht] at hv
    unfold Cell.ok at hv
    cases v <;> first | rfl | (simp only [ht] at hv)
  rw [hcells] at hf
  rcases DataW.trod_slice ht hf with ⟨h1, _⟩ | ⟨a, len, cap, elems, rest, n, _, h1, _, hb, hl, hm, hlen, hel, hsp, _⟩
  · simp only [List.cons.injEq, and_true] at h1
    subst h1
    exact ⟨[], .inl ⟨rfl, rfl⟩, by simp, by simp⟩
  · simp only [List.cons.injEq, and_true] at h1
    subst h1
    obtain ⟨q1, q2, q3, c, row, fr, q4⟩ := slice_has ht hv
    have hmx : IntKind.i64.max = 9223372036854775807 := rfl
    rw [hmx] at q2
    obtain ⟨blk, off, spot⟩ := a
    dsimp only at q3 q4
    subst q3
    have hx : ∀ i, i < len → ∃ y : Value × List Int, w.cell? ⟨blk, off + i, none⟩ = some y.1 ∧ InnerOk w k y.1 y.2 ∧ y.2.length ≤ 9223372036854775807 ∧ ∀ n ∈ y.2, (Lit.int k n).wf = true := by
      intro i hi
      have h2 := hel i hi
      rw [List.getElem?_eq_getElem (show i < elems.length by omega), hc2, Nat.mul_one, Option.bind_eq_some_iff] at h2
      obtain ⟨cs, hcs, hy⟩ := h2
      obtain ⟨_, g1, g2⟩ := World.cells?_some hcs
      obtain ⟨x, rfl⟩ : ∃ x, cs = [x] := by
        match cs, g1 with
        | [x], _ => exact ⟨x, rfl⟩
      obtain ⟨zs, z1, z2, z3⟩ := open_inner ht2 he hc hy
      have hcell := cell_of_cells?_one hcs
      rw [addr_add] at hcell
      exact ⟨(x, zs), hcell, z1, z2, z3⟩
    obtain ⟨L, hL, hQ⟩ := list_of len hx
    refine ⟨L, .inr ⟨blk, off, len, cap, c, row, fr, rfl, hL, hl, by unfold OPEN; omega, q4, fun c0 => ?_, fun i y hi => ⟨(hQ i y hi).1, (hQ i y hi).2.1⟩⟩, by omega, fun y hy => ?_⟩
    · have : ∃ x, w.cell? ⟨blk, off, none⟩ = some x := by
        by_cases l0 : len = 0
        · subst l0
          obtain ⟨r1, r2⟩ := hsp rfl
          have h2 := r2 0 (by omega)
          rw [List.getElem?_eq_getElem (show 0 < rest.length by omega), hc2, Option.bind_eq_some_iff] at h2
          obtain ⟨cs, hcs, _⟩ := h2
          obtain ⟨_, g1, g2⟩ := World.cells?_some hcs
          have := g2 0 (by omega)
          obtain ⟨x, rfl⟩ : ∃ x, cs = [x] := by
            match cs, g1 with
            | [x], _ => exact ⟨x, rfl⟩
          exact ⟨x, this⟩
        · obtain ⟨y, h2, _⟩ := hx 0 (by omega)
          exact ⟨y.1, h2⟩
      obtain ⟨x, hx⟩ := this
      obtain ⟨_, c', t', fr', g1, g2⟩ := cell_has hx
      dsimp only at g1 g2
      rw [q4] at g1
      cases g1
      omega
    · obtain ⟨i, hi⟩ := List.getElem?_of_mem hy
      exact (hQ i y hi).2.2
end Go.Ds
