import Derived.Test.YtieliilnnfjijaaDtO
set_option linter.all false
set_option linter.unusedSimpArgs false
set_option linter.unnecessarySimpa false
set_option linter.unusedVariables false
set_option linter.unusedSectionVars false
set_option linter.unusedSectionVars false
set_option linter.unusedVariables false
namespace Go.Ds
/-- One object was written. -/
structure Wrote (g g' : GH) (j : Nat) (o : Ob) : Prop where
  next : g'.next = g.next
  hid : g'.hid = g.hid
  ok : g'.ok
  fams : ∀ f, g'.fams f = g.fams f
  get : g'.get j = o
  others : ∀ i, i ≠ j → g'.get i = g.get i
theorem Wrote.kept {a g g' : GH} {j : Nat} {o : Ob} (h : Wrote g g' j o) (k : Kept a g) (hj : a.next ≤ j) : Kept a g' :=
  ⟨by rw [h.next]; exact k.next, fun i hi => (h.others i (by omega)).trans (k.gets i hi), fun f hf => (h.fams f).trans (k.fams f hf)⟩
theorem Wrote.set {g : GH} {j : Nat} {o o' : Ob} (hj : g.get j = o') (hk : o'.kind ≠ 0) (ho : g.ok) : Wrote g (g.set j o) j o :=
  ⟨rfl, rfl, GH.ok_set ho, fun _ => rfl, GH.get_set_same hj hk o, fun i hi => GH.get_set_ne hj hk o (Ne.symm hi)⟩
theorem SlR.whole {g : GH} {j n c : Nat} {vs : List Value} {t : TypeId} (h : g.get j = cellsOb vs t) (hj : j < g.next) (hn : n = vs.length) : SlR g (.slice (some ⟨j, 0, none⟩) n c) vs := by
  subst hn
  exact .inr ⟨j, 0, c, _, rfl, hj, h, .inl rfl, by simp [cellsOb], by simp [cellsOb]⟩
theorem SlR.wrote {g g' : GH} {s : Value} {vs : List Value} {j0 : Nat} {o : Ob} (h : SlR g s vs) (w : Wrote g g' j0 o) (hne : ∀ a l c, s = .slice (some a) l c → a.block ≠ j0) : SlR g' s vs :=
  h.but hne (by rw [w.next]; exact Nat.le_refl _) fun j _ hj => w.others j hj
/-- What an append leaves. -/
structure Grew2 (g g' : GH) (s' : Value) (vs : List Value) (t : TypeId) (base : Nat) : Prop where
  next : g'.next = g.next + 1
  hid : g'.hid = g.hid
  ok : g'.ok
  gets : ∀ j, j < g.next → g'.get j = g.get j
  fams : ∀ f, f < base → g'.fams f = g.fams f
  own : Own g' s' vs t base
  read : ∀ s ws, SlR g s ws → SlR g' s ws

/-- What was there is there as it was; who grows it is not told. -/
structure Keeps (g g' : GH) : Prop where
  next : g.next ≤ g'.next
  gets : ∀ j, j < g.next → g'.get j = g.get j
theorem Keeps.refl (g : GH) : Keeps g g := ⟨Nat.le_refl _, fun _ _ => rfl⟩
theorem Keeps.trans {a b c : GH} (h : Keeps a b) (k : Keeps b c) : Keeps a c :=
  ⟨Nat.le_trans h.next k.next, fun j hj => (k.gets j (Nat.lt_of_lt_of_le hj h.next)).trans (h.gets j hj)⟩
theorem Kept.keeps {a b : GH} (h : Kept a b) : Keeps a b := ⟨h.next, h.gets⟩
theorem GExt.keeps {g g' : GH} (x : GExt g g' g.next) : Keeps g g' := ⟨x.next, x.gets⟩
theorem Keeps.push {a b : GH} (h : Keeps a b) (ho : b.ok) (o : Ob) : Keeps a (b.push o) :=
  h.trans ⟨Nat.le_succ _, fun j hj => by rw [GH.get_push ho, if_neg (by omega)]⟩
theorem Keeps.grew {a g g' : GH} {s' : Value} {vs : List Value} {t : TypeId} {base : Nat} (h : Keeps a g) (x : Grew2 g g' s' vs t base) : Keeps a g' :=
  h.trans ⟨by have := x.next; omega, x.gets⟩
theorem Keeps.wrote {a g g' : GH} {j : Nat} {o : Ob} (k : Keeps a g) (h : Wrote g g' j o) (hj : a.next ≤ j) : Keeps a g' :=
  ⟨by rw [h.next]; exact k.next, fun i hi => (h.others i (by omega)).trans (k.gets i hi)⟩
theorem SlR.keeps {g g' : GH} {s : Value} {vs : List Value} (h : SlR g s vs) (x : Keeps g g') : SlR g' s vs := h.mono x.next x.gets
theorem Kept.grew2 {a g g' : GH} {s' : Value} {vs : List Value} {t : TypeId} {base : Nat} (h : Kept a g) (x : Grew2 g g' s' vs t base) (hb : a.next ≤ base) : Kept a g' :=
  ⟨by have := h.next; have := x.next; omega, fun j hj => (x.gets j (Nat.lt_of_lt_of_le hj h.next)).trans (h.gets j hj), fun f hf => (x.fams f (by omega)).trans (h.fams f hf)⟩
section
variable {P : Program} {X : Caller} {Q : Out → Env → GH → Nat → Prop} {gd : Option (P3 × Bool)} {dd : Option P3} {l : List PI} {k : Nat} {sp : List (Nat × (Nat × Nat))} {wr : List Nat} {ks : List Fr} {e : Env} {g : GH} {lo : Nat}
theorem GR.cpy {x y : PO} {j c n : Nat} {cells new : List Value} {t : TypeId} {sv : Value} (hg : wantF e gd = some true) (hx : ev e x = .slice (some ⟨j, 0, none⟩) n c) (hy : ev e y = sv) (hnew : SlR g sv new) (hj : g.get j = cellsOb cells t) (hn : n ≤ cells.length)
    (hlt : j < g.next) (hc : new.all cellV = true) (hle : new.length ≤ n) (ho : g.ok)
    (h : ∀ g' lo' sp wr, Wrote g g' j (cellsOb (new ++ cells.drop new.length) t) → min lo j ≤ lo' → GR P X Q l (Nat.succ k) sp wr ks (putE e dd (.int .i64 new.length)) g' lo') :
    GR P X Q (⟨gd, dd, none, some (.cpy 1 x y), []⟩ :: l) k sp wr ks e g lo := by
  have hlen : lenF sv = some new.length := by
    rcases hnew with ⟨rfl, rfl⟩ | ⟨j, off, cap, ob, rfl, _⟩ <;> rfl
  have hstr : strOk 1 sv = true := by
    rcases hnew with ⟨rfl, rfl⟩ | ⟨j, off, cap, ob, rfl, _⟩ <;> rfl
  have hmin : Nat.min new.length n = new.length := Nat.min_eq_left hle
  have hfirst : ∀ lo, firstF (g.at lo) 1 new.length sv = some new := by
    intro lo
    rcases hnew with ⟨rfl, rfl⟩ | ⟨j, off, cap, ob, rfl, h2, h3, h4, h5, h6⟩
    · rfl
    · simp only [firstF, Nat.mul_one]
      have := SlR.readN (cap := cap) (lo := lo) h3 h4 h5 h6 (i := 0) (n := new.length) (by omega)
      rw [Nat.add_zero, List.drop_zero, List.take_length] at this
      exact this
  by_cases h0 : new.length = 0
  · have hnil : new = [] := List.eq_nil_of_length_eq_zero h0
    have hz : Nat.beq new.length 0 = true := by rw [h0]; rfl
    refine GR.same (v := .int .i64 new.length) hg (Hp.mk (bnd 0) fun call => ?_) (h g lo _ _ ⟨rfl, rfl, ho, fun _ => rfl, by rw [hj, hnil]; rfl, fun _ _ => rfl⟩ (Nat.min_le_left _ _))
    simp only [runH, hx, hy, hstr, cond_true, cpyF, hlen, hmin, hfirst, hz]
    rw [h0]; rfl
  · have hz : Nat.beq new.length 0 = false := by rw [beq_d, decide_eq_false h0]
    have hsp : splice 0 cells new = new ++ cells.drop new.length := by simp only [splice, lenN_length, dropN_drop]
    have hw : writeF (g.at g.next) ⟨j, 0, none⟩ new = some ((g.set j (cellsOb (new ++ cells.drop new.length) t)).at j) := by
      unfold writeF
      rw [show (g.at g.next).get j = cellsOb cells t from hj]
      unfold cellsOb
      simp only [lenN_length]
      rw [show Nat.ble (0 + new.length) cells.length = true by rw [ble_d, decide_eq_true (by omega)], show Nat.blt j (g.at g.next).next = true from Nat.blt_eq ▸ hlt]
      simp only [Bool.and_self, cond_true, cond_false, hsp]
      have hb : Nat.blt j g.next = true := Nat.blt_eq ▸ hlt
      simp only [AH.set, GH.at, GH.set, hb, cond_true]
    refine GR.wrote (lo' := j) (v := .int .i64 new.length) (g' := g.set j (cellsOb (new ++ cells.drop new.length) t)) hg (Hp.mk (bnd 0) fun call => ?_) rfl (Nat.le_refl _) (h _ _ _ _ (Wrote.set hj Nat.one_ne_zero ho) (Nat.le_refl _))
    simp only [runH, hx, hy, hstr, cond_true, cpyF, hlen, hmin, hfirst, hz, hc, Bool.not_true, cond_false, hw]
    rfl
theorem Wk.cpy {x y : PO} {j c n : Nat} {cells new : List Value} {t : TypeId} {sv : Value} (hx : ev e x = .slice (some ⟨j, 0, none⟩) n c) (hy : ev e y = sv) (hnew : SlR g sv new) (hj : g.get j = cellsOb cells t) (hn : n ≤ cells.length)
    (hlt : j < g.next) (hc : new.all cellV = true) (hle : new.length ≤ n) (ho : g.ok)
    (h : ∀ g' lo' sp wr, Wrote g g' j (cellsOb (new ++ cells.drop new.length) t) → min lo j ≤ lo' → Wk P X Q (.R l (k + 1) sp wr ks (putE e dd (.int .i64 new.length)) g' lo')) :
    Wk P X Q (.R (⟨none, dd, none, some (.cpy 1 x y), []⟩ :: l) k sp wr ks e g lo) := by
  rw [Wk.of_GR fun n => rfl]
  exact GR.cpy rfl hx hy hnew hj hn hlt hc hle ho fun g' lo' sp wr h1 h2 => (h g' lo' sp wr h1 h2).R
/-- Appending what is read elsewhere to a slice that is owned. -/
theorem GR.app2 {t : TypeId} {b : Nat} {s x : PO} {sv xv : Value} {vs new : List Value} {base lw : Nat} (hg : wantF e gd = some true) (hs : ev e s = sv) (hx : ev e x = xv) (hown : Own g sv vs t base) (hnew : SlR g xv new) (hne : new ≠ [])
    (hc : new.all cellV = true) (hsz : (vs.length + new.length) * (b + 1) ≤ 1073741824) (hb : base ≤ g.next) (hlo : lw ≤ lo) (hlw : lw ≤ base) (ho : g.ok)
    (h : ∀ s' g' lo' sp wr, Grew2 g g' s' (vs ++ new) t base → lw ≤ lo' → GR P X Q l (Nat.succ k) sp wr ks (putE e dd s') g' lo') :
    GR P X Q (⟨gd, dd, none, some (.app t 1 b s x), []⟩ :: l) k sp wr ks e g lo := by
  have hlen : lenF xv = some new.length := by
    rcases hnew with ⟨rfl, rfl⟩ | ⟨j, off, cap, ob, rfl, _⟩ <;> rfl
  have hstr : strOk 1 xv = true := by
    rcases hnew with ⟨rfl, rfl⟩ | ⟨j, off, cap, ob, rfl, _⟩ <;> rfl
  have hfirst : ∀ lo, firstF (g.at lo) 1 new.length xv = some new := by
    intro lo
    rcases hnew with ⟨rfl, rfl⟩ | ⟨j, off, cap, ob, rfl, h2, h3, h4, h5, h6⟩
    · exact absurd rfl hne
    · simp only [firstF, Nat.mul_one]
      have := SlR.readN (cap := cap) (lo := lo) h3 h4 h5 h6 (i := 0) (n := new.length) (by omega)
      rw [Nat.add_zero, List.drop_zero, List.take_length] at this
      exact this
  have hpos : 0 < new.length := List.length_pos_iff.2 hne
  have hz : Nat.beq new.length 0 = false := by rw [beq_d, decide_eq_false_iff_not]; omega
  rcases hown with ⟨rfl, rfl⟩ | ⟨j, fam, rfl, h2, h3, h4, h5, h6, h7⟩
  · let G : GH := ⟨T5.set g.tr g.next (slackOb new t g.next), Nat.succ g.next, g.hid, T5.set g.fams g.next [(g.next, new.length)]⟩
    refine GR.more (v := .slice (some ⟨g.next, 0, none⟩) new.length (OPEN + 1)) (g' := G) hg (Hp.mk (bnd (g.next + 1)) fun call => ?_) rfl (Nat.le_succ _) (h _ G lo _ _ ?_ hlo)
    · simp only [runH, hs, hx, hstr, cond_true, appF, hlen]
      rw [mul_succ_le (by simpa using hsz), hz, hfirst]
      simp only [cond_false]
      rw [show (Nat.beq 0 0 && Nat.beq 0 0) = true from rfl]
      simp only [cond_true, appNew]
      have : Nat.blt (g.at g.next).next (@LIM (bnd (g.next + 1))) = true := by rw [Nat.blt_eq]; exact Nat.lt_succ_self _
      rw [this]
      simp only [cond_true, lenN_length]
      rfl
    · have hget : ∀ j, G.get j = if g.next = j then slackOb new t g.next else g.get j := GH.get_push ho (slackOb new t g.next)
      refine ⟨rfl, rfl, fun i hi => ho i (Nat.le_trans (Nat.le_succ _) hi), fun i hi => by rw [hget, if_neg (by omega)], fun f hf => ?_, .inr ⟨g.next, g.next, by simp, Nat.lt_succ_self _, by rw [hget, if_pos rfl]; simp, by simpa using hne, hb, Nat.le_refl _, ?_⟩, fun s ws hr => hr.mono (Nat.le_succ _) fun i hi => by rw [hget, if_neg (by omega)]⟩
      · show (T5.set g.fams g.next [(g.next, new.length)]) f = _
        rw [T5.get_set', if_neg (by omega)]
      · show ∀ x ∈ (T5.set g.fams g.next [(g.next, new.length)]) g.next, _
        rw [T5.get_set', if_pos rfl]
        simp
  · let G : GH := ⟨T5.set g.tr g.next (slackOb (vs ++ new) t fam), Nat.succ g.next, g.hid, T5.set (T5.set g.fams fam (g.fams fam)) fam ((g.next, vs.length + new.length) :: g.fams fam)⟩
    have hvl : 0 < vs.length := List.length_pos_iff.2 h4
    refine GR.wrote (v := .slice (some ⟨g.next, 0, none⟩) (vs.length + new.length) (OPEN + 1)) (g' := G) (lo' := j) hg (Hp.mk (bnd (g.next + 1)) fun call => ?_) rfl (Nat.le_succ _) (h _ G _ _ _ ?_ (by omega))
    · have hkill : killF (g.at g.next) fam (g.at g.next).next vs.length = (⟨g.tr, g.next, g.hid, T5.set g.fams fam (g.fams fam)⟩ : GH).at g.next := by
        unfold killF
        show (killGo _ _ (g.fams fam) _).setFam fam ((g.fams fam).filter _) = _
        rw [killGo_none _ _ _ _ h7, filter_all h7]
        rfl
      have hb1 : Nat.ble (vs.length + new.length) vs.length = false := by rw [ble_d, decide_eq_false_iff_not]; omega
      have htake : takeN vs.length vs = some vs := by rw [takeN_len (Nat.le_refl _), List.take_length]
      have hz0 : Nat.beq vs.length 0 = false := by rw [beq_d, decide_eq_false_iff_not]; omega
      have hlt : Nat.blt j g.next = true := Nat.blt_eq ▸ h2
      simp only [runH, hs, hx, hstr, cond_true, appF, hlen]
      rw [mul_succ_le (by simpa using hsz), hz, hfirst]
      simp only [cond_false]
      rw [show (g.at g.next).get j = slackOb vs t fam from h3]
      unfold slackOb
      simp only [lenN_length, Nat.zero_add, Nat.mul_one, hb1, hz0, Bool.false_and, cond_false, htake]
      rw [show Nat.beq (OPEN + 1) (OPEN + 1) = true by simp, show Nat.beq t t = true by simp]
      simp only [cond_true, Bool.and_self, appMay, hkill]
      have hL : Nat.blt (g.at g.next).next (@LIM (bnd (g.next + 1))) = true := by rw [Nat.blt_eq]; exact Nat.lt_succ_self _
      rw [hL, show Nat.blt j (g.at g.next).next = true from hlt, hc]
      rw [show Nat.beq 0 0 = true from rfl]
      simp only [Bool.and_self, cond_true, GH.at, hlt, lenN_length, List.length_append, T5.get_set', if_true]
      rfl
    · have hget : ∀ j, G.get j = if g.next = j then slackOb (vs ++ new) t fam else g.get j := GH.get_push ho (slackOb (vs ++ new) t fam)
      refine ⟨rfl, rfl, fun i hi => ho i (Nat.le_trans (Nat.le_succ _) hi), fun i hi => by rw [hget, if_neg (by omega)], fun f hf => ?_, .inr ⟨g.next, fam, by simp, Nat.lt_succ_self _, by rw [hget, if_pos rfl], by simp [hne], h5, by omega, ?_⟩, fun s ws hr => hr.mono (Nat.le_succ _) fun i hi => by rw [hget, if_neg (by omega)]⟩
      · show (T5.set (T5.set g.fams fam (g.fams fam)) fam ((g.next, vs.length + new.length) :: g.fams fam)) f = _
        rw [T5.get_set', T5.get_set', if_neg (by omega), if_neg (by omega)]
      · show ∀ x ∈ (T5.set (T5.set g.fams fam (g.fams fam)) fam ((g.next, vs.length + new.length) :: g.fams fam)) fam, _
        rw [T5.get_set', if_pos rfl]
        intro x hx
        rcases List.mem_cons.1 hx with rfl | hx
        · simp
        · have := h7 x hx; simp; omega
theorem AppD.own2 {t : TypeId} {b : Nat} {sv xv : Value} {vs new : List Value} {base lw : Nat} (hown : Own g sv vs t base) (hnew : SlR g xv new) (hne : new ≠ [])
    (hc : new.all cellV = true) (hsz : (vs.length + new.length) * (b + 1) ≤ 1073741824) (hb : base ≤ g.next) (hlo : lw ≤ lo) (hlw : lw ≤ base) (ho : g.ok)
    (h : ∀ s' g' lo' sp wr, Grew2 g g' s' (vs ++ new) t base → lw ≤ lo' → Wk P X Q (.R l (k + 1) sp wr ks (putE e dd s') g' lo')) : AppD P X Q t 1 b sv xv [] dd l k sp wr ks e g lo := fun y z hy hz =>
  GR.app2 rfl hy hz hown hnew hne hc hsz hb hlo hlw ho fun s' g' lo' sp wr hg hl => (h s' g' lo' sp wr hg hl).R
end
end Go.Ds
