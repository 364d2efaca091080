import Derived.Test.YtngmaccaldhjcaaDoorDtB
set_option linter.all false
set_option linter.unusedSimpArgs false
set_option linter.unnecessarySimpa false
set_option linter.unusedVariables false
set_option linter.unusedSectionVars false
set_option linter.unusedSectionVars false
set_option linter.unusedVariables false
namespace Go.Ds

/-! ## Slices of one-celled elements -/
/-- A slice reads as these values. -/
def SlR (g : GH) (s : Value) (vs : List Value) : Prop :=
  (s = .slice none 0 0 ∧ vs = []) ∨ ∃ j off cap ob, s = .slice (some ⟨j, off, none⟩) vs.length cap ∧ j < g.next ∧ g.get j = ob ∧ (ob.kind = 1 ∨ (ob.kind = 4 ∧ vs.any isJ = false)) ∧ off + vs.length ≤ ob.cells.length ∧ (ob.cells.drop off).take vs.length = vs
/-- A slice that was made by appending, whose array nobody else has grown; nothing that it is made of lies below the base. -/
def Own (g : GH) (s : Value) (vs : List Value) (t : TypeId) (base : Nat) : Prop :=
  (s = .slice none 0 0 ∧ vs = []) ∨ ∃ j fam, s = .slice (some ⟨j, 0, none⟩) vs.length (OPEN + 1) ∧ j < g.next ∧ g.get j = slackOb vs t fam ∧ vs ≠ [] ∧ base ≤ fam ∧ fam ≤ j ∧ (∀ x ∈ g.fams fam, x.2 ≤ vs.length)
theorem Own.read {g : GH} {s : Value} {vs : List Value} {t : TypeId} {base : Nat} (h : Own g s vs t base) : SlR g s vs := by
  rcases h with h | ⟨j, fam, h1, h2, h3, h4, h5, h6, h7⟩
  · exact .inl h
  · exact .inr ⟨j, 0, _, _, h1, h2, h3, .inl rfl, by simp [slackOb], by simp [slackOb]⟩
theorem Own.nil {g : GH} {t : TypeId} {base : Nat} : Own g (.slice none 0 0) [] t base := .inl ⟨rfl, rfl⟩
theorem SlR.nil {g : GH} : SlR g (.slice none 0 0) [] := .inl ⟨rfl, rfl⟩
theorem SlR.len {g : GH} {s : Value} {vs : List Value} (h : SlR g s vs) : lenLF s = some (.int .i64 (vs.length : Int)) := by
  rcases h with ⟨rfl, rfl⟩ | ⟨j, off, cap, ob, rfl, _⟩ <;> rfl
/-- What was there stays: the same is read. -/
theorem SlR.mono {g g' : GH} {s : Value} {vs : List Value} (h : SlR g s vs) (hn : g.next ≤ g'.next) (hg : ∀ j, j < g.next → g'.get j = g.get j) : SlR g' s vs := by
  rcases h with h | ⟨j, off, cap, ob, h1, h2, h3, h4, h5, h6⟩
  · exact .inl h
  · exact .inr ⟨j, off, cap, ob, h1, by omega, by rw [hg j h2]; exact h3, h4, h5, h6⟩
theorem Own.mono {g g' : GH} {s : Value} {vs : List Value} {t : TypeId} {base : Nat} (h : Own g s vs t base) (hn : g.next ≤ g'.next) (hg : ∀ j, j < g.next → g'.get j = g.get j) (hf : ∀ f, f < g.next → g'.fams f = g.fams f) : Own g' s vs t base := by
  rcases h with h | ⟨j, fam, h1, h2, h3, h4, h5, h6, h7⟩
  · exact .inl h
  · exact .inr ⟨j, fam, h1, by omega, by rw [hg j h2]; exact h3, h4, h5, h6, by rw [hf fam (by omega)]; exact h7⟩
theorem SlR.one {g : GH} (ho : g.ok) (v : Value) (t : TypeId) : SlR (g.push (cellsOb [v] t)) (.slice (some ⟨g.next, 0, none⟩) 1 1) [v] :=
  .inr ⟨g.next, 0, 1, cellsOb [v] t, rfl, Nat.lt_succ_self _, by rw [GH.get_push ho, if_pos rfl], .inl rfl, Nat.le_refl _, rfl⟩
theorem GExt.gets {g g' : GH} (x : GExt g g' g.next) : ∀ j, j < g.next → g'.get j = g.get j := fun j h => x.get h h
theorem SlR.ext {g g' : GH} {s : Value} {vs : List Value} (h : SlR g s vs) (x : GExt g g' g.next) : SlR g' s vs := h.mono x.next x.gets
theorem Own.ext {g g' : GH} {s : Value} {vs : List Value} {t : TypeId} {base : Nat} (h : Own g s vs t base) (x : GExt g g' g.next) : Own g' s vs t base := h.mono x.next x.gets (x.fams rfl)
theorem SlR.push {g : GH} {s : Value} {vs : List Value} (h : SlR g s vs) (ho : g.ok) (o : Ob) : SlR (g.push o) s vs :=
  h.mono (Nat.le_succ _) fun j hj => by rw [GH.get_push ho, if_neg (by omega)]
theorem Own.push {g : GH} {s : Value} {vs : List Value} {t : TypeId} {base : Nat} (h : Own g s vs t base) (ho : g.ok) (o : Ob) : Own (g.push o) s vs t base :=
  h.mono (Nat.le_succ _) (fun j hj => by rw [GH.get_push ho, if_neg (by omega)]) fun _ _ => rfl
theorem SlR.set {g : GH} {s : Value} {vs : List Value} (h : SlR g s vs) {j0 : Nat} {o0 o : Ob} (h0 : g.get j0 = o0) (hk : o0.kind ≠ 0) (hne : ∀ a l c, s = .slice (some a) l c → a.block ≠ j0) : SlR (g.set j0 o) s vs := by
  rcases h with h | ⟨j, off, cap, ob, h1, h2, h3, h4, h5, h6⟩
  · exact .inl h
  · exact .inr ⟨j, off, cap, ob, h1, h2, by rw [GH.get_set j0 (GH.seen h0 hk), if_neg (fun e => hne _ _ _ h1 e.symm)]; exact h3, h4, h5, h6⟩
/-- A part of a slice's row is read. -/
theorem SlR.readN {g : GH} {j off cap lo : Nat} {vs : List Value} {ob : Ob} (h3 : g.get j = ob) (h4 : ob.kind = 1 ∨ (ob.kind = 4 ∧ vs.any isJ = false)) (h5 : off + vs.length ≤ ob.cells.length) (h6 : (ob.cells.drop off).take vs.length = vs)
    {i n : Nat} (hi : i + n ≤ vs.length) : readN (g.at lo) ⟨j, off + i, none⟩ n = some ((vs.drop i).take n) := by
  have ht : takeN n (dropN (off + i) ob.cells) = some ((vs.drop i).take n) := by
    rw [dropN_drop, takeN_len (by rw [List.length_drop]; omega), ← List.drop_drop]
    congr 1
    apply List.ext_getElem?
    intro k
    rw [List.getElem?_take, List.getElem?_take]
    by_cases c : k < n
    · rw [if_pos c, if_pos c, List.getElem?_drop, List.getElem?_drop, List.getElem?_drop (xs := vs)]
      have hg : vs[i + k]? = ((ob.cells.drop off).take vs.length)[i + k]? := by rw [h6]
      rw [hg, List.getElem?_take, if_pos (by omega), List.getElem?_drop]
    · rw [if_neg c, if_neg c]
  obtain ⟨kd, cells, el, fam, slack, es, cl, st, po⟩ := ob
  unfold Ds.readN
  rw [show (g.at lo).get j = _ from h3]
  simp only at h4 ht ⊢
  rcases h4 with rfl | ⟨rfl, hj⟩
  · exact ht
  · show known (takeN n (dropN (off + i) cells)) = _
    rw [ht]
    unfold known
    have : ((vs.drop i).take n).any isJ = false := by
      rw [List.any_eq_false] at hj ⊢
      exact fun x hx => hj x (List.mem_of_mem_drop (List.mem_of_mem_take hx))
    show (bif ((vs.drop i).take n).any isJ then none else some ((vs.drop i).take n)) = _
    rw [this]; rfl
theorem SlR.ptr {g : GH} {s : Value} {vs : List Value} (h : SlR g s vs) {i : Nat} {v : Value} (hv : vs[i]? = some v) : ∃ j o, j < g.next ∧ (∀ n : Int, n = i → iaddrSF 1 s (.int .i64 n) = some (.pointer (some ⟨j, o, none⟩))) ∧ ∀ lo, loadF none (g.at lo) (.pointer (some ⟨j, o, none⟩)) = some v := by
  have hlt : i < vs.length := (List.getElem?_eq_some_iff.1 hv).1
  rcases h with ⟨rfl, rfl⟩ | ⟨j, off, cap, ob, rfl, h2, h3, h4, h5, h6⟩
  · simp at hlt
  · refine ⟨j, off + i, h2, fun n hn => ?_, fun lo => ?_⟩
    · subst hn
      simp only [iaddrSF, asNat_nat]
      rw [show Nat.blt i vs.length = true from Nat.blt_eq ▸ hlt]
      simp only [cond_true, Addr.add, Nat.mul_one]
      by_cases c : i = 0
      · subst c; rfl
      · simp [c]
    · simp only [loadF]
      rw [SlR.readN (cap := cap) h3 h4 h5 h6 (i := i) (n := 1) (by omega)]
      have : (vs.drop i).take 1 = [v] := by
        rw [List.drop_eq_getElem_cons hlt]
        simp only [List.take_succ_cons, List.take_zero]
        rw [← (List.getElem?_eq_some_iff.1 hv).2]
      rw [this]
/-- The place of an element, and what is there. -/
theorem SlR.at {g : GH} {s : Value} {vs : List Value} (h : SlR g s vs) {i : Nat} {v : Value} (hv : vs[i]? = some v) : ∃ p, (∀ n : Int, n = i → iaddrSF 1 s (.int .i64 n) = some p) ∧ ∀ lo, loadF none (g.at lo) p = some v :=
  let ⟨j, o, _, h1, h2⟩ := h.ptr hv
  ⟨_, h1, h2⟩

/-- What was there is there as it was. -/
structure Kept (g g' : GH) : Prop where
  next : g.next ≤ g'.next
  gets : ∀ j, j < g.next → g'.get j = g.get j
  fams : ∀ f, f < g.next → g'.fams f = g.fams f
theorem Kept.refl (g : GH) : Kept g g := ⟨Nat.le_refl _, fun _ _ => rfl, fun _ _ => rfl⟩
theorem Kept.trans {a b c : GH} (h : Kept a b) (k : Kept b c) : Kept a c :=
  ⟨Nat.le_trans h.next k.next, fun j hj => (k.gets j (Nat.lt_of_lt_of_le hj h.next)).trans (h.gets j hj), fun j hj => (k.fams j (Nat.lt_of_lt_of_le hj h.next)).trans (h.fams j hj)⟩
theorem Kept.push {a b : GH} (h : Kept a b) (ho : b.ok) (o : Ob) : Kept a (b.push o) :=
  h.trans ⟨Nat.le_succ _, fun j hj => by rw [GH.get_push ho, if_neg (by omega)], fun _ _ => rfl⟩
theorem GExt.kept {g g' : GH} (x : GExt g g' g.next) : Kept g g' := ⟨x.next, x.gets, x.fams rfl⟩
theorem Kept.ext {a g g' : GH} (h : Kept a g) (x : GExt g g' g.next) : Kept a g' := h.trans x.kept
theorem SlR.kept {g g' : GH} {s : Value} {vs : List Value} (h : SlR g s vs) (x : Kept g g') : SlR g' s vs := h.mono x.next x.gets
theorem Own.kept {g g' : GH} {s : Value} {vs : List Value} {t : TypeId} {base : Nat} (h : Own g s vs t base) (x : Kept g g') : Own g' s vs t base := h.mono x.next x.gets x.fams

theorem Own.cell {g : GH} {s : Value} {vs : List Value} {t : TypeId} {base : Nat} (h : Own g s vs t base) : cellV s = true := by
  rcases h with ⟨rfl, _⟩ | ⟨j, fam, rfl, _⟩ <;> rfl
theorem SlR.cell {g : GH} {s : Value} {vs : List Value} (h : SlR g s vs) : cellV s = true := by
  rcases h with ⟨rfl, _⟩ | ⟨j, c, o, p, rfl, _⟩ <;> rfl
theorem Kept.set {a b : GH} (h : Kept a b) {j : Nat} {o' : Ob} (hj : b.get j = o') (hk : o'.kind ≠ 0) (hb : a.next ≤ j) (o : Ob) : Kept a (b.set j o) :=
  ⟨h.next, fun i hi => by rw [GH.get_set_ne hj hk o (by omega)]; exact h.gets i hi, h.fams⟩

section
variable {P : Program} {X : Caller} {Q : Out → Env → GH → Nat → Prop} {gd : Option (P3 × Bool)} {dd : Option P3} {l : List PI} {k : Nat} {sp : List (Nat × (Nat × Nat))} {wr : List Nat} {ks : List Fr} {e : Env} {g : GH} {lo : Nat}

theorem killGo_none (keep off : Nat) : ∀ (ms : List (Nat × Nat)) (h : AH), (∀ x ∈ ms, x.2 ≤ off) → killGo keep off ms h = h
  | [], h, _ => rfl
  | (i, n) :: ms, h, hm => by
    have h1 := hm (i, n) List.mem_cons_self
    have : Nat.blt off n = false := by rw [blt_d]; simpa using h1
    simp only [killGo, this, Bool.false_and, cond_false]
    exact killGo_none keep off ms h fun x hx => hm x (List.mem_cons_of_mem _ hx)
theorem filter_all {ms : List (Nat × Nat)} {off keep : Nat} (hm : ∀ x ∈ ms, x.2 ≤ off) : (ms.filter fun m => Nat.ble m.2 off || Nat.beq m.1 keep) = ms := by
  rw [List.filter_eq_self]
  intro x hx
  rw [ble_d, decide_eq_true (hm x hx)]; rfl

/-- What an append leaves. -/
structure Grew (g g' : GH) (s' : Value) (vs : List Value) (t : TypeId) (base lo lo' : Nat) : Prop where
  next : g'.next = g.next + 1
  hid : g'.hid = g.hid
  ok : g'.ok
  gets : ∀ j, j < g.next → g'.get j = g.get j
  fams : ∀ f, f < base → g'.fams f = g.fams f
  own : Own g' s' vs t base
  low : base ≤ lo'
  read : ∀ s ws, SlR g s ws → SlR g' s ws

theorem mul_succ_le {n b : Nat} (h : n * (b + 1) ≤ 1073741824) : Nat.blt 1073741824 (n * Nat.succ b) = false := by
  rw [blt_d, decide_eq_false_iff_not]; simpa using h

/-- Appending what is read elsewhere to a slice that is owned. -/
theorem GR.app {t : TypeId} {b : Nat} {s x : PO} {sv xv : Value} {vs new : List Value} {base : Nat} (hg : wantF e gd = some true) (hs : ev e s = sv) (hx : ev e x = xv) (hown : Own g sv vs t base) (hnew : SlR g xv new) (hne : new ≠ [])
    (hc : new.all cellV = true) (hsz : (vs.length + new.length) * (b + 1) ≤ 1073741824) (hb : base ≤ g.next) (hlo : base ≤ lo) (ho : g.ok)
    (h : ∀ s' g' lo' sp wr, Grew g g' s' (vs ++ new) t base lo lo' → GR P X Q l (Nat.succ k) sp wr ks (putE e dd s') g' lo') :
    GR P X Q (⟨gd, dd, none, some (.app t 1 b s x), []⟩ :: l) k sp wr ks e g lo := by
  have hlen : lenF xv = some new.length := by
    rcases hnew with ⟨rfl, rfl⟩ | ⟨j, off, cap, ob, rfl, _⟩ <;> rfl
  have hstr : strOk 1 xv = true := by
    rcases hnew with ⟨rfl, rfl⟩ | ⟨j, off, cap, ob, rfl, _⟩ <;> rfl
  have hfirst : ∀ lo, firstF (g.at lo) 1 new.length xv = some new := by
    intro lo
    rcases hnew with ⟨rfl, rfl⟩ | ⟨j, off, cap, ob, rfl, h2, h3, h4, h5, h6⟩
    · exact absurd rfl hne
    · simp only [firstF, Nat.mul_one]
      have := SlR.readN (cap := cap) (lo := lo) h3 h4 h5 h6 (i := 0) (n := new.length) (by omega)
      rw [Nat.add_zero, List.drop_zero, List.take_length] at this
      exact this
  have hpos : 0 < new.length := List.length_pos_iff.2 hne
  have hz : Nat.beq new.length 0 = false := by rw [beq_d, decide_eq_false_iff_not]; omega
  rcases hown with ⟨rfl, rfl⟩ | ⟨j, fam, rfl, h2, h3, h4, h5, h6, h7⟩
  · let G : GH := ⟨T5.set g.tr g.next (slackOb new t g.next), Nat.succ g.next, g.hid, T5.set g.fams g.next [(g.next, new.length)]⟩
    refine GR.more (v := .slice (some ⟨g.next, 0, none⟩) new.length (OPEN + 1)) (g' := G) hg (Hp.mk (bnd (g.next + 1)) fun call => ?_) rfl (Nat.le_succ _) (h _ G lo _ _ ?_)
    · simp only [runH, hs, hx, hstr, cond_true, appF, hlen]
      rw [mul_succ_le (by simpa using hsz), hz, hfirst]
      simp only [cond_false]
      rw [show (Nat.beq 0 0 && Nat.beq 0 0) = true from rfl]
      simp only [cond_true, appNew]
      have : Nat.blt (g.at g.next).next (@LIM (bnd (g.next + 1))) = true := by rw [Nat.blt_eq]; exact Nat.lt_succ_self _
      rw [this]
      simp only [cond_true, lenN_length]
      rfl
    · have hget : ∀ j, G.get j = if g.next = j then slackOb new t g.next else g.get j := GH.get_push ho (slackOb new t g.next)
      refine ⟨rfl, rfl, fun i hi => ho i (Nat.le_trans (Nat.le_succ _) hi), fun i hi => by rw [hget, if_neg (by omega)], fun f hf => ?_, .inr ⟨g.next, g.next, by simp, Nat.lt_succ_self _, by rw [hget, if_pos rfl]; simp, by simpa using hne, hb, Nat.le_refl _, ?_⟩, hlo, fun s ws hr => hr.mono (Nat.le_succ _) fun i hi => by rw [hget, if_neg (by omega)]⟩
      · show (T5.set g.fams g.next [(g.next, new.length)]) f = _
        rw [T5.get_set', if_neg (by omega)]
      · show ∀ x ∈ (T5.set g.fams g.next [(g.next, new.length)]) g.next, _
        rw [T5.get_set', if_pos rfl]
        simp
  · let G : GH := ⟨T5.set g.tr g.next (slackOb (vs ++ new) t fam), Nat.succ g.next, g.hid, T5.set (T5.set g.fams fam (g.fams fam)) fam ((g.next, vs.length + new.length) :: g.fams fam)⟩
    have hvl : 0 < vs.length := List.length_pos_iff.2 h4
    refine GR.wrote (v := .slice (some ⟨g.next, 0, none⟩) (vs.length + new.length) (OPEN + 1)) (g' := G) (lo' := j) hg (Hp.mk (bnd (g.next + 1)) fun call => ?_) rfl (Nat.le_succ _) (h _ G _ _ _ ?_)
    · have hkill : killF (g.at g.next) fam (g.at g.next).next vs.length = (⟨g.tr, g.next, g.hid, T5.set g.fams fam (g.fams fam)⟩ : GH).at g.next := by
        unfold killF
        show (killGo _ _ (g.fams fam) _).setFam fam ((g.fams fam).filter _) = _
        rw [killGo_none _ _ _ _ h7, filter_all h7]
        rfl
      have hb1 : Nat.ble (vs.length + new.length) vs.length = false := by rw [ble_d, decide_eq_false_iff_not]; omega
      have htake : takeN vs.length vs = some vs := by rw [takeN_len (Nat.le_refl _), List.take_length]
      have hz0 : Nat.beq vs.length 0 = false := by rw [beq_d, decide_eq_false_iff_not]; omega
      have hlt : Nat.blt j g.next = true := Nat.blt_eq ▸ h2
      simp only [runH, hs, hx, hstr, cond_true, appF, hlen]
      rw [mul_succ_le (by simpa using hsz), hz, hfirst]
      simp only [cond_false]
      rw [show (g.at g.next).get j = slackOb vs t fam from h3]
      unfold slackOb
      simp only [lenN_length, Nat.zero_add, Nat.mul_one, hb1, hz0, Bool.false_and, cond_false, htake]
      rw [show Nat.beq (OPEN + 1) (OPEN + 1) = true by simp, show Nat.beq t t = true by simp]
      simp only [cond_true, Bool.and_self, appMay, hkill]
      have hL : Nat.blt (g.at g.next).next (@LIM (bnd (g.next + 1))) = true := by rw [Nat.blt_eq]; exact Nat.lt_succ_self _
      rw [hL, show Nat.blt j (g.at g.next).next = true from hlt, hc]
      rw [show Nat.beq 0 0 = true from rfl]
      simp only [Bool.and_self, cond_true, GH.at, hlt, lenN_length, List.length_append, T5.get_set', if_true]
      rfl
    · have hget : ∀ j, G.get j = if g.next = j then slackOb (vs ++ new) t fam else g.get j := GH.get_push ho (slackOb (vs ++ new) t fam)
      refine ⟨rfl, rfl, fun i hi => ho i (Nat.le_trans (Nat.le_succ _) hi), fun i hi => by rw [hget, if_neg (by omega)], fun f hf => ?_, .inr ⟨g.next, fam, by simp, Nat.lt_succ_self _, by rw [hget, if_pos rfl], by simp [hne], h5, by omega, ?_⟩, by omega, fun s ws hr => hr.mono (Nat.le_succ _) fun i hi => by rw [hget, if_neg (by omega)]⟩
      · show (T5.set (T5.set g.fams fam (g.fams fam)) fam ((g.next, vs.length + new.length) :: g.fams fam)) f = _
        rw [T5.get_set', T5.get_set', if_neg (by omega), if_neg (by omega)]
      · show ∀ x ∈ (T5.set (T5.set g.fams fam (g.fams fam)) fam ((g.next, vs.length + new.length) :: g.fams fam)) fam, _
        rw [T5.get_set', if_pos rfl]
        intro x hx
        rcases List.mem_cons.1 hx with rfl | hx
        · simp
        · have := h7 x hx; simp; omega
end
end Go.Ds
