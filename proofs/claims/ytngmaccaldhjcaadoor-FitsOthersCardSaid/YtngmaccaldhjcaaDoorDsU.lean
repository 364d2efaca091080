import Derived.Test.YtngmaccaldhjcaaDoorDsS
set_option linter.all false
set_option linter.unusedSimpArgs false
set_option linter.unnecessarySimpa false
set_option linter.unusedVariables false
set_option linter.unusedSectionVars false
set_option linter.unusedSectionVars false
set_option linter.unusedVariables false
namespace Go.Ds
variable [Inhabited Bound]

/-! ## One operation of a region, and the states between -/
abbrev Spans := List (Nat × (Nat × Nat))
/-- The value, the heap, and how: 0 unwanted, 1 pure, 2 on the heap, 3 a writer. -/
def step1 (call : Caller) (e : Env) (h : AH) (sp : Spans) (wr : List Nat) (x : PI) : Option (Value × AH × Nat) :=
  match wantF e x.guard with
  | none => none
  | some false => some (undef, h, 0)
  | some true => match x.pop with
    | some p => match runP e p with
      | none => none
      | some v => some (v, h, 1)
    | none => match x.hop with
      | none => none
      | some p => match stepH call e h sp wr x.hide p with
        | none => none
        | some (v, h', w) => some (v, h', bif w then 3 else 2)

theorem regGo_cons {call : Caller} {x : PI} {l : List PI} {i : Nat} {e : Env} {h : AH} {sp : Spans} {wr : List Nat} :
    regGo call (x :: l) i e h sp wr = match step1 call e h sp wr x with
      | none => none
      | some (v, h', k) => regGo call l (i + 1) (putE e x.dst v) h' (if 2 ≤ k then (i, (h.next, h'.next)) :: sp else sp) (if k = 3 then i :: wr else wr) := by
  obtain ⟨g, d, pop, hop, hide⟩ := x
  simp only [regGo, step1, putEK_eq]
  cases wantF e g with
  | none => rfl
  | some b =>
    cases b with
    | false => simp
    | true =>
      cases pop with
      | some p =>
        simp only
        cases runP e p with
        | none => rfl
        | some v => simp
      | none =>
        cases hop with
        | none => rfl
        | some p =>
          simp only
          cases stepH call e h sp wr hide p with
          | none => rfl
          | some y =>
            obtain ⟨v, h', w⟩ := y
            cases w <;> simp

structure St where
  e : Env
  h : AH
  sp : Spans
  wr : List Nat
def St.next (call : Caller) (i : Nat) (s : St) (x : PI) : St :=
  match step1 call s.e s.h s.sp s.wr x with
  | none => s
  | some (v, h', k) => ⟨putE s.e x.dst v, h', if 2 ≤ k then (i, (s.h.next, h'.next)) :: s.sp else s.sp, if k = 3 then i :: s.wr else s.wr⟩
def stAt (call : Caller) (L : List PI) (s : St) : Nat → St
  | 0 => s
  | i + 1 => match L[i]? with
    | some x => (stAt call L s i).next call i x
    | none => stAt call L s i

theorem regGo_states {call : Caller} {L : List PI} {s : St} : ∀ (m i : Nat), L.length = i + m → ∀ {r : Env × AH}, regGo call (L.drop i) i (stAt call L s i).e (stAt call L s i).h (stAt call L s i).sp (stAt call L s i).wr = some r →
    (∀ j x, i ≤ j → L[j]? = some x → ∃ y, step1 call (stAt call L s j).e (stAt call L s j).h (stAt call L s j).sp (stAt call L s j).wr x = some y) ∧ r = ((stAt call L s L.length).e, (stAt call L s L.length).h)
  | 0, i, hl, r, h => by
    have : L.drop i = [] := List.drop_eq_nil_of_le (by omega)
    rw [this] at h
    simp only [regGo, Option.some.injEq] at h
    have hi : L.length = i := by omega
    refine ⟨fun j x hj hx => ?_, by rw [hi]; exact h.symm⟩
    have := (List.getElem?_eq_some_iff.1 hx).1
    omega
  | m + 1, i, hl, r, h => by
    have hi : i < L.length := by omega
    have hx : L[i]? = some L[i] := by simp [hi]
    rw [List.drop_eq_getElem_cons hi, regGo_cons] at h
    cases hs : step1 call (stAt call L s i).e (stAt call L s i).h (stAt call L s i).sp (stAt call L s i).wr L[i] with
    | none => rw [hs] at h; cases h
    | some y =>
      obtain ⟨v, h', k⟩ := y
      rw [hs] at h
      simp only at h
      have hst : stAt call L s (i + 1) = ⟨putE (stAt call L s i).e L[i].dst v, h', if 2 ≤ k then (i, ((stAt call L s i).h.next, h'.next)) :: (stAt call L s i).sp else (stAt call L s i).sp, if k = 3 then i :: (stAt call L s i).wr else (stAt call L s i).wr⟩ := by
        simp only [stAt, hx, St.next, hs]
      have := regGo_states (call := call) (L := L) (s := s) m (i + 1) (by omega) (r := r) (by rw [hst]; exact h)
      refine ⟨fun j x hj hxj => ?_, this.2⟩
      by_cases c : i = j
      · subst c
        rw [hx] at hxj
        cases hxj
        exact ⟨_, hs⟩
      · exact this.1 j x (by omega) hxj

/-! ### Guards -/
theorem want_rel {ops : Array Oper} {o : Oper} {g : Option (P3 × Bool)} (hg : prepG ops o = some g) {e : Env} {φ : Phi} {tmps : Array Value} (hr : ∀ t, t ∈ o.looksAt ops → t < 512 → VRel φ (e.at (slot t)) (tmps.getD t undef)) {b : Bool} (hw : wantF e g = some b) :
    Region.wanted o (yielded ops tmps) = b := by
  unfold prepG at hg
  unfold Region.wanted
  split at hg
  · rename_i hn
    simp only [Option.some.injEq] at hg
    subst hg
    simp only [wantF, Option.some.injEq] at hw
    rw [hn, ← hw]
  · rename_i j want hn
    split at hg
    · rename_i og hog
      split at hg
      · rename_i d hd
        obtain ⟨hlt, hg⟩ := bif_some hg
        simp only [Option.some.injEq] at hg
        subst hg
        have hlt := blt_lt hlt
        have hv := hr d (by simp [Oper.looksAt, hn, hog, hd]) hlt
        simp only [wantF] at hw
        split at hw
        · rename_i c hc
          rw [hc] at hv
          simp only [Option.some.injEq] at hw
          have ht : tmps.getD d undef = .bool c := by generalize tmps.getD d undef = z at hv; cases hv; rfl
          have ht2 : tmps[d]? = some (.bool c) := by
            rw [Array.getD_eq_getD_getElem?] at ht
            cases hq : tmps[d]? with
            | none => rw [hq] at ht; cases ht
            | some y => rw [hq] at ht; simp only [Option.getD_some] at ht; rw [ht]
          rw [hn]
          simp only [yielded, hog, Option.bind_some, hd, ht2]
          rw [← hw]
          cases c <;> cases want <;> rfl
        · rename_i cs hc
          rw [hc] at hv
          simp only [Option.some.injEq] at hw
          obtain ⟨cs', ht⟩ : ∃ cs', tmps.getD d undef = .tuple cs' := by generalize tmps.getD d undef = z at hv; cases hv; exact ⟨_, rfl⟩
          have hy : yielded ops tmps j = none := by
            simp only [yielded, hog, Option.bind_some, hd]
            rw [Array.getD_eq_getD_getElem?] at ht
            cases hq : tmps[d]? with
            | none => rfl
            | some y => rw [hq] at ht; simp only [Option.getD_some] at ht; rw [ht]
          rw [hn]
          simp only [hy]
          rw [← hw]; rfl
        · cases hw
      · cases hg
    · cases hg

/-! ### The heap of one operation -/
theorem stepH_some {call : Caller} {e : Env} {h : AH} {sp : Spans} {wr hide : List Nat} {p : Hop} {v : Value} {h' : AH} {w : Bool} (hs : stepH call e h sp wr hide p = some (v, h', w)) :
    ∃ h1, runH call e ⟨h.tr, h.next, h.next, spansOf sp hide ++ h.hid, h.fams⟩ p = some (v, h1) ∧ h' = ⟨h1.tr, h1.next, bif Nat.blt h.low h1.low then h.low else h1.low, h.hid, h1.fams⟩ ∧
      (w = false → h.next ≤ h1.low) ∧ (w = true → hide = [] ∨ p.isB = true) ∧ anyIn wr hide = false := by
  unfold stepH at hs
  split at hs
  · cases hs
  · rename_i v0 h1 hr
    obtain ⟨tr, next, low, hid, fams⟩ := h1
    simp only at hs
    obtain ⟨hb, hs⟩ := bind_if hs
    simp only [Option.some.injEq, Prod.mk.injEq] at hs
    obtain ⟨rfl, rfl, rfl⟩ := hs
    simp only [Bool.or_eq_false_iff] at hb
    refine ⟨_, hr, rfl, fun hw => ?_, fun hw => ?_, hb.2⟩
    · exact Nat.le_of_not_lt fun hlt => by
        have : Nat.blt low h.next = true := Nat.blt_eq ▸ hlt
        rw [this] at hw; cases hw
    · rw [hw] at hb
      simp at hb
      by_cases c : hide = []
      · exact .inl c
      · exact .inr (hb.1 c)

theorem low_min (a b : Nat) : (bif Nat.blt a b then a else b) ≤ a ∧ (bif Nat.blt a b then a else b) ≤ b := by
  cases hb : Nat.blt a b with
  | true => have := blt_lt hb; exact ⟨by simp, by simp; omega⟩
  | false =>
    have : ¬ a < b := fun hlt => by rw [← Nat.blt_eq] at hlt; rw [hb] at hlt; cases hlt
    exact ⟨by simp; omega, by simp⟩

/-- With another mark, and behind a mask: the same embedding. -/
theorem Emb.low {φ : Phi} {h : AH} {B : Nat} {w : World} (E : Emb φ h B w) (low : Nat) : Emb φ ⟨h.tr, h.next, low, h.hid, h.fams⟩ B w :=
  ⟨E.dom, E.base, E.obj, E.apart, E.fam, E.lim, E.size⟩

theorem ext_low {B : Nat} {φ φ' : Phi} {h h1 : AH} {w w' : World} {l0 : Nat} (X : Ext B φ ⟨h.tr, h.next, l0, h.hid, h.fams⟩ w φ' h1 w') {low : Nat} (h1l : low ≤ h1.low) (h2l : low ≤ h.low) {hid : List (Nat × Nat)} (hh : hid = h.hid) :
    Ext B φ h w φ' ⟨h1.tr, h1.next, low, hid, h1.fams⟩ w' where
  le := X.le
  old := X.old
  next := X.next
  hid := hh
  low := h2l
  keep := fun i hi hl => X.keep i hi (Nat.lt_of_lt_of_le hl h1l)
  frame := fun k hk hc => X.frame k hk fun i e a b => Nat.lt_of_lt_of_le (hc i e a b) h1l
  fresh := fun i e a b => (X.fresh i e a b).imp id fun ⟨j, e0, c1, c2, c3⟩ => ⟨j, e0, c1, c2, Nat.le_trans h1l c3⟩
  below := X.below

/-! ### Regions whose order is that of the text -/
theorem reg_lex {P : Program} {B : Nat} {call : Caller} (hc : CallSound P B call) {n : Nat} (hn : n ≤ 512) {ops : Array Oper} {Q : Exit → Act → World → Prop} {e1 : Env} {h1 : AH} :
    ∀ (l : List PI) (i : Nat) (e : Env) (h : AH) (sp : Spans) (wr : List Nat), ops.size = i + l.length → (∀ j o, ops[i + j]? = some o → ∃ x, l[j]? = some x ∧ OpPrep P n false ops (i + j) o x) →
      regGo call l i e h sp wr = some (e1, h1) → ∀ (φ : Phi) (a : Act) (w : World), ERel φ n e a → Emb φ h B w →
      (∀ φ' a' w', ERel φ' n e1 a' → Emb φ' h1 B w' → Ext B φ h w φ' h1 w' → Q .normal a' w') → wpOps P ops Q (List.range' i l.length) a w
  | [], i, e, h, sp, wr, hsz, hp, hr, φ, a, w, he, E, hQ => by
    simp only [regGo, Option.some.injEq, Prod.mk.injEq] at hr
    obtain ⟨rfl, rfl⟩ := hr
    exact hQ φ a w he E (Ext.refl _ _ _ _)
  | x :: l, i, e, h, sp, wr, hsz, hp, hr, φ, a, w, he, E, hQ => by
    have hlt : i < ops.size := by simp at hsz; omega
    have ho : ops[i]? = some ops[i] := by simp [hlt]
    obtain ⟨x', hx', hO⟩ := hp 0 ops[i] (by simpa using ho)
    simp only [List.getElem?_cons_zero, Option.some.injEq] at hx'
    subst hx'
    rw [regGo_cons] at hr
    cases hs : step1 call e h sp wr x with
    | none => rw [hs] at hr; cases hr
    | some y =>
      obtain ⟨v, h', k⟩ := y
      rw [hs] at hr
      simp only at hr
      have hsz' : ops.size = i + 1 + l.length := by simp at hsz; omega
      have hp' : ∀ j o, ops[i + 1 + j]? = some o → ∃ x, l[j]? = some x ∧ OpPrep P n false ops (i + 1 + j) o x := fun j o hj => by
        obtain ⟨x', a, b⟩ := hp (j + 1) o (by rw [show i + (j + 1) = i + 1 + j by omega]; exact hj)
        exact ⟨x', by simpa using a, by rw [show i + 1 + j = i + (j + 1) by omega]; exact b⟩
      have ih := reg_lex hc hn (Q := Q) l (i + 1) _ _ _ _ hsz' hp' hr
      simp only [List.length_cons, List.range'_succ, wpOps, ho]
      have hgd : ∀ b, wantF e x.guard = some b → Region.wanted ops[i] (yielded ops a.tmps) = b := fun b hb => want_rel hO.guard (fun t _ ht => he.at_ t ht) hb
      unfold step1 at hs
      split at hs
      · cases hs
      · rename_i hw
        simp only [Option.some.injEq, Prod.mk.injEq] at hs
        obtain ⟨rfl, rfl, rfl⟩ := hs
        rw [hgd _ hw]
        simp only [Bool.false_eq_true, if_false]
        exact ih φ _ w (he.put hO.dst hn VRel.undef) E hQ
      · rename_i hw
        rw [hgd _ hw]
        simp only [if_true]
        refine .inl ?_
        rcases hO.body with ⟨p, hp1, hp2, _⟩ | ⟨_, p, hp1, hp2, hp3, hp4, _⟩
        · rw [hp2] at hs
          simp only at hs
          split at hs
          · cases hs
          · rename_i u hu
            simp only [Option.some.injEq, Prod.mk.injEq] at hs
            obtain ⟨rfl, rfl, rfl⟩ := hs
            obtain ⟨v', g1, g2⟩ := runP_sound (prepQ_some hp1) he hu ops[i] rfl
            unfold Oper.wp
            rw [g2 w]
            exact ih φ _ w (he.put hO.dst hn g1) E hQ
        · rw [hp2, hp3] at hs
          simp only at hs
          split at hs
          · cases hs
          · rename_i u h2 b hu
            simp only [Option.some.injEq, Prod.mk.injEq] at hs
            obtain ⟨rfl, rfl, rfl⟩ := hs
            obtain ⟨h3, k1, k2, _⟩ := stepH_some hu
            subst k2
            have hhide : x.hide = [] := by rw [hp4]; rfl
            simp only [cond_false] at hp3
            rw [hhide] at k1
            simp only [spansOf, List.nil_append] at k1
            refine runH_sound hc hp1 he (E.low h.next) k1 a _ _ fun φ' v' w' r1 r2 r3 => ?_
            have X := ext_low r3 (low_min h.low h3.low).2 (low_min h.low h3.low).1 rfl
            have hhid : h3.hid = h.hid := r3.hid
            have r2' : Emb φ' ⟨h3.tr, h3.next, bif Nat.blt h.low h3.low then h.low else h3.low, h.hid, h3.fams⟩ B w' := by
              rw [← hhid]; exact r2.low _
            exact ih φ' _ w' ((he.mono r3.le).put hO.dst hn r1) r2' fun φ'' a' w'' s1 s2 s3 => hQ φ'' a' w'' s1 s2 (X.trans s3)
end Go.Ds
