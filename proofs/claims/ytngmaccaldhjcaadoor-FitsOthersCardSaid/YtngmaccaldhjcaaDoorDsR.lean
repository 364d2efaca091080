import Derived.Test.YtngmaccaldhjcaaDoorDsQ
set_option linter.all false
set_option linter.unusedSimpArgs false
set_option linter.unnecessarySimpa false
set_option linter.unusedVariables false
set_option linter.unusedSectionVars false
set_option linter.unusedSectionVars false
set_option linter.unusedVariables false
namespace Go.Ds
variable [Inhabited Bound]

/-! ## What an evaluation keeps, whatever the world -/
def FamOk (b : Nat) (h : AH) : Prop := ∀ j, b ≤ j → j < h.next → (T5.get h.tr j).kind ≠ 0 → (T5.get h.tr j).slack = true → b ≤ (T5.get h.tr j).fam ∧ (T5.get h.tr j).fam ≤ j
structure Pres (h h' : AH) : Prop where
  next : h.next ≤ h'.next
  lim : h'.next ≤ LIM
  hid : h'.hid = h.hid
  low : h'.low ≤ h.low
  keep : ∀ i, i < h.next → i < h'.low → T5.get h'.tr i = T5.get h.tr i
  fams : ∀ b, b ≤ h.next → b ≤ h'.low → FamOk b h → FamOk b h' ∧ ∀ f, f < b → T5.get h'.fams f = T5.get h.fams f
theorem Pres.refl {h : AH} (hl : h.next ≤ LIM) : Pres h h := ⟨Nat.le_refl _, hl, rfl, Nat.le_refl _, fun _ _ _ => rfl, fun _ _ _ hf => ⟨hf, fun _ _ => rfl⟩⟩
theorem Pres.trans {h h1 h2 : AH} (a : Pres h h1) (b : Pres h1 h2) : Pres h h2 where
  next := Nat.le_trans a.next b.next
  lim := b.lim
  hid := b.hid.trans a.hid
  low := Nat.le_trans b.low a.low
  keep := fun i hi hl => (b.keep i (Nat.lt_of_lt_of_le hi a.next) hl).trans (a.keep i hi (Nat.lt_of_lt_of_le hl b.low))
  fams := fun c hc hl hf => by
    obtain ⟨f1, e1⟩ := a.fams c hc (Nat.le_trans hl b.low) hf
    obtain ⟨f2, e2⟩ := b.fams c (Nat.le_trans hc a.next) hl f1
    exact ⟨f2, fun f hlt => (e2 f hlt).trans (e1 f hlt)⟩
theorem FamOk.self (h : AH) : FamOk h.next h := fun j h1 h2 => by omega

theorem Pres.push {h : AH} (hn : h.next < LIM) (o : Ob) (hs : o.slack = false) : Pres h (h.push o) where
  next := Nat.le_succ _
  lim := hn
  hid := rfl
  low := Nat.le_refl _
  keep := fun i hi _ => by
    show T5.get (T5.set h.tr h.next o) i = _
    rw [T5.get_set _ _ _ _ hn (by omega), if_neg (by omega)]
  fams := fun b hb hl hf => by
    refine ⟨fun j h1 h2 h3 h4 => ?_, fun _ _ => rfl⟩
    have h2' : j < h.next + 1 := h2
    rw [show (h.push o).tr = T5.set h.tr h.next o from rfl, T5.get_set _ _ _ _ hn (by omega)] at h3 h4 ⊢
    by_cases c : h.next = j
    · rw [if_pos c, hs] at h4; cases h4
    · rw [if_neg c] at h3 h4 ⊢; exact hf j h1 (by omega) h3 h4

theorem Pres.pushFam {h : AH} (hn : h.next < LIM) (cs : List Value) (t : TypeId) (l : List (Nat × Nat)) : Pres h ((h.push (slackOb cs t h.next)).setFam h.next l) where
  next := Nat.le_succ _
  lim := hn
  hid := rfl
  low := Nat.le_refl _
  keep := fun i hi _ => by
    show T5.get (T5.set h.tr h.next _) i = _
    rw [T5.get_set _ _ _ _ hn (by omega), if_neg (by omega)]
  fams := fun b hb hl hf => by
    refine ⟨fun j h1 h2 h3 h4 => ?_, fun f hf' => ?_⟩
    · have h2' : j < h.next + 1 := h2
      rw [show ((h.push (slackOb cs t h.next)).setFam h.next l).tr = T5.set h.tr h.next (slackOb cs t h.next) from rfl, T5.get_set _ _ _ _ hn (by omega)] at h3 h4 ⊢
      by_cases c : h.next = j
      · rw [if_pos c]; exact ⟨hb, by show h.next ≤ j; omega⟩
      · rw [if_neg c] at h3 h4 ⊢; exact hf j h1 (by omega) h3 h4
    · show T5.get (T5.set h.fams h.next l) f = _
      rw [T5.get_set _ _ _ _ hn (by omega), if_neg (by omega)]

theorem Pres.set {h : AH} (hl : h.next ≤ LIM) {i : Nat} (hi : i < h.next) (o : Ob) (hs : o.slack = false) : Pres h (h.set i o) where
  next := Nat.le_refl _
  lim := hl
  hid := rfl
  low := (low_set i h.low).1
  keep := fun j hj hlow => by
    have hlow' : j < (bif Nat.blt i h.low then i else h.low) := hlow
    have := low_set i h.low
    show T5.get (T5.set h.tr i o) j = _
    rw [T5.get_set _ _ _ _ (by omega) (by omega), if_neg (by omega)]
  fams := fun b hb hlow hf => by
    refine ⟨fun j h1 h2 h3 h4 => ?_, fun _ _ => rfl⟩
    have h2' : j < h.next := h2
    rw [show (h.set i o).tr = T5.set h.tr i o from rfl, T5.get_set _ _ _ _ (by omega) (by omega)] at h3 h4 ⊢
    by_cases c : i = j
    · rw [if_pos c, hs] at h4; cases h4
    · rw [if_neg c] at h3 h4 ⊢; exact hf j h1 h2 h3 h4

theorem pushF_pres {h h' : AH} {o : Ob} {f : Nat → Value} {v : Value} (hp : pushF h o f = some (v, h')) (hs : o.slack = false) : Pres h h' := by
  obtain ⟨hn, _, rfl⟩ := pushF_some hp
  exact Pres.push hn o hs

theorem get_raw {h : AH} {i : Nat} {o : Ob} (hg : h.get i = o) (hk : o.kind ≠ 0) : T5.get h.tr i = o := by
  rw [AH.get_eq] at hg
  cases hb : inSpans h.hid i with
  | true => rw [hb] at hg; subst hg; exact absurd rfl hk
  | false => rw [hb] at hg; exact hg

theorem writeF_pres {h h' : AH} (hl : h.next ≤ LIM) {a : Addr} {vs : List Value} (hw : writeF h a vs = some h') : Pres h h' := by
  unfold writeF at hw
  split at hw
  · rename_i cells t fam slack es c s p hob
    obtain ⟨hc, hw⟩ := bif_some hw
    simp only [Bool.and_eq_true] at hc
    have hlt := blt_lt hc.2
    cases slack with
    | false =>
      simp only [cond_false, Option.some.injEq] at hw
      subst hw
      exact Pres.set hl hlt _ rfl
    | true =>
      simp only [cond_true, Option.some.injEq] at hw
      subst hw
      have hraw := get_raw hob Nat.one_ne_zero
      obtain ⟨L, hfm⟩ := killGo_less a.block a.off (T5.get h.fams fam) h h (Less.refl h)
      have ls := low_set a.block (killGo a.block a.off (T5.get h.fams fam) h).low
      have get' : ∀ j, j < LIM → ∀ o, T5.get (((killF h fam a.block a.off).set a.block o).tr) j = if a.block = j then o else T5.get (killGo a.block a.off (T5.get h.fams fam) h).tr j := by
        intro j hj o
        show T5.get (T5.set (killGo a.block a.off (T5.get h.fams fam) h).tr a.block o) j = _
        rw [T5.get_set _ _ _ _ (by omega) hj]
      constructor
      · show h.next ≤ (killGo a.block a.off (T5.get h.fams fam) h).next
        rw [L.next]; exact Nat.le_refl _
      · show (killGo a.block a.off (T5.get h.fams fam) h).next ≤ LIM
        rw [L.next]; exact hl
      · exact L.hid
      · exact Nat.le_trans ls.1 L.low
      · intro j hj hlow
        have hlow' : j < (bif Nat.blt a.block (killGo a.block a.off (T5.get h.fams fam) h).low then a.block else (killGo a.block a.off (T5.get h.fams fam) h).low) := hlow
        rw [get' j (by omega), if_neg (by omega)]
        exact L.keep j (by omega) (by omega)
      · intro b hb hlow hf
        have hlow' : b ≤ (bif Nat.blt a.block (killGo a.block a.off (T5.get h.fams fam) h).low then a.block else (killGo a.block a.off (T5.get h.fams fam) h).low) := hlow
        have hfa := hf a.block (by omega) hlt (by rw [hraw]; exact Nat.one_ne_zero) (by rw [hraw])
        rw [hraw] at hfa
        dsimp only at hfa
        refine ⟨fun j h1 h2 h3 h4 => ?_, fun f hf' => ?_⟩
        · have h2' : j < h.next := by rw [← L.next]; exact h2
          rw [get' j (by omega)] at h3 h4 ⊢
          by_cases cj : a.block = j
          · rw [if_pos cj]; subst cj; exact hfa
          · rw [if_neg cj] at h3 h4 ⊢
            rcases L.tr j (by omega) with e | e
            · rw [e] at h3 h4 ⊢; exact hf j h1 h2' h3 h4
            · rw [e] at h3; exact absurd rfl h3
        · show T5.get (T5.set (killGo a.block a.off (T5.get h.fams fam) h).fams fam _) f = _
          rw [T5.get_set _ _ _ _ (by omega) (by omega), if_neg (by omega), hfm]
  · cases hw

theorem appIn_pres {h h' : AH} (hl : h.next ≤ LIM) {a : Addr} {stop n sCap : Nat} {new : List Value} {v : Value} (ha : appIn h a stop n sCap new = some (v, h')) : Pres h h' := by
  unfold appIn at ha
  obtain ⟨_, ha⟩ := bif_some ha
  split at ha
  · rename_i h1 hw
    simp only [Option.some.injEq, Prod.mk.injEq] at ha
    obtain ⟨_, rfl⟩ := ha
    exact writeF_pres hl hw
  · cases ha
theorem appNew_pres {h h' : AH} {t : TypeId} {sz n : Nat} {cs : List Value} {v : Value} (ha : appNew h t sz n cs = some (v, h')) : Pres h h' := by
  unfold appNew at ha
  obtain ⟨hn, ha⟩ := bif_some ha
  simp only [Option.some.injEq, Prod.mk.injEq] at ha
  obtain ⟨_, rfl⟩ := ha
  exact Pres.pushFam (blt_lt hn) _ _ _

theorem appMay_pres {h h' : AH} {t : TypeId} {sz : Nat} {a : Addr} {fam n stop : Nat} {pre new : List Value} {v : Value} {cells : List Value} {el : TypeId} {es : List MapEntry} {c : Nat} {s : ByteArray} {p : Nat}
    (hob : h.get a.block = ⟨1, cells, el, fam, true, es, c, s, p⟩) (ha : appMay h t sz a fam n stop pre new = some (v, h')) : Pres h h' := by
  unfold appMay at ha
  obtain ⟨hc, ha⟩ := bif_some ha
  simp only [Bool.and_eq_true] at hc
  obtain ⟨⟨⟨hn, hlt⟩, _⟩, _⟩ := hc
  have hn := blt_lt hn
  have hlt := blt_lt hlt
  have hraw := get_raw hob Nat.one_ne_zero
  have hk0 : ∃ ms, killF h fam h.next stop = (killGo h.next stop (T5.get h.fams fam) h).setFam fam ms := ⟨_, rfl⟩
  obtain ⟨ms, hk0⟩ := hk0
  obtain ⟨L, hfm⟩ := killGo_less h.next stop (T5.get h.fams fam) h h (Less.refl h)
  rw [hk0] at ha
  generalize killGo h.next stop (T5.get h.fams fam) h = k at ha L hfm
  obtain ⟨tr, next, low, hid, fams⟩ := k
  simp only [AH.setFam, Option.some.injEq, Prod.mk.injEq] at ha
  obtain ⟨_, rfl⟩ := ha
  have e1 : next = h.next := L.next
  subst e1
  have ls := low_set a.block low
  have Ll : low ≤ h.low := L.low
  have Lk : ∀ i, i < LIM → i < low → T5.get tr i = T5.get h.tr i := L.keep
  have Lt : ∀ i, i < LIM → T5.get tr i = T5.get h.tr i ∨ T5.get tr i = dead := L.tr
  have Lf : fams = h.fams := hfm
  constructor
  · exact Nat.le_succ _
  · exact hn
  · exact L.hid
  · exact Nat.le_trans ls.1 Ll
  · intro j hj hlow
    have hlow' : j < (bif Nat.blt a.block low then a.block else low) := hlow
    show T5.get (T5.set tr h.next _) j = _
    rw [T5.get_set _ _ _ _ hn (by omega), if_neg (by omega)]
    exact Lk j (by omega) (by omega)
  · intro b hb hlow hf
    have hlow' : b ≤ (bif Nat.blt a.block low then a.block else low) := hlow
    have hfa := hf a.block (by omega) hlt (by rw [hraw]; exact Nat.one_ne_zero) (by rw [hraw])
    rw [hraw] at hfa
    dsimp only at hfa
    refine ⟨fun j h1 h2 h3 h4 => ?_, fun f hf' => ?_⟩
    · have h2' : j < h.next + 1 := h2
      simp only [AH.push] at h3 h4 ⊢
      rw [T5.get_set _ _ _ _ hn (by omega)] at h3 h4 ⊢
      by_cases cj : h.next = j
      · rw [if_pos cj]; exact ⟨hfa.1, by show fam ≤ j; omega⟩
      · rw [if_neg cj] at h3 h4 ⊢
        rcases Lt j (by omega) with e | e
        · rw [e] at h3 h4 ⊢; exact hf j h1 (by omega) h3 h4
        · rw [e] at h3; exact absurd rfl h3
    · simp only [AH.push]
      rw [T5.get_set _ _ _ _ (by omega) (by omega), if_neg (by omega), T5.get_set _ _ _ _ (by omega) (by omega), if_neg (by omega), Lf]

theorem appF_pres {h h' : AH} (hl : h.next ≤ LIM) {t : TypeId} {sz bytes : Nat} {s x v : Value} (ha : appF t sz bytes h s x = some (v, h')) : Pres h h' := by
  unfold appF at ha
  split at ha
  · split at ha
    · cases ha
    · obtain ⟨_, ha⟩ := bind_if ha
      cases h0 : Nat.beq _ 0 with
      | true =>
        rw [h0] at ha
        simp only [cond_true, Option.some.injEq, Prod.mk.injEq] at ha
        obtain ⟨_, rfl⟩ := ha
        exact Pres.refl hl
      | false =>
        rw [h0] at ha
        simp only [cond_false] at ha
        split at ha
        · cases ha
        · split at ha
          · exact appNew_pres (bif_some ha).2
          · split at ha
            · rename_i cells el fam slack es c st p hob
              cases h1 : Nat.beq _ (OPEN + sz) with
              | true =>
                rw [h1] at ha
                simp only [cond_true] at ha
                obtain ⟨_, ha⟩ := bind_if ha
                cases h2 : Nat.ble _ (lenN cells) with
                | true =>
                  rw [h2] at ha
                  exact appIn_pres hl ha
                | false =>
                  rw [h2] at ha
                  simp only [cond_false] at ha
                  obtain ⟨hsl, ha2⟩ := bif_some ha
                  clear ha
                  simp only [Bool.and_eq_true] at hsl
                  obtain ⟨hsl, _⟩ := hsl
                  subst hsl
                  split at ha2
                  · exact appMay_pres hob ha2
                  · cases ha2
              | false =>
                rw [h1] at ha
                simp only [cond_false] at ha
                obtain ⟨_, ha⟩ := bind_if ha
                cases h2 : Nat.ble _ _ with
                | true =>
                  rw [h2] at ha
                  exact appIn_pres hl ha
                | false =>
                  rw [h2] at ha
                  simp only [cond_false] at ha
                  split at ha
                  · exact appNew_pres ha
                  · cases ha
            · cases ha
  · cases ha

theorem cpyF_pres {h h' : AH} (hl : h.next ≤ LIM) {sz : Nat} {d s v : Value} (hc : cpyF sz h d s = some (v, h')) : Pres h h' := by
  unfold cpyF at hc
  split at hc
  · split at hc
    · split at hc
      · split at hc
        · cases h0 : Nat.beq _ 0 with
          | true =>
            rw [h0] at hc
            simp only [cond_true, Option.some.injEq, Prod.mk.injEq] at hc
            obtain ⟨_, rfl⟩ := hc
            exact Pres.refl hl
          | false =>
            rw [h0] at hc
            simp only [cond_false] at hc
            obtain ⟨_, hc⟩ := bind_if hc
            split at hc
            · rename_i h1 hw
              simp only [Option.some.injEq, Prod.mk.injEq] at hc
              obtain ⟨_, rfl⟩ := hc
              exact writeF_pres hl hw
            · cases hc
        · simp only [Option.some.injEq, Prod.mk.injEq] at hc
          obtain ⟨_, rfl⟩ := hc
          exact Pres.refl hl
      · cases hc
    · cases hc
  · cases hc

theorem asSome_pres {h h' : AH} (hl : h.next ≤ LIM) {r : Option Value} {v : Value} (hr : asSome h r = some (v, h')) : Pres h h' := by
  unfold asSome at hr
  split at hr
  · simp only [Option.some.injEq, Prod.mk.injEq] at hr
    obtain ⟨_, rfl⟩ := hr
    exact Pres.refl hl
  · cases hr

theorem updF_pres {h h' : AH} (hl : h.next ≤ LIM) {key : Nat} {m k v : Value} (hr : updF key h m k v = some h') : Pres h h' := by
  unfold updF at hr
  split at hr
  · split at hr
    · obtain ⟨hn, hr⟩ := bif_some hr
      have hn := blt_lt hn
      split at hr
      · cases hr
      · simp only [Option.some.injEq] at hr
        subst hr
        exact Pres.set hl hn _ rfl
      · simp only [Option.some.injEq] at hr
        subst hr
        exact Pres.set hl hn _ rfl
    · cases hr
  · cases hr

theorem nextF_pres {h h' : AH} (hl : h.next ≤ LIM) {x v : Value} (hr : nextF h x = some (v, h')) : Pres h h' := by
  unfold nextF at hr
  split at hr
  · split at hr
    · obtain ⟨hn, hr⟩ := bif_some hr
      have hn := blt_lt hn
      cases hp : Nat.blt _ _ with
      | true =>
        rw [hp] at hr
        simp only [cond_true, Option.some.injEq, Prod.mk.injEq] at hr
        obtain ⟨_, rfl⟩ := hr
        exact Pres.set hl hn _ rfl
      | false =>
        rw [hp] at hr
        simp only [cond_false, Option.some.injEq, Prod.mk.injEq] at hr
        obtain ⟨_, rfl⟩ := hr
        exact Pres.refl hl
    · cases hr
  · cases hr

def CallPres (call : Caller) : Prop := ∀ f args h v h', call f args h = some (v, h') → h.next ≤ LIM → Pres h h'

theorem runH_pres {call : Caller} (hc : CallPres call) {e : Env} {h h' : AH} (hl : h.next ≤ LIM) {p : Hop} {v : Value} (hr : runH call e h p = some (v, h')) : Pres h h' := by
  cases p with
  | alloc t z => exact pushF_pres hr rfl
  | box t x => exact pushF_pres hr rfl
  | load n x => exact asSome_pres hl hr
  | store n x v => 
    obtain ⟨_, hr⟩ := asUnit_some hr
    unfold storeF at hr
    split at hr
    · exact writeF_pres hl (bif_some hr).2
    · cases hr
  | storeB n x v os =>
    simp only [runH] at hr
    obtain ⟨_, hr⟩ := bif_some hr
    obtain ⟨_, hr⟩ := asUnit_some hr
    unfold storeF at hr
    split at hr
    · exact writeF_pres hl (bif_some hr).2
    · cases hr
  | bslice t sz len z l =>
    simp only [runH, bsliceF] at hr
    split at hr
    · exact pushF_pres hr rfl
    · cases hr
  | mkslice t b z l c =>
    simp only [runH, mksliceF] at hr
    split at hr
    · exact pushF_pres (bif_some hr).2 rfl
    · cases hr
  | mkmap => exact pushF_pres (o := mapOb [] 0) (f := fun id => .map (some id)) hr rfl
  | look key z m k ok => exact asSome_pres hl hr
  | upd key m k v =>
    obtain ⟨_, hr⟩ := asUnit_some hr
    exact updF_pres hl hr
  | app t sz b s x => exact appF_pres hl (bif_some hr).2
  | cpy sz d s => exact cpyF_pres hl (bif_some hr).2
  | clr z s =>
    obtain ⟨_, hr⟩ := asUnit_some hr
    unfold clrF at hr
    split at hr
    · cases h0 : Nat.beq _ 0 with
      | true =>
        rw [h0] at hr
        simp only [cond_true, Option.some.injEq] at hr
        subst hr
        exact Pres.refl hl
      | false =>
        rw [h0] at hr
        simp only [cond_false] at hr
        split at hr
        · exact writeF_pres hl (bif_some hr).2
        · simp only [Option.some.injEq] at hr
          subst hr
          exact Pres.refl hl
    · cases hr
  | fail => cases hr
  | slcH sz x lo hi => exact asSome_pres hl hr
  | lenM m => exact asSome_pres hl hr
  | callF f as => exact hc _ _ _ _ _ hr hl
  | callV f as =>
    simp only [runH, callVF] at hr
    split at hr
    · exact hc _ _ _ _ _ hr hl
    · cases hr
  | bytesOf t x =>
    simp only [runH, bytesF] at hr
    split at hr
    · exact appNew_pres (bind_if hr).2
    · cases hr
  | textOf x => exact asSome_pres hl hr
  | rangeS x =>
    simp only [runH, rangeSF] at hr
    split at hr
    · exact pushF_pres hr rfl
    · cases hr
  | nextS x => exact nextF_pres hl hr
end Go.Ds
