import Derived.Test.YtngmaccaldhjcaaDoorDsZc
set_option linter.all false
set_option linter.unusedSimpArgs false
set_option linter.unnecessarySimpa false
set_option linter.unusedVariables false
set_option linter.unusedSectionVars false
set_option linter.unusedSectionVars false
set_option linter.unusedVariables false
namespace Go.Ds

/-! ## More room, more depth, more fuel: the same result -/
def Caller.le (c c' : Caller) : Prop := ∀ f a h r, c f a h = some r → c' f a h = some r
theorem Caller.le_refl (c : Caller) : c.le c := fun _ _ _ _ h => h

section
variable {i i' : Inhabited Bound} (hL : @LIM i ≤ @LIM i')
include hL
theorem pushF_mono {h : AH} {o : Ob} {v : Nat → Value} {r : Value × AH} (hr : @pushF i h o v = some r) : @pushF i' h o v = some r := by
  unfold pushF at *
  obtain ⟨h1, h2⟩ := bif_some hr
  have := blt_lt h1
  have h3 : Nat.blt h.next (@LIM i') = true := by rw [Nat.blt_eq]; omega
  rw [h3]; exact h2
theorem appNew_mono {h : AH} {t : TypeId} {sz n : Nat} {cs : List Value} {r : Value × AH} (hr : @appNew i h t sz n cs = some r) : @appNew i' h t sz n cs = some r := by
  unfold appNew at *
  obtain ⟨h1, h2⟩ := bif_some hr
  have := blt_lt h1
  have h3 : Nat.blt h.next (@LIM i') = true := by rw [Nat.blt_eq]; omega
  rw [h3]; exact h2
theorem appMay_mono {h : AH} {t : TypeId} {sz : Nat} {a : Addr} {fam n stop : Nat} {pre new : List Value} {r : Value × AH} (hr : @appMay i h t sz a fam n stop pre new = some r) : @appMay i' h t sz a fam n stop pre new = some r := by
  unfold appMay at *
  obtain ⟨h1, h2⟩ := bif_some hr
  simp only [Bool.and_eq_true] at h1
  have := blt_lt h1.1.1.1
  have h3 : Nat.blt h.next (@LIM i') = true := by rw [Nat.blt_eq]; omega
  rw [h3, h1.1.1.2, h1.1.2, h1.2]; exact h2
theorem appF_mono {t : TypeId} {sz b : Nat} {h : AH} {s x : Value} {r : Value × AH} (hr : @appF i t sz b h s x = some r) : @appF i' t sz b h s x = some r := by
  unfold appF at *
  split at hr
  rotate_left
  · cases hr
  split at hr
  · cases hr
  rename_i n hn
  cases hb : Nat.blt 1073741824 ((_ + n) * Nat.succ b) with
  | true => rw [hb] at hr; cases hr
  | false =>
    rw [hb] at hr
    simp only [hb, cond_false, hn] at hr ⊢
    cases hz : Nat.beq n 0 with
    | true => rw [hz] at hr; exact hr
    | false =>
      rw [hz] at hr
      simp only [cond_false] at hr ⊢
      split at hr
      · cases hr
      rename_i new hnew
      try simp only [hnew]
      split at hr
      · obtain ⟨h1, h2⟩ := bif_some hr
        rw [h1]
        exact appNew_mono hL h2
      · rename_i a
        split at hr
        rotate_left
        · cases hr
        rename_i cells el fam slack _ _ _ _ hob
        try simp only [hob]
        generalize Nat.beq _ (OPEN + sz) = b1 at hr ⊢
        cases b1 with
        | true =>
          simp only [cond_true] at hr ⊢
          generalize (Nat.beq _ 0 && Nat.blt 0 a.off) = b2 at hr ⊢
          cases b2 with
          | true => cases hr
          | false =>
            simp only [cond_false] at hr ⊢
            generalize Nat.ble (a.off + _ + lenN new) (lenN cells) = b3 at hr ⊢
            cases b3 with
            | true => exact hr
            | false =>
              simp only [cond_false] at hr ⊢
              generalize (slack && Nat.beq el t) = b4 at hr ⊢
              cases b4 with
              | false => cases hr
              | true =>
                simp only [cond_true] at hr ⊢
                split at hr
                rotate_left
                · cases hr
                exact appMay_mono hL hr
        | false =>
          simp only [cond_false] at hr ⊢
          generalize (!(Nat.blt _ OPEN)) = b2 at hr ⊢
          cases b2 with
          | true => cases hr
          | false =>
            simp only [cond_false] at hr ⊢
            generalize Nat.ble (_ + n) _ = b3 at hr ⊢
            cases b3 with
            | true => exact hr
            | false =>
              simp only [cond_false] at hr ⊢
              split at hr
              rotate_left
              · cases hr
              exact appNew_mono hL hr
variable {c c' : Caller} (hc : c.le c')
include hc
theorem runH_mono {e : Env} {h : AH} {p : Hop} {r : Value × AH} (hr : @runH i c e h p = some r) : @runH i' c' e h p = some r := by
  cases p <;> simp only [runH] at hr ⊢
  case alloc => exact pushF_mono hL hr
  case box => exact pushF_mono hL hr
  case load => exact hr
  case store => exact hr
  case storeB => exact hr
  case bslice =>
    unfold bsliceF at *
    split at hr
    · exact pushF_mono hL hr
    · cases hr
  case mkslice =>
    unfold mksliceF at *
    split at hr
    · rename_i h1 h2
      obtain ⟨g1, g2⟩ := bif_some hr
      rw [g1]
      exact pushF_mono hL g2
    · cases hr
  case mkmap => exact pushF_mono hL hr
  case look => exact hr
  case upd => exact hr
  case app =>
    obtain ⟨g1, g2⟩ := bif_some hr
    rw [g1]
    exact appF_mono hL g2
  case cpy => exact hr
  case clr => exact hr
  case fail => cases hr
  case slcH => exact hr
  case lenM => exact hr
  case callF => exact hc _ _ _ _ hr
  case callV =>
    unfold callVF at *
    split at hr
    · exact hc _ _ _ _ hr
    · cases hr
  case bytesOf =>
    unfold bytesF at *
    split at hr
    rotate_left
    · cases hr
    cases hz : Nat.beq _ 0 with
    | true => rw [hz] at hr; cases hr
    | false => rw [hz] at hr; exact appNew_mono hL hr
  case textOf => exact hr
  case rangeS =>
    unfold rangeSF at *
    split at hr
    · exact pushF_mono hL hr
    · cases hr
  case nextS => exact hr

theorem stepH_mono {e : Env} {h : AH} {sp : List (Nat × (Nat × Nat))} {wr hide : List Nat} {p : Hop} {r : Value × AH × Bool} (hr : @stepH i c e h sp wr hide p = some r) : @stepH i' c' e h sp wr hide p = some r := by
  unfold stepH at *
  split at hr
  · cases hr
  · rename_i v h1 hq
    rw [runH_mono hL hc hq]
    exact hr
theorem regGo_mono : ∀ {l : List PI} {k : Nat} {e : Env} {h : AH} {sp : List (Nat × (Nat × Nat))} {wr : List Nat} {r : Env × AH}, @regGo i c l k e h sp wr = some r → @regGo i' c' l k e h sp wr = some r
  | [], k, e, h, sp, wr, r, hr => hr
  | ⟨g, d, pop, hop, hide⟩ :: l, k, e, h, sp, wr, r, hr => by
    simp only [regGo, putEK_eq] at hr ⊢
    split at hr
    · cases hr
    · exact regGo_mono hr
    · split at hr
      · split at hr
        · cases hr
        · exact regGo_mono hr
      · split at hr
        · cases hr
        · split at hr
          · cases hr
          · rename_i hq
            rw [stepH_mono hL hc hq]
            exact regGo_mono hr
omit hL hc in
theorem loopN_mono {b b' : Env → AH → Option (Out × Env × AH)} (hb : ∀ e h r, b e h = some r → b' e h = some r) : ∀ {n n' : Nat} {e : Env} {h : AH} {r : Out × Env × AH}, n ≤ n' → loopN b n e h = some r → loopN b' n' e h = some r
  | 0, _, _, _, _, _, hr => by cases hr
  | n + 1, 0, _, _, _, hn, _ => by omega
  | n + 1, n' + 1, e, h, r, hn, hr => by
    simp only [loopN] at hr ⊢
    cases hq : b e h with
    | none => rw [hq] at hr; cases hr
    | some x =>
      rw [hq] at hr
      rw [hb _ _ _ hq]
      obtain ⟨o, e1, h1⟩ := x
      cases o with
      | normal => exact loopN_mono hb (by omega) hr
      | exit j => exact hr
      | ret => exact hr
theorem evC_mono {f f' : Nat} (hf : f ≤ f') : ∀ {p : PC} {e : Env} {h : AH} {r : Out × Env × AH}, @evC i c f p e h = some r → @evC i' c' f' p e h = some r := by
  intro p
  induction p with
  | skip => intro e h r hr; exact hr
  | reg l =>
    intro e h r hr
    simp only [evC] at hr ⊢
    split at hr
    · rename_i hq
      rw [regGo_mono hL hc hq]; exact hr
    · cases hr
  | seq a b iha ihb =>
    intro e h r hr
    simp only [evC] at hr ⊢
    cases hq : @evC i c f a e h with
    | none => rw [hq] at hr; cases hr
    | some x =>
      rw [hq] at hr
      rw [iha hq]
      obtain ⟨o, e1, h1⟩ := x
      cases o with
      | normal => exact ihb hr
      | exit j => exact hr
      | ret => exact hr
  | cond q a b iha ihb =>
    intro e h r hr
    simp only [evC] at hr ⊢
    split at hr
    · rename_i t _
      cases t with
      | true => exact iha hr
      | false => exact ihb hr
    · cases hr
  | block id b ih =>
    intro e h r hr
    simp only [evC] at hr ⊢
    cases hq : @evC i c f b e h with
    | none => rw [hq] at hr; cases hr
    | some x => rw [hq] at hr; rw [ih hq]; exact hr
  | loop b ih =>
    intro e h r hr
    simp only [evC] at hr ⊢
    exact loopN_mono (fun e h r => ih) hf hr
  | exit id => intro e h r hr; exact hr
  | ret => intro e h r hr; exact hr
end
theorem evF_mono {P : Program} {X : Caller} {i i' : Inhabited Bound} (hL : @LIM i ≤ @LIM i') {f f' : Nat} (hf : f ≤ f') : ∀ {d d' : Nat}, d ≤ d' → (@evF i P X f d).le (@evF i' P X f' d')
  | 0, _, _ => fun _ _ _ _ hr => by cases hr
  | d + 1, 0, hd => by omega
  | d + 1, d' + 1, hd => fun g a h r hr => by
    simp only [evF] at hr ⊢
    split at hr
    · rename_i hx; exact hr
    · split at hr
      · cases hr
      · rename_i c rs hp
        obtain ⟨h1, h2⟩ := bif_some hr
        rw [h1]
        simp only [cond_true]
        cases hq : @evC i (@evF i P X f d) f c (Env.fill Env.none 0 a) h with
        | none => rw [hq] at h2; cases h2
        | some x =>
          rw [hq] at h2
          rw [evC_mono hL (evF_mono hL hf (by omega)) hf hq]
          exact h2
end Go.Ds
