import Derived.Scope
import Derived.Test.YtngmaccaldhjcaaDoorDsZa
import Derived.LoopN
set_option linter.all false
set_option linter.unusedSimpArgs false
set_option linter.unnecessarySimpa false
set_option linter.unusedVariables false
set_option linter.unusedSectionVars false
set_option linter.unusedSectionVars false
set_option linter.unusedSectionVars false
set_option linter.unusedVariables false
namespace Go.Ds
variable [Inhabited Bound]

/-! ## What is kept -/
theorem stepH_pres {call : Caller} (hc : CallPres call) {e : Env} {h : AH} {sp : Spans} {wr hide : List Nat} {p : Hop} {v : Value} {h' : AH} {w : Bool} (hl : h.next ≤ LIM) (hs : stepH call e h sp wr hide p = some (v, h', w)) : Pres h h' := by
  obtain ⟨h1, k1, rfl, _⟩ := stepH_some hs
  have Pr := runH_pres hc (h := ⟨h.tr, h.next, h.next, spansOf sp hide ++ h.hid, h.fams⟩) hl k1
  have lm := low_min h.low h1.low
  refine ⟨Pr.next, Pr.lim, rfl, lm.1, fun i hi hlow => Pr.keep i hi (Nat.lt_of_lt_of_le hlow lm.2), fun b hb hlow hf => ?_⟩
  exact Pr.fams b hb (Nat.le_trans hlow lm.2) hf
theorem regGo_pres {call : Caller} (hc : CallPres call) : ∀ (l : List PI) (i : Nat) (e : Env) (h : AH) (sp : Spans) (wr : List Nat) {e1 : Env} {h1 : AH}, h.next ≤ LIM → regGo call l i e h sp wr = some (e1, h1) → Pres h h1
  | [], i, e, h, sp, wr, e1, h1, hl, hr => by
    simp only [regGo, Option.some.injEq, Prod.mk.injEq] at hr
    obtain ⟨_, rfl⟩ := hr
    exact Pres.refl hl
  | x :: l, i, e, h, sp, wr, e1, h1, hl, hr => by
    rw [regGo_cons] at hr
    cases hs : step1 call e h sp wr x with
    | none => rw [hs] at hr; cases hr
    | some y =>
      obtain ⟨v, h', k⟩ := y
      rw [hs] at hr
      simp only at hr
      have Pr : Pres h h' := by
        unfold step1 at hs
        split at hs
        · cases hs
        · simp only [Option.some.injEq, Prod.mk.injEq] at hs
          obtain ⟨_, rfl, _⟩ := hs
          exact Pres.refl hl
        · split at hs
          · split at hs
            · cases hs
            · simp only [Option.some.injEq, Prod.mk.injEq] at hs
              obtain ⟨_, rfl, _⟩ := hs
              exact Pres.refl hl
          · split at hs
            · cases hs
            · split at hs
              · cases hs
              · rename_i hu
                simp only [Option.some.injEq, Prod.mk.injEq] at hs
                obtain ⟨_, rfl, _⟩ := hs
                exact stepH_pres hc hl hu
      exact Pr.trans (regGo_pres hc l (i + 1) _ _ _ _ Pr.lim hr)
theorem loopN_pres {body : Env → AH → Option (Out × Env × AH)} (hb : ∀ e h o e1 h1, h.next ≤ LIM → body e h = some (o, e1, h1) → Pres h h1) : ∀ (n : Nat) (e : Env) (h : AH) {o : Out} {e1 : Env} {h1 : AH}, h.next ≤ LIM → loopN body n e h = some (o, e1, h1) → Pres h h1
  | 0, e, h, o, e1, h1, hl, hr => by cases hr
  | n + 1, e, h, o, e1, h1, hl, hr => by
    simp only [loopN] at hr
    split at hr
    · rename_i e2 h2 hbd
      have Pr := hb _ _ _ _ _ hl hbd
      exact Pr.trans (loopN_pres hb n e2 h2 Pr.lim hr)
    · exact hb _ _ _ _ _ hl hr
theorem evC_pres {call : Caller} (hc : CallPres call) {fuel : Nat} : ∀ (c : PC) (e : Env) (h : AH) (o : Out) (e1 : Env) (h1 : AH), h.next ≤ LIM → evC call fuel c e h = some (o, e1, h1) → Pres h h1 := by
  intro c
  induction c with
  | skip =>
    intro e h o e1 h1 hl hr
    simp only [evC, Option.some.injEq, Prod.mk.injEq] at hr
    obtain ⟨_, _, rfl⟩ := hr
    exact Pres.refl hl
  | reg l =>
    intro e h o e1 h1 hl hr
    simp only [evC] at hr
    split at hr
    · rename_i e2 h2 hg
      simp only [Option.some.injEq, Prod.mk.injEq] at hr
      obtain ⟨_, _, rfl⟩ := hr
      exact regGo_pres hc l 0 e h [] [] hl hg
    · cases hr
  | seq a b iha ihb =>
    intro e h o e1 h1 hl hr
    simp only [evC] at hr
    split at hr
    · rename_i e2 h2 ha
      have Pr := iha _ _ _ _ _ hl ha
      exact Pr.trans (ihb _ _ _ _ _ Pr.lim hr)
    · exact iha _ _ _ _ _ hl hr
  | cond c a b iha ihb =>
    intro e h o e1 h1 hl hr
    simp only [evC] at hr
    split at hr
    · rename_i t _
      cases t
      · exact ihb _ _ _ _ _ hl hr
      · exact iha _ _ _ _ _ hl hr
    · cases hr
  | block id b ih =>
    intro e h o e1 h1 hl hr
    simp only [evC] at hr
    split at hr
    · rename_i j e2 h2 hb
      have Pr := ih _ _ _ _ _ hl hb
      cases hq : Nat.beq j id <;> rw [hq] at hr <;> simp only [cond_true, cond_false, Option.some.injEq, Prod.mk.injEq] at hr <;> obtain ⟨_, _, rfl⟩ := hr <;> exact Pr
    · exact ih _ _ _ _ _ hl hr
  | loop b ih =>
    intro e h o e1 h1 hl hr
    exact loopN_pres ih fuel e h hl hr
  | exit id =>
    intro e h o e1 h1 hl hr
    simp only [evC, Option.some.injEq, Prod.mk.injEq] at hr
    obtain ⟨_, _, rfl⟩ := hr
    exact Pres.refl hl
  | ret =>
    intro e h o e1 h1 hl hr
    simp only [evC, Option.some.injEq, Prod.mk.injEq] at hr
    obtain ⟨_, _, rfl⟩ := hr
    exact Pres.refl hl
theorem evF_some {P : Program} {X : Caller} {fuel d : Nat} {f : FuncId} {args : List Value} {h : AH} {v : Value} {h' : AH} (hr : evF P X fuel (d + 1) f args h = some (v, h')) :
    X f args h = some (v, h') ∨ ∃ c rs o e l, prepF P f = some ⟨c, rs⟩ ∧ args.length ≤ 512 ∧ evC (evF P X fuel d) fuel c (Env.fill Env.none 0 args) h = some (o, e, h') ∧ (∀ id, o ≠ .exit id) ∧ resF h' e rs = some l ∧ v = oneOf l := by
  simp only [evF] at hr
  split at hr
  · rename_i u hu
    exact .inl (hu.trans hr)
  · split at hr
    · cases hr
    · rename_i c rs hp
      obtain ⟨hle, hr⟩ := bif_some hr
      rw [lenN_eq] at hle
      have hle := Nat.le_of_ble_eq_true hle
      split at hr
      · cases hr
      · rename_i o e h1 hne hev
        split at hr
        · rename_i l hl
          simp only [Option.some.injEq, Prod.mk.injEq] at hr
          obtain ⟨rfl, rfl⟩ := hr
          exact .inr ⟨c, rs, o, e, l, hp, hle, hev, fun id hid => by subst hid; exact hne id rfl, hl, rfl⟩
        · cases hr
      · cases hr
theorem evF_pres {P : Program} {X : Caller} (hX : CallPres X) {fuel : Nat} : ∀ d, CallPres (evF P X fuel d)
  | 0 => fun f args h v h' hr => by cases hr
  | d + 1 => fun f args h v h' hr hl => by
    rcases evF_some hr with hx | ⟨c, rs, o, e, l, _, _, hev, _⟩
    · exact hX _ _ _ _ _ hx hl
    · exact evC_pres (evF_pres hX d) c _ _ _ _ _ hl hev

/-! ## Code -/
def Out.exit' : Out → Exit
  | .normal => .normal
  | .exit id => .exit id
  | .ret => .ret

theorem code_sound {P : Program} {B : Nat} {call : Caller} (hc : CallSound P B call) (hcp : CallPres call) (hm : P.follows .mixedOrders = true) {n : Nat} (hn : n ≤ 512) {fuel : Nat} :
    ∀ (c : Code) (pc : PC), prepC P n c = some pc → ∀ (e : Env) (h : AH) (o : Out) (e1 : Env) (h1 : AH), evC call fuel pc e h = some (o, e1, h1) → ∀ (φ : Phi) (a : Act) (w : World) (Q : Exit → Act → World → Prop), ERel φ n e a → Emb φ h B w →
      (∀ φ' a' w', ERel φ' n e1 a' → Emb φ' h1 B w' → Ext B φ h w φ' h1 w' → Q o.exit' a' w') → c.wp P Q a w := by
  intro c
  induction c with
  | skip =>
    intro pc hp e h o e1 h1 hr φ a w Q R M hQ
    simp only [prepC, Option.some.injEq] at hp
    subst hp
    simp only [evC, Option.some.injEq, Prod.mk.injEq] at hr
    obtain ⟨rfl, rfl, rfl⟩ := hr
    exact wp_skip (hQ φ a w R M (Ext.refl _ _ _ _))
  | label l =>
    intro pc hp e h o e1 h1 hr φ a w Q R M hQ
    simp only [prepC, Option.some.injEq] at hp
    subst hp
    simp only [evC, Option.some.injEq, Prod.mk.injEq] at hr
    obtain ⟨rfl, rfl, rfl⟩ := hr
    exact wp_label (hQ φ a w R M (Ext.refl _ _ _ _))
  | scope x ih =>
    intro pc hp e h o e1 h1 hr φ a w Q R M hQ
    simp only [prepC] at hp
    refine wp_scope_straight (ih pc hp _ _ _ _ _ hr φ a w _ R M fun φ' a' w' s1 s2 s3 => ?_)
    have hq := hQ φ' a' w' s1 s2 s3
    cases o with
    | normal => exact hq
    | exit id => exact hq
    | ret => exact hq
  | region id ops draw =>
    intro pc hp e h o e1 h1 hr φ a w Q R M hQ
    simp only [prepC, Option.map_eq_some_iff] at hp
    obtain ⟨L, hL, rfl⟩ := hp
    simp only [evC] at hr
    split at hr
    · rename_i e2 h2 hg
      simp only [Option.some.injEq, Prod.mk.injEq] at hr
      obtain ⟨rfl, rfl, rfl⟩ := hr
      cases draw with
      | false =>
        refine wp_region ?_
        obtain ⟨hlen, hprep⟩ := prep_spec hL
        have := reg_lex hc hn (ops := ops) (Q := Q) L 0 e h [] [] (by omega) (fun j o hj => by
          rw [Nat.zero_add] at hj ⊢
          exact hprep j o hj) hg φ a w R M hQ
        rw [hlen] at this
        rw [List.range_eq_range']
        exact this
      | true =>
        exact wp_region_any hm (reg_any hc hcp hn hL hg (w := w.drew) R M.drew fun φ' a' w' s1 s2 s3 => hQ φ' a' w' s1 s2 (Ext.drew.trans s3))
    · cases hr
  | seq x y ihx ihy =>
    intro pc hp e h o e1 h1 hr φ a w Q R M hQ
    simp only [prepC] at hp
    split at hp
    · rename_i px py hx hy
      simp only [Option.some.injEq] at hp
      subst hp
      simp only [evC] at hr
      split at hr
      · rename_i e2 h2 ha
        exact wp_seq (ihx px hx _ _ _ _ _ ha φ a w _ R M fun φ' a' w' s1 s2 s3 => ihy py hy _ _ _ _ _ hr φ' a' w' Q s1 s2 fun φ'' a'' w'' r1 r2 r3 => hQ φ'' a'' w'' r1 r2 (s3.trans r3))
      · rename_i hne
        refine wp_seq (ihx px hx _ _ _ _ _ hr φ a w _ R M fun φ' a' w' s1 s2 s3 => ?_)
        have hq := hQ φ' a' w' s1 s2 s3
        cases o with
        | normal => exact absurd hr (hne e1 h1)
        | exit id => exact hq
        | ret => exact hq
    · cases hp
  | cond x y z ihy ihz =>
    intro pc hp e h o e1 h1 hr φ a w Q R M hQ
    simp only [prepC] at hp
    split at hp
    · rename_i px py pz hx hy hz
      simp only [Option.some.injEq] at hp
      subst hp
      simp only [evC] at hr
      have hv := ev_rel R hx
      split at hr
      · rename_i t ht
        rw [ht] at hv
        have ha : a.eval x = .bool t := by generalize a.eval x = q at hv; cases hv; rfl
        refine wp_cond ha ?_
        cases t
        · exact ihz pz hz _ _ _ _ _ hr φ a w Q R M hQ
        · exact ihy py hy _ _ _ _ _ hr φ a w Q R M hQ
      · cases hr
    · cases hp
  | block id x ih =>
    intro pc hp e h o e1 h1 hr φ a w Q R M hQ
    simp only [prepC, Option.map_eq_some_iff] at hp
    obtain ⟨px, hx, rfl⟩ := hp
    simp only [evC] at hr
    split at hr
    · rename_i j e2 h2 hb
      refine wp_block (ih px hx _ _ _ _ _ hb φ a w _ R M fun φ' a' w' s1 s2 s3 => ?_)
      show Exit.inBlock id Q (.exit j) a' w'
      cases hq : Nat.beq j id with
      | true =>
        rw [hq] at hr
        simp only [cond_true, Option.some.injEq, Prod.mk.injEq] at hr
        obtain ⟨rfl, rfl, rfl⟩ := hr
        simp only [Exit.inBlock]
        rw [if_pos (beq_eq hq)]
        exact hQ φ' a' w' s1 s2 s3
      | false =>
        rw [hq] at hr
        simp only [cond_false, Option.some.injEq, Prod.mk.injEq] at hr
        obtain ⟨rfl, rfl, rfl⟩ := hr
        simp only [Exit.inBlock]
        rw [if_neg (fun e => by subst e; simp at hq)]
        exact hQ φ' a' w' s1 s2 s3
    · rename_i hne
      refine wp_block (ih px hx _ _ _ _ _ hr φ a w _ R M fun φ' a' w' s1 s2 s3 => ?_)
      have hq := hQ φ' a' w' s1 s2 s3
      cases o with
      | normal => exact hq
      | exit j => exact absurd hr (hne j e1 h1)
      | ret => exact hq
  | loop x ih =>
    intro pc hp e h o e1 h1 hr φ a w Q R M hQ
    simp only [prepC, Option.map_eq_some_iff] at hp
    obtain ⟨px, hx, rfl⟩ := hp
    simp only [evC] at hr
    refine wp_loop_rounds fuel ?_
    have key : ∀ (k : Nat) (e : Env) (h : AH) (φ : Phi) (a : Act) (w : World), loopN (evC call fuel px) k e h = some (o, e1, h1) → ERel φ n e a → Emb φ h B w →
        (∀ φ' a' w', ERel φ' n e1 a' → Emb φ' h1 B w' → Ext B φ h w φ' h1 w' → Q o.exit' a' w') → Code.rounds P x Q k a w := by
      intro k
      induction k with
      | zero => intro e h φ a w hr; cases hr
      | succ k ihk =>
        intro e h φ a w hr R M hQ
        rw [rounds_succ]
        simp only [loopN] at hr
        split at hr
        · rename_i e2 h2 hb
          exact ih px hx _ _ _ _ _ hb φ a w _ R M fun φ' a' w' s1 s2 s3 => ihk e2 h2 φ' a' w' hr s1 s2 fun φ'' a'' w'' r1 r2 r3 => hQ φ'' a'' w'' r1 r2 (s3.trans r3)
        · rename_i hne
          refine ih px hx _ _ _ _ _ hr φ a w _ R M fun φ' a' w' s1 s2 s3 => ?_
          have hq := hQ φ' a' w' s1 s2 s3
          cases o with
          | normal => exact absurd hr (hne e1 h1)
          | exit id => exact hq
          | ret => exact hq
    exact key fuel e h φ a w hr R M hQ
  | exit id =>
    intro pc hp e h o e1 h1 hr φ a w Q R M hQ
    simp only [prepC, Option.some.injEq] at hp
    subst hp
    simp only [evC, Option.some.injEq, Prod.mk.injEq] at hr
    obtain ⟨rfl, rfl, rfl⟩ := hr
    exact wp_exit (hQ φ a w R M (Ext.refl _ _ _ _))
  | ret =>
    intro pc hp e h o e1 h1 hr φ a w Q R M hQ
    simp only [prepC, Option.some.injEq] at hp
    subst hp
    simp only [evC, Option.some.injEq, Prod.mk.injEq] at hr
    obtain ⟨rfl, rfl, rfl⟩ := hr
    exact wp_ret (hQ φ a w R M (Ext.refl _ _ _ _))
  | _ => intro pc hp; cases hp
end Go.Ds
