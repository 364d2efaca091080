import Derived.Test.YtngmaccaldhjcaaDoorDsZb
set_option linter.all false
set_option linter.unusedSimpArgs false
set_option linter.unnecessarySimpa false
set_option linter.unusedVariables false
set_option linter.unusedSectionVars false
set_option linter.unusedSectionVars false
set_option linter.unusedSectionVars false
set_option linter.unusedVariables false
namespace Go.Ds
variable [Inhabited Bound]

theorem fill_at : ∀ (l : List Value) (e : Env) (i t : Nat), t < 512 → i + l.length ≤ 512 → (Env.fill e i l).at (slot t) = if i ≤ t ∧ t < i + l.length then l.getD (t - i) undef else e.at (slot t)
  | [], e, i, t, ht, hl => by simp [Env.fill]; intro h1 h2; omega
  | v :: l, e, i, t, ht, hl => by
    simp only [Env.fill, List.length_cons] at hl ⊢
    rw [fill_at l _ _ t ht (by omega), Env.at_put]
    by_cases c : t = i
    · subst c
      rw [if_neg (by omega), if_pos rfl, if_pos ⟨Nat.le_refl _, by omega⟩]
      simp
    · rw [if_neg (fun x => c (slot_inj (by omega) ht x).symm)]
      by_cases c2 : i + 1 ≤ t ∧ t < i + 1 + l.length
      · rw [if_pos c2, if_pos ⟨by omega, by omega⟩, show t - i = (t - (i + 1)) + 1 by omega]
        simp
      · rw [if_neg c2, if_neg (fun x => c2 ⟨by omega, by omega⟩)]

theorem enter_rel {φ : Phi} {args : List Value} {args' : Array Value} (hl : LRel φ args args'.toList) (hlen : args.length ≤ 512) (k : Nat) : ERel φ k (Env.fill Env.none 0 args) ⟨args' ++ Array.replicate (k - args'.size) undef, []⟩ := by
  have hlen' : args.length = args'.size := by have := hl.1; simpa using this
  refine ⟨by simp; omega, fun t ht => ?_, rfl⟩
  rw [fill_at args _ 0 t ht (by omega)]
  by_cases c : t < args.length
  · rw [if_pos ⟨Nat.zero_le _, by omega⟩]
    have h1 : args[t - 0]? = some args[t] := by simp [c]
    obtain ⟨v', g1, g2⟩ := hl.get h1
    have g1' : args'[t]? = some v' := by rw [← Array.getElem?_toList]; simpa using g1
    have : (args' ++ Array.replicate (k - args'.size) undef).getD t undef = v' := by
      rw [Array.getD_eq_getD_getElem?, Array.getElem?_append_left (by omega), g1']; rfl
    rw [this, List.getD_eq_getElem?_getD, h1]
    exact g2
  · rw [if_neg (by omega), Env.at_none]
    have : (args' ++ Array.replicate (k - args'.size) undef).getD t undef = undef := by
      rw [Array.getD_eq_getD_getElem?, Array.getElem?_append_right (by omega), Array.getElem?_replicate]
      split <;> rfl
    rw [this]
    exact VRel.undef

def resS (tmps : Array Value) : ResultVar → Sem Value
  | .tmp t => pure (tmps.getD t undef)
  | .cell c t => do loadVar t (← asAddr (tmps.getD c undef))

theorem resF_run {P : Program} {B : Nat} {φ : Phi} {h : AH} {w : World} (M : Emb φ h B w) {n : Nat} {e : Env} {a : Act} (R : ERel φ n e a) : ∀ {rl : List ResultVar} {rs : List PR} {l : List Value}, prepR P rl = some rs → resF h e rs = some l →
    ∃ l', LRel φ l l' ∧ (rl.mapM (resS a.tmps)).run P w = .ok l' w
  | [], rs, l, hp, hr => by
    simp only [prepR, Option.some.injEq] at hp
    subst hp
    simp only [resF, Option.some.injEq] at hr
    subst hr
    exact ⟨[], LRel.nil, by simp⟩
  | r :: rl, rs, l, hp, hr => by
    simp only [prepR] at hp
    split at hp
    · cases hp
    · rename_i rs' hrs
      cases r with
      | tmp t =>
        simp only at hp
        obtain ⟨hlt, hp⟩ := bif_some hp
        simp only [Option.some.injEq] at hp
        subst hp
        simp only [resF] at hr
        split at hr
        · cases hr
        · rename_i vs hvs
          simp only [Option.some.injEq] at hr
          subst hr
          obtain ⟨l', g1, g2⟩ := resF_run M R hrs hvs
          exact ⟨_, LRel.cons (R.at_ t (blt_lt hlt)) g1, by simp only [List.mapM_cons, resS, Sem.run_bind, Sem.run_pure, Result.andThen_ok, g2]⟩
      | cell c t =>
        simp only at hp
        split at hp
        · rename_i k hk
          obtain ⟨hlt, hp⟩ := bif_some hp
          simp only [Option.some.injEq] at hp
          subst hp
          simp only [resF] at hr
          split at hr
          · cases hr
          · rename_i vs hvs
            split at hr
            · rename_i v hv
              simp only [Option.some.injEq] at hr
              subst hr
              obtain ⟨l', g1, g2⟩ := resF_run M R hrs hvs
              have hx := R.at_ c (blt_lt hlt)
              obtain ⟨v', k1, k2⟩ := loadF_gives M hx hv hk
              have hptr : ∃ ad, a.tmps.getD c undef = .pointer (some ad) := by
                generalize a.tmps.getD c undef = y at hx
                unfold loadF at hv
                split at hv
                · rename_i ad hy
                  rw [hy] at hx
                  cases hx
                  exact ⟨_, rfl⟩
                · cases hv
              obtain ⟨ad, had⟩ := hptr
              rw [had] at k2
              simp only [Instr.sureAddr, Sem.run_bind, Sem.run_pure, Result.andThen_ok] at k2
              exact ⟨_, LRel.cons k1 g1, by simp only [List.mapM_cons, resS, Sem.run_bind, had, asAddr, Sem.run_pure, Result.andThen_ok, k2, g2]⟩
            · cases hr
        · cases hp

theorem oneOf_rel {φ : Phi} {l l' : List Value} (h : LRel φ l l') : VRel φ (oneOf l) (if h : l'.toArray.size = 1 then l'.toArray[0] else .tuple l'.toArray) := by
  cases l with
  | nil =>
    have := h.nil_inv
    subst this
    exact VRel.undef
  | cons v l =>
    obtain ⟨v', l'', rfl, h1, h2⟩ := h.cons_inv
    cases l with
    | nil =>
      have := h2.nil_inv
      subst this
      exact h1
    | cons u l =>
      obtain ⟨u', l3, rfl, h3, h4⟩ := h2.cons_inv
      rw [dif_neg (by simp)]
      exact LRel.tuple (a := (v :: u :: l).toArray) (a' := (v' :: u' :: l3).toArray) h

/-- A call with numbers that is known: it returns, and leaves what was there. -/
def Known (P : Program) (f : FuncId) (args : List Value) (v : Value) : Prop :=
  ∀ (w : World) (o : Oper) (a : Act) (K : Act → World → Prop) (Q : Exit → Act → World → Prop), (∀ w', RowKit.Below w.heap.size w w' → K (a.put o.dst v) w') → o.upon P a K Q ((callFunc f args.toArray).run P w)
theorem Known.of_calls {P : Program} {f : FuncId} {args : List Value} {v : Value} {fn : Func} (hf : P.funcs[f]? = some fn) (hn : (fn.name == "runtime.NumGoroutine") = false) (hb : fn.body.isNone = false)
    (h : ∀ w, Calls P f args.toArray w fun e w' => e = .returned v ∧ RowKit.Below w.heap.size w w') : Known P f args v := by
  intro w o a K Q hK
  have hn' : ¬ fn.name = "runtime.NumGoroutine" := by simpa using hn
  have hb' : ¬ fn.body = none := by intro e; rw [e] at hb; cases hb
  have hcall : (callFunc f args.toArray).run P w = .ok (.enter f args.toArray) w := by simp [callFunc, hf, hn', hb']
  rw [hcall, Oper.upon_enter]
  refine Calls.mono (h w) fun e w' ⟨h1, h2⟩ => ?_
  subst h1
  exact hK w' h2
theorem Emb.grown {φ : Phi} {h : AH} {B : Nat} {w w' : World} (E : Emb φ h B w) (b : RowKit.Below w.heap.size w w') : Emb φ h B w' ∧ Ext B φ h w φ h w' := by
  have bB : RowKit.Below B w w' := ⟨b.os, b.tape, b.output, b.size, fun k hk => b.block k (Nat.lt_of_lt_of_le hk E.size)⟩
  refine ⟨⟨E.dom, fun i e h => ?_, fun i hi hk => ?_, E.apart, E.fam, E.lim, Nat.le_trans E.size b.size⟩, ⟨Phi.le_refl φ, fun _ _ => rfl, Nat.le_refl _, rfl, Nat.le_refl _, fun _ _ _ => rfl, fun k hk _ => b.block k hk, fun i e x y => (by rw [x] at y; cases y), bB⟩⟩
  · have := E.base i e h
    exact ⟨this.1, Nat.lt_of_lt_of_le this.2 b.size⟩
  · obtain ⟨e, h1, h2⟩ := E.obj i hi hk
    exact ⟨e, h1, h2.world (b.block _ (E.base i e h1).2)⟩

theorem prepF_some {P : Program} {f : FuncId} {c : PC} {rs : List PR} (h : prepF P f = some ⟨c, rs⟩) : ∃ fn b, P.funcs[f]? = some fn ∧ fn.body = some b ∧ (fn.name == "runtime.NumGoroutine") = false ∧ fn.ntmps ≤ 512 ∧ prepC P fn.ntmps b = some c ∧ prepR P fn.results.toList = some rs := by
  unfold prepF at h
  split at h
  · cases h
  · rename_i fn hf
    split at h
    · cases h
    · rename_i b hb
      obtain ⟨hc, h⟩ := bind_if h
      rw [Bool.or_eq_false_iff] at hc
      have hle : fn.ntmps ≤ 512 := Nat.le_of_not_lt fun hlt => by
        have : Nat.blt 512 fn.ntmps = true := Nat.blt_eq ▸ hlt
        rw [this] at hc; cases hc.2
      split at h
      · rename_i c' r' h1 h2
        simp only [Option.some.injEq, PF.mk.injEq] at h
        obtain ⟨rfl, rfl⟩ := h
        exact ⟨fn, b, hf, hb, hc.1, hle, h1, h2⟩
      · cases h

theorem body_calls {P : Program} {B : Nat} {call : Caller} (hc : CallSound P B call) (hcp : CallPres call) (hm : P.follows .mixedOrders = true) {fuel : Nat} {f : FuncId} {args : List Value} {h h' : AH} {φ : Phi} {w : World} {args' : Array Value} (M : Emb φ h B w) (hl : LRel φ args args'.toList)
    {c : PC} {rs : List PR} {ou : Out} {e : Env} {l : List Value} (hp : prepF P f = some ⟨c, rs⟩) (hlen : args.length ≤ 512) (hev : evC call fuel c (Env.fill Env.none 0 args) h = some (ou, e, h')) (hne : ∀ id, ou ≠ .exit id) (hres : resF h' e rs = some l) :
    (callFunc f args').run P w = .ok (.enter f args') w ∧ ∀ R : Ending → World → Prop, (∀ φ' v' w', VRel φ' (oneOf l) v' → Emb φ' h' B w' → Ext B φ h w φ' h' w' → R (.returned v') w') → Calls P f args' w R := by
  obtain ⟨fn, b, hf, hb, hname, hn, hcc, hrs⟩ := prepF_some hp
  have hname' : ¬ fn.name = "runtime.NumGoroutine" := by simpa using hname
  refine ⟨by simp [callFunc, hf, hname', hb], fun R hR => ?_⟩
  refine calls_of_wp hf hb ?_
  refine code_sound hc hcp hm hn b c hcc _ _ _ _ _ hev φ _ w _ (enter_rel hl hlen fn.ntmps) M fun φ' a' w' s1 s2 s3 => ?_
  obtain ⟨l', g1, g2⟩ := resF_run s2 s1 hrs hres
  have hrun : (results fn a'.tmps).run P w' = .ok (if h : l'.toArray.size = 1 then l'.toArray[0] else .tuple l'.toArray) w' := by
    have he : results fn a'.tmps = (do
        let vs ← fn.results.mapM (resS a'.tmps)
        pure (if h : vs.size = 1 then vs[0] else .tuple vs)) := by
      unfold results
      congr 1
    rw [he, Array.mapM_eq_mapM_toList]
    simp only [Sem.run_bind, map_eq_pure_bind, g2, Result.andThen_ok, Sem.run_pure]
  have hpost : a'.defers = [] ∧ ∃ v, (results fn a'.tmps).run P w' = .ok v w' ∧ R (.returned v) w' := ⟨s1.defs, _, hrun, hR φ' _ w' (oneOf_rel g1) s2 s3⟩
  cases ou with
  | normal => exact hpost
  | exit id => exact absurd rfl (hne id)
  | ret => exact hpost

structure Orac (P : Program) (X : Caller) : Prop where
  sound : ∀ B, CallSound P B X
  pres : CallPres X

theorem evF_sound {P : Program} {X : Caller} (hX : Orac P X) (hm : P.follows .mixedOrders = true) {fuel : Nat} {B : Nat} : ∀ d, CallSound P B (evF P X fuel d)
  | 0 => fun f args h v h' hr => by cases hr
  | d + 1 => fun f args h v h' hr φ w args' M hl o a K Q hK => by
    rcases evF_some hr with hx | ⟨c, rs, ou, e, l, hp, hlen, hev, hne, hres, rfl⟩
    · exact hX.sound B f args h v h' hx φ w args' M hl o a K Q hK
    · obtain ⟨hcall, hC⟩ := body_calls (evF_sound hX hm d) (evF_pres hX.pres d) hm M hl hp hlen hev hne hres
      rw [hcall, Oper.upon_enter]
      exact hC _ fun φ' v' w' r1 r2 r3 => hK φ' v' w' r1 r2 r3

theorem plainV_inv {φ : Phi} {u u' : Value} (r : VRel φ u u') (h : plainV u = true) : u' = u := by
  cases r <;> first | rfl | cases h
theorem plainL_inv {φ : Phi} : ∀ {l l' : List Value}, LRel φ l l' → l.all plainV = true → l' = l
  | [], l', r, _ => r.nil_inv
  | x :: l, l', r, h => by
    obtain ⟨x', l'', rfl, r1, r2⟩ := r.cons_inv
    simp only [List.all_cons, Bool.and_eq_true] at h
    rw [plainV_inv r1 h.1, plainL_inv r2 h.2]
theorem plainC_inv {φ : Phi} {u u' : Value} (r : VRel φ u u') (h : plainC u = true) : u' = u := by
  unfold plainC at h
  split at h
  · obtain ⟨a', rfl, hl⟩ := r.agg_inv
    rw [← Array.toList_inj.1 (plainL_inv hl h)]
  · obtain ⟨a', rfl, hl⟩ := r.tuple_inv
    rw [← Array.toList_inj.1 (plainL_inv hl h)]
  · exact plainV_inv r h
theorem LRel.plainCs {φ : Phi} : ∀ {l : List Value}, l.all Ds.plainC = true → LRel φ l l
  | [], _ => LRel.nil
  | x :: l, h => by
    simp only [List.all_cons, Bool.and_eq_true] at h
    exact LRel.cons (VRel.plainC h.1) (LRel.plainCs h.2)

/-- Known calls with plain arguments, as an oracle. -/
def knownX (K : FuncId → List Value → Option Value) : Caller := fun f args h => bif args.all plainV then (match K f args with
  | some v => bif plainC v then some (v, h) else none
  | none => none) else none
theorem knownX_some {K : FuncId → List Value → Option Value} {f : FuncId} {args : List Value} {h : AH} {v : Value} {h' : AH} (hr : knownX K f args h = some (v, h')) : args.all plainV = true ∧ K f args = some v ∧ plainC v = true ∧ h' = h := by
  unfold knownX at hr
  obtain ⟨h1, hr⟩ := bif_some hr
  split at hr
  · rename_i u hu
    obtain ⟨h2, hr⟩ := bif_some hr
    simp only [Option.some.injEq, Prod.mk.injEq] at hr
    obtain ⟨rfl, rfl⟩ := hr
    exact ⟨h1, hu, h2, rfl⟩
  · cases hr
/-- A call with plain arguments. -/
theorem call_of_ev {P : Program} {X : Caller} (hX : Orac P X) (hm : P.follows .mixedOrders = true) {fuel d : Nat} {f : FuncId} {args : List Value} (ha : args.all plainC = true) {v : Value} {h' : AH} (hf : X f args AH.zero = none)
    (hr : evF P X fuel (d + 1) f args AH.zero = some (v, h')) (hv : plainC v = true) (w : World) :
    Calls P f args.toArray w fun e w' => e = .returned v ∧ RowKit.Below w.heap.size w w' := by
  have M : Emb (fun _ => none) AH.zero w.heap.size w := by
    constructor
    · intro i e h; cases h
    · intro i e h; cases h
    · intro i hi; exact absurd hi (Nat.not_lt_zero _)
    · intro i j ei ej h; cases h
    · intro i hi; exact absurd hi (Nat.not_lt_zero _)
    · exact Nat.zero_le _
    · exact Nat.le_refl _
  rcases evF_some hr with hx | ⟨c, rs, ou, e, l, hp, hlen, hev, hne, hres, rfl⟩
  · rw [hf] at hx; cases hx
  · refine (body_calls (args' := args.toArray) (evF_sound hX hm d) (evF_pres hX.pres d) hm M (LRel.plainCs ha) hp hlen hev hne hres).2 _ fun φ' v' w' r1 r2 r3 => ⟨?_, r3.below⟩
    rw [plainC_inv r1 hv]
end Go.Ds
