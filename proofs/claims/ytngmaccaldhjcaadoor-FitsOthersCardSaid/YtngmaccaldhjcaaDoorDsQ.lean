import Derived.Test.YtngmaccaldhjcaaDoorDsP
set_option linter.all false
set_option linter.unusedSimpArgs false
set_option linter.unnecessarySimpa false
set_option linter.unusedVariables false
set_option linter.unusedSectionVars false
set_option linter.unusedSectionVars false
set_option linter.unusedVariables false
namespace Go.Ds
variable [Inhabited Bound]

def CallSound (P : Program) (B : Nat) (call : Caller) : Prop :=
  ∀ f args h v h', call f args h = some (v, h') → ∀ (φ : Phi) (w : World) (args' : Array Value), Emb φ h B w → LRel φ args args'.toList →
    ∀ (o : Oper) (a : Act) (K : Act → World → Prop) (Q : Exit → Act → World → Prop), (∀ φ' v' w', VRel φ' v v' → Emb φ' h' B w' → Ext B φ h w φ' h' w' → K (a.put o.dst v') w') →
      o.upon P a K Q ((callFunc f args').run P w)

theorem CallSound.step {P : Program} {B : Nat} {call : Caller} (hc : CallSound P B call) {f : FuncId} {args : List Value} {h h' : AH} {v : Value} (hr : call f args h = some (v, h')) {φ : Phi} {w : World} {args' : Array Value} (E : Emb φ h B w) (hl : LRel φ args args'.toList)
    {o : Oper} {ρ : Operand → Value} (he : execOp ρ o = callFunc f args') : HStep P B φ h o ρ w v h' := by
  intro a K Q hK
  rw [he]
  exact hc f args h v h' hr φ w args' E hl o a K Q hK

theorem gives_of_value {P : Program} {B : Nat} {φ : Phi} {h h' : AH} {w : World} (E : Emb φ h B w) {s : Sem Value} {v : Value} {r : Option Value} (hr : asSome h r = some (v, h'))
    (hv : ∀ u, r = some u → ∃ v', VRel φ u v' ∧ s.run P w = .ok v' w) : HGives P B φ h w s v h' := by
  unfold asSome at hr
  split at hr
  · rename_i u
    simp only [Option.some.injEq, Prod.mk.injEq] at hr
    obtain ⟨rfl, rfl⟩ := hr
    obtain ⟨v', h1, h2⟩ := hv u rfl
    exact ⟨φ, v', w, h2, h1, E, Ext.refl _ _ _ _⟩
  · cases hr

theorem asUnit_some {h' : AH} {v : Value} {r : Option AH} (hr : asUnit r = some (v, h')) : v = undef ∧ r = some h' := by
  unfold asUnit at hr
  split at hr
  · simp only [Option.some.injEq, Prod.mk.injEq] at hr
    exact ⟨hr.1.symm, by rw [hr.2]⟩
  · cases hr

theorem bif_some {α : Type} {c : Bool} {x : Option α} {y : α} (h : (bif c then x else none) = some y) : c = true ∧ x = some y := by
  cases c with
  | true => exact ⟨rfl, h⟩
  | false => cases h

theorem strOk_spec {sz : Nat} {x : Value} (h : strOk sz x = true) : ∀ t, x = .string t → sz = 1 := by
  intro t ht
  subst ht
  exact beq_eq h

theorem prepCall_sound {P : Program} {B : Nat} {call : Caller} (hc : CallSound P B call) {o : Oper} {c : Call} (ho : o.op = .call c) {p : Hop} (hp : prepCall P c = some p) {φ : Phi} {n : Nat} {e : Env} {a : Act} (he : ERel φ n e a) {h : AH} {w : World}
    (E : Emb φ h B w) {v : Value} {h' : AH} (hr : runH call e h p = some (v, h')) : HStep P B φ h o a.eval w v h' := by
  unfold prepCall at hp
  split at hp
  · -- append
    rename_i as ts
    split at hp
    · rename_i s x t t' h1 h2
      obtain ⟨os, ox, hl, hs, hx⟩ := prepOs_two h1
      have has : as = #[os, ox] := by rw [← Array.toList_inj]; exact hl
      have hts : ts = #[t, t'] := by rw [← Array.toList_inj]; exact h2
      subst has; subst hts
      split at hp
      · rename_i el ht
        have fin : ∀ z d1, zeroOf P el = some z → P.underlying t' = some d1 → (∀ k, d1 ≠ .int k) → p = .app el z.1 z.2.1 s x → HStep P B φ h o a.eval w v h' := by
          intro z d1 hz hd hne hpp
          subst hpp
          simp only [runH] at hr
          cases hst : strOk z.1 (ev e x) with
          | false => rw [hst] at hr; cases hr
          | true =>
            rw [hst] at hr
            simp only [cond_true] at hr
            refine HGives.step (appF_gives (ty := o.type) E ht hd hne (z := z.2.2) (sz := z.1) (bytes := z.2.1) hz (ev_rel he hs) (ev_rel he hx) (strOk_spec hst) hr) ?_
            simp [execOp, ho, resolve, invoke, builtin]
        split at hp
        · rename_i _ _ el' z hz2 hz
          simp only [Option.some.injEq] at hp
          exact fin z _ hz hz2 (fun k x => by cases x) hp.symm
        · rename_i _ _ z hz2 hz
          obtain ⟨_, hp⟩ := bif_some hp
          simp only [Option.some.injEq] at hp
          exact fin z _ hz hz2 (fun k x => by cases x) hp.symm
        · cases hp
      · cases hp
    · cases hp
  · -- copy
    rename_i as ts
    split at hp
    · rename_i d s t l h1 h2
      obtain ⟨od, os, hl, hd, hs⟩ := prepOs_two h1
      have has : as = #[od, os] := by rw [← Array.toList_inj]; exact hl
      subst has
      have h0 : ts[0]? = some t := by rw [← Array.getElem?_toList, h2]; rfl
      split at hp
      · rename_i el ht
        simp only [Option.bind_eq_some_iff] at hp
        obtain ⟨i, hi, hp⟩ := hp
        obtain ⟨_, hp⟩ := bind_if hp
        simp only [Option.some.injEq] at hp
        subst hp
        simp only [runH] at hr
        obtain ⟨hst, hr⟩ := bif_some hr
        refine HGives.step (cpyF_gives (ty := o.type) E (ev_rel he hd) (ev_rel he hs) h0 ht hi rfl (strOk_spec hst) hr) ?_
        simp [execOp, ho, resolve, invoke, builtin]
      · cases hp
    · cases hp
  · -- clear
    rename_i as ts
    split at hp
    · rename_i s t l h1 h2
      obtain ⟨os, hl, hs⟩ := prepOs_one h1
      have has : as = #[os] := by rw [← Array.toList_inj]; exact hl
      subst has
      have h0 : ts[0]? = some t := by rw [← Array.getElem?_toList, h2]; rfl
      split at hp
      · rename_i el ht
        simp only [Option.map_eq_some_iff] at hp
        obtain ⟨⟨sz, bytes, z⟩, hz, rfl⟩ := hp
        simp only [runH] at hr
        obtain ⟨rfl, hr2⟩ := asUnit_some hr
        refine HGives.step (clrF_gives (ty := o.type) E (ev_rel he hs) h0 ht hz hr2) ?_
        simp [execOp, ho, resolve, invoke, builtin]
      · cases hp
    · cases hp
  · -- len
    rename_i as ts
    split at hp
    · rename_i m t l h1 h2
      obtain ⟨om, hl, hm⟩ := prepOs_one h1
      have has : as = #[om] := by rw [← Array.toList_inj]; exact hl
      subst has
      have h0 : ts[0]? = some t := by rw [← Array.getElem?_toList, h2]; rfl
      split at hp
      · rename_i kt et ht
        simp only [Option.some.injEq] at hp
        subst hp
        simp only [runH] at hr
        refine HGives.step (gives_of_value E hr (fun u hu => lenMF_gives E (ev_rel he hm) ht o.type hu h0)) ?_
        simp [execOp, ho, resolve, invoke, builtin]
      · cases hp
    · cases hp
  · -- a function
    rename_i f as ts
    simp only [Option.map_eq_some_iff] at hp
    obtain ⟨ps, hps, rfl⟩ := hp
    simp only [runH] at hr
    refine hc.step (args' := as.map a.eval) hr E (by rw [Array.toList_map]; exact evs_rel he hps) ?_
    simp [execOp, ho, resolve, invoke, Deferred.ofValue, Act.eval]
  · -- a value
    rename_i _ f as ts _
    split at hp
    · rename_i pf ps h1 h2
      simp only [Option.some.injEq] at hp
      subst hp
      simp only [runH, callVF] at hr
      have hf := ev_rel he h1
      split at hr
      · rename_i g first captured hg
        rw [hg] at hf
        obtain ⟨fi', ca', hv, hfi, hca⟩ := hf.func_inv
        refine hc.step (args' := fi' ++ as.map a.eval ++ ca') hr E (by simp only [Array.toList_append, Array.toList_map]; exact (hfi.append (evs_rel he h2)).append hca) ?_
        simp [execOp, ho, resolve, invoke, Deferred.ofValue, hv]
      · cases hr
    · cases hp
  · cases hp

theorem runH_sound {P : Program} {B : Nat} {call : Caller} (hc : CallSound P B call) {o : Oper} {p : Hop} (hp : prepH P o = some p) {φ : Phi} {n : Nat} {e : Env} {a : Act} (he : ERel φ n e a) {h : AH} {w : World}
    (E : Emb φ h B w) {v : Value} {h' : AH} (hr : runH call e h p = some (v, h')) : HStep P B φ h o a.eval w v h' := by
  unfold prepH at hp
  split at hp
  · -- alloc
    rename_i t ho
    simp only [Option.map_eq_some_iff] at hp
    obtain ⟨⟨sz, bytes, z⟩, hz, rfl⟩ := hp
    obtain ⟨i, zv, hi, hzv, h1, h2, h3, h4, h5, h6⟩ := zeroOf_some hz
    subst h3
    simp only [runH] at hr
    obtain ⟨φ', v', w', g1, g2⟩ := newVar_gives (P := P) E (h6 φ) t hr
    refine HGives.step ⟨φ', v', w', ?_, g2⟩ (s := Instr.alloc t true (.tuple #[])) (by simp [execOp, ho])
    simp only [Instr.alloc, Sem.run_bind, run_zeroValue hi hzv, Result.andThen_ok] at g1 ⊢
    exact g1
  · -- box
    rename_i t x ho
    simp only [Option.map_eq_some_iff] at hp
    obtain ⟨q, hq, rfl⟩ := hp
    simp only [runH] at hr
    rw [cellsOf_eq] at hr
    exact HGives.step (newVar_gives (P := P) E (cells_rel (ev_rel he hq)) t hr) (by simp [execOp, ho, Instr.box])
  · -- load
    rename_i t x ho
    split at hp
    · rename_i m q h1 h2
      simp only [Option.some.injEq] at hp
      subst hp
      simp only [runH] at hr
      exact HGives.step (gives_of_value E hr (fun u hu => loadF_gives E (ev_rel he h2) hu h1)) (by simp [execOp, ho, Instr.loadAt])
    · cases hp
  · -- store
    rename_i t x y ho
    split at hp
    · rename_i i px py h1 h2 h3
      simp only [Option.some.injEq] at hp
      subst hp
      simp only [runH] at hr
      obtain ⟨rfl, hr2⟩ := asUnit_some hr
      exact UGives.step (storeF_gives E (ev_rel he h2) (ev_rel he h3) h1 hr2) (by simp [execOp, ho])
    · cases hp
  · -- buildSlice
    rename_i t len parts ho
    split at hp
    · rename_i el l ht hl
      split at hp
      · rename_i sz b z hz
        · obtain ⟨hle, hp⟩ := bif_some hp
          simp only [Option.some.injEq] at hp
          subst hp
          simp only [runH] at hr
          exact HGives.step (bsliceF_gives E hz (Nat.le_of_ble_eq_true hle) (evParts_rel he hl) hr ht) (by simp only [execOp, ho]; rw [← Array.toList_map, Array.toArray_toList])
      · cases hp
    · cases hp
  · -- makeSlice
    rename_i t l c ho
    split at hp
    · rename_i el pl pc ht h1 h2
      simp only [Option.map_eq_some_iff] at hp
      obtain ⟨⟨sz, b, z⟩, hz, rfl⟩ := hp
      simp only [runH] at hr
      exact HGives.step (mksliceF_gives E hz (ev_rel he h1) (ev_rel he h2) hr ht) (by simp [execOp, ho])
    · cases hp
  · -- makeMap
    rename_i t ho
    simp only [Option.some.injEq] at hp
    subst hp
    simp only [runH] at hr
    exact HGives.step (mkmap_gives E t hr) (by simp [execOp, ho])
  · -- lookup
    rename_i t m k ok ho
    split at hp
    · rename_i kt et pm pk ht h1 h2
      split at hp
      · rename_i key i hkt hi
        split at hp
        · rename_i z hz
          obtain ⟨hzp, hp⟩ := bif_some hp
          simp only [Option.some.injEq] at hp
          subst hp
          simp only [runH] at hr
          exact HGives.step (gives_of_value E hr (fun u hu => lookF_gives E (ev_rel he h1) (ev_rel he h2) ht hkt hi hz hzp hu)) (by simp [execOp, ho])
        · cases hp
      · cases hp
    · cases hp
  · -- mapUpdate
    rename_i t m k x ho
    split at hp
    · rename_i kt et pm pk px ht h1 h2 h3
      simp only [Option.map_eq_some_iff] at hp
      obtain ⟨key, hkt, rfl⟩ := hp
      simp only [runH] at hr
      obtain ⟨rfl, hr2⟩ := asUnit_some hr
      exact UGives.step (updF_gives E (ev_rel he h1) (ev_rel he h2) (ev_rel he h3) ht hkt hr2) (by simp [execOp, ho])
    · cases hp
  · -- insert
    rename_i t m k x ho
    split at hp
    · rename_i kt et pm pk px ht h1 h2 h3
      simp only [Option.map_eq_some_iff] at hp
      obtain ⟨key, hkt, rfl⟩ := hp
      simp only [runH] at hr
      obtain ⟨rfl, hr2⟩ := asUnit_some hr
      exact UGives.step (updF_gives E (ev_rel he h1) (ev_rel he h2) (ev_rel he h3) ht hkt hr2) (by simp [execOp, ho])
    · cases hp
  · -- convert
    rename_i s d x ho
    split at hp
    · rename_i el q hs hd hq
      split at hp
      · rename_i hel
        simp only [Option.some.injEq] at hp
        subst hp
        simp only [runH] at hr
        obtain ⟨str, hst, g⟩ := bytesF_gives E (ev_rel he hq) el hr
        obtain ⟨φ', v', w', g1, g2⟩ := (g : HGives P B φ h w (Conv.stringToBytes el str) v h')
        refine HGives.step (s := convert s d (a.eval x)) ⟨φ', v', w', ?_, g2⟩ (by simp [execOp, ho])
        rw [hst]
        simp only [convert, Sem.run_bind, run_underlying hs, run_underlying hd, Result.andThen_ok, run_underlying hel, g1]
      · cases hp
    · rename_i el q hs hd hq
      split at hp
      · rename_i hel
        simp only [Option.some.injEq] at hp
        subst hp
        simp only [runH] at hr
        refine HGives.step (s := convert s d (a.eval x)) (gives_of_value E hr (fun u hu => ?_)) (by simp [execOp, ho])
        obtain ⟨v', g1, g2⟩ := textF_gives (P := P) E (ev_rel he hq) hu
        refine ⟨v', g1, ?_⟩
        have hx : ∃ b m c, a.eval x = .slice b m c := by
          have := ev_rel he hq
          generalize a.eval x = y at this
          unfold textF at hu
          split at hu
          · rename_i hx; rw [hx] at this; cases this <;> exact ⟨_, _, _, rfl⟩
          · rename_i hx; rw [hx] at this; cases this <;> exact ⟨_, _, _, rfl⟩
          · cases hu
        obtain ⟨b, m, c, hx⟩ := hx
        rw [hx] at g2 ⊢
        simp only [convert, Sem.run_bind, run_underlying hs, run_underlying hd, Result.andThen_ok, run_underlying hel, g2]
      · cases hp
    · cases hp
  · -- range
    rename_i t x ho
    split at hp
    · rename_i q ht hq
      simp only [Option.some.injEq] at hp
      subst hp
      simp only [runH] at hr
      exact HGives.step (rangeSF_gives E (ev_rel he hq) ht hr) (by simp [execOp, ho])
    · cases hp
  · -- next
    rename_i x ho
    simp only [Option.map_eq_some_iff] at hp
    obtain ⟨q, hq, rfl⟩ := hp
    simp only [runH] at hr
    exact HGives.step (nextF_gives E (ev_rel he hq) o.type hr) (by simp [execOp, ho])
  · -- call
    rename_i c ho
    exact prepCall_sound hc ho hp he E hr
  · simp only [Option.some.injEq] at hp
    subst hp
    cases hr
  · -- slice
    rename_i t x lo hi ho
    split at hp
    · rename_i px plo phi h1 h2 h3
      split at hp
      · rename_i el ht
        simp only [Option.bind_eq_some_iff] at hp
        obtain ⟨i, hinf, hp⟩ := hp
        obtain ⟨hz, hp⟩ := bind_if hp
        simp only [Option.some.injEq] at hp
        subst hp
        simp only [runH] at hr
        refine HGives.step (s := Instr.sliceAt t (a.eval x) (lo.map a.eval) (hi.map a.eval) none) (gives_of_value E hr (fun u hu => ?_)) (by simp [execOp, ho])
        obtain ⟨v', g1, g2⟩ := slcHF_gives (P := P) E (ev_rel he h1) (evOpt_rel he h2) (evOpt_rel he h3) hu ht hinf rfl (Nat.pos_of_ne_zero (beq_ne hz))
        exact ⟨v', g1, g2 w⟩
      · cases hp
    · cases hp
  · simp only [Option.some.injEq] at hp
    subst hp
    cases hr
  · cases hp
end Go.Ds
