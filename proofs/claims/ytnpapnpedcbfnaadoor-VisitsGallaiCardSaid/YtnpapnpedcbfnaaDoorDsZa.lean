import Derived.Test.YtnpapnpedcbfnaaDoorDsZ
set_option linter.all false
set_option linter.unusedSimpArgs false
set_option linter.unnecessarySimpa false
set_option linter.unusedVariables false
set_option linter.unusedSectionVars false
set_option linter.unusedSectionVars false
set_option linter.unusedSectionVars false
set_option linter.unusedVariables false
namespace Go.Ds
variable [Inhabited Bound]

theorem mem_edgesOn {x : Nat} : ∀ {l : List Edge}, x ∈ edgesOn l ↔ ∃ e ∈ l, Region.binds .any e = true ∧ e.on = x
  | [] => by simp [edgesOn]
  | e :: l => by
    simp only [edgesOn]
    cases hb : Region.binds .any e with
    | true =>
      simp only [cond_true, List.mem_cons, mem_edgesOn, exists_eq_or_imp, hb, true_and]
      exact ⟨fun h => h.imp Eq.symm id, fun h => h.imp Eq.symm id⟩
    | false => simp only [cond_false, mem_edgesOn, List.mem_cons, exists_eq_or_imp, hb, Bool.false_eq_true, false_and, false_or]

theorem ready_iff {ops : Array Oper} {listed : Array Bool} (hs : listed.size = ops.size) {i : Nat} : i ∈ Region.ready .any ops listed ↔ i < ops.size ∧ listed[i]? = some false ∧ ∀ e ∈ edgesOf ops i, listed[e]? = some true := by
  unfold Region.ready
  rw [List.mem_filter, List.mem_range]
  constructor
  · rintro ⟨h1, h2⟩
    have ho : ops[i]? = some ops[i] := by simp [h1]
    have hl : i < listed.size := by omega
    rw [ho] at h2
    simp only [Bool.and_eq_true, Bool.not_eq_true', Option.map_some, Option.getD_some] at h2
    refine ⟨h1, ?_, fun e he => ?_⟩
    · have := h2.1
      simp [Array.getD_eq_getD_getElem?, hl] at this
      simp [hl, this]
    · simp only [edgesOf, ho] at he
      obtain ⟨x, hx, hb, rfl⟩ := mem_edgesOn.1 he
      have h3 := h2.2
      rw [Array.all_eq_true_iff_forall_mem] at h3
      have := h3 x (by simpa using hx)
      rw [hb] at this
      simp only [Bool.not_true, Bool.false_or] at this
      rw [Array.getD_eq_getD_getElem?] at this
      cases hq : listed[x.on]? with
      | none => rw [hq] at this; cases this
      | some b => rw [hq] at this; simp only [Option.getD_some] at this; rw [this]
  · rintro ⟨h1, h2, h3⟩
    refine ⟨h1, ?_⟩
    have ho : ops[i]? = some ops[i] := by simp [h1]
    rw [ho]
    simp only [Bool.and_eq_true, Bool.not_eq_true', Option.map_some, Option.getD_some]
    refine ⟨by rw [Array.getD_eq_getD_getElem?, h2]; rfl, ?_⟩
    rw [Array.all_eq_true_iff_forall_mem]
    intro x hx
    cases hb : Region.binds .any x with
    | false => rfl
    | true =>
      have := h3 x.on (by simp only [edgesOf, ho]; exact mem_edgesOn.2 ⟨x, by simpa using hx, hb, rfl⟩)
      simp [Array.getD_eq_getD_getElem?, this]

def left (l : List Bool) : Nat := (l.filter (! ·)).length
theorem left_set : ∀ {l : List Bool} {i : Nat}, l[i]? = some false → left (l.set i true) + 1 = left l
  | [], i, h => by simp at h
  | b :: l, 0, h => by
    simp only [List.getElem?_cons_zero, Option.some.injEq] at h
    subst h
    simp [left]
  | b :: l, i + 1, h => by
    have ih := left_set (l := l) (i := i) (by simpa using h)
    cases b <;> simp [left] at ih ⊢ <;> omega
theorem left_zero : ∀ {l : List Bool}, left l = 0 → ∀ {i : Nat}, l[i]? ≠ some false
  | [], _, i, h => by simp at h
  | b :: l, h0, i, h => by
    cases b with
    | false => simp [left] at h0
    | true =>
      cases i with
      | zero => simp at h
      | succ i => exact left_zero (l := l) (by simpa [left] using h0) (i := i) (by simpa using h)

section
variable {P : Program} {call : Caller} {n : Nat} {ops : Array Oper} {E : Nat → Env} {H : Nat → AH} {V : Nat → Value} {K : Nat → Nat} {X : Nat → PI} (T : Lex P call n ops E H V K X) (hcp : CallPres call) (hn : n ≤ 512)
  {B : Nat} {φ0 : Phi} {w0 : World}
include T hcp hn

theorem Inv.done {S : Nat → Prop} {m : Nat} {φ : Phi} {w : World} {a : Act} (I : Inv n ops E H V K B φ0 w0 S m φ w a) (hall : ∀ j, j < ops.size → S j) :
    ERel φ n (E ops.size) a ∧ Emb φ (H ops.size) B w ∧ Ext B φ0 (H 0) w0 φ (H ops.size) w := by
  have hm := I.m_le T hcp
  have hH : H ops.size = H m := T.eqH hcp hm (Nat.le_refl _) fun l h1 h2 => Nat.lt_of_not_le fun h3 => by have := I.m1 l (hall l h2) h3; omega
  have hhid := T.hid hcp ops.size (Nat.le_refl _)
  have hget : ∀ z, (H ops.size).get z = cont H m z := fun z => by rw [get_cont, hhid, hH]; rfl
  have hcl : Closed ops K S S := ⟨fun _ h => h, fun j l hj hb => hall l (by have := (I.down j hj).1; have := T.before_lt j this hb; omega), fun _ h _ => h⟩
  have view : ∀ z, z < (H ops.size).next → View H S z := by
    intro z hz
    by_cases c : z < (H 0).next
    · exact .inl c
    · obtain ⟨l, hl, hs⟩ := span_exists (H := H) (j := ops.size) (by omega) hz
      exact .inr ⟨l, hall l hl, hs⟩
  refine ⟨⟨I.tsize, fun t ht => ?_, I.defs⟩, ⟨?_, I.base, ?_, ?_, ?_, T.lims hcp _ (Nat.le_refl _), I.size⟩, ⟨?_, fun z hz => I.old z hz, T.next_le hcp (Nat.zero_le _) (Nat.le_refl _), hhid, T.low_le hcp (Nat.zero_le _) (Nat.le_refl _), fun z hz hl => T.keep hcp hz (Nat.zero_le _) (Nat.le_refl _) hl, I.frame, I.fresh, I.below⟩⟩
  · rcases exists_last (fun j => dstOf ops j = some t) ops.size with hnone | ⟨j, hj, hd, hlast⟩
    · rw [T.at_none hn ht (Nat.le_refl _) hnone]
      exact (I.tmp0 t ht fun j hj => hnone j (I.down j hj).1).mono Phi.on_le
    · rw [T.at_last hn ht hd hj (Nat.le_refl _) hlast]
      exact (I.tmp1 t ht j (hall j hj) hd fun j' h1 h2 => hlast j' h2 (I.down j' h1).1).mono Phi.on_le
  · intro z e h
    rw [hH]; exact I.view_lt T hcp (fun _ h => h) (I.dom z e h)
  · intro z hz hk
    rw [hget z] at hk ⊢
    obtain ⟨e, h1, h2⟩ := I.obj S hcl z (view z hz) hk
    exact ⟨e, h1, h2.mono Phi.on_le⟩
  · intro x y ex ey hx hy hkx hky
    rw [hget x] at hkx ⊢
    rw [hget y] at hky ⊢
    exact I.apart x y ex ey hx hy hkx hky
  · intro z hz hk hs
    rw [hget z] at hk hs ⊢
    rw [hH]
    exact I.fam z (view z hz) hk hs
  · intro z e h
    rw [I.old z (I.dom0 z e h)]; exact h

theorem Inv.go (hc : CallSound P B call) {Q : Exit → Act → World → Prop} (hQ : ∀ φ a w, ERel φ n (E ops.size) a → Emb φ (H ops.size) B w → Ext B φ0 (H 0) w0 φ (H ops.size) w → Q .normal a w) :
    ∀ (fuel : Nat) (listed : Array Bool) (m : Nat) (φ : Phi) (a : Act) (w : World), listed.size = ops.size → left listed.toList ≤ fuel → Inv n ops E H V K B φ0 w0 (fun j => listed[j]? = some true) m φ w a → wpAny P .any ops Q fuel listed a w := by
  intro fuel
  induction fuel with
  | zero =>
    intro listed m φ a w hs hl I
    have hall : ∀ j, j < ops.size → listed[j]? = some true := by
      intro j hj
      have h0 := left_zero (l := listed.toList) (by omega) (i := j)
      rw [Array.getElem?_toList] at h0
      have : listed[j]? = some (listed[j]'(by omega)) := by simp [show j < listed.size by omega]
      rw [this] at h0 ⊢
      cases hb : listed[j]'(by omega) with
      | true => rfl
      | false => rw [hb] at h0; exact absurd rfl h0
    obtain ⟨d1, d2, d3⟩ := I.done T hcp hn hall
    refine ⟨?_, hQ φ a w d1 d2 d3⟩
    cases hr : Region.ready .any ops listed with
    | nil => rfl
    | cons i l =>
      have := (ready_iff hs (i := i)).1 (by rw [hr]; exact List.mem_cons_self)
      rw [hall i this.1] at this
      cases this.2.1
  | succ fuel ih =>
    intro listed m φ a w hs hl I
    refine ⟨fun hr => ?_, fun i hi => ?_⟩
    · have hall : ∀ j, j < ops.size → listed[j]? = some true := by
        intro j
        induction j using Nat.strongRecOn with
        | _ j ihj =>
          intro hj
          have : listed[j]? = some (listed[j]'(by omega)) := by simp [show j < listed.size by omega]
          cases hb : listed[j]'(by omega) with
          | true => rw [this, hb]
          | false =>
            exfalso
            have hmem : j ∈ Region.ready .any ops listed := (ready_iff hs).2 ⟨hj, by rw [this, hb], fun e he => by
              have := T.edge_lt hj he
              exact ihj e this (by omega)⟩
            rw [hr] at hmem
            cases hmem
      obtain ⟨d1, d2, d3⟩ := I.done T hcp hn hall
      exact hQ φ a w d1 d2 d3
    · obtain ⟨his, hun, hready⟩ := (ready_iff hs).1 hi
      have hnS : ¬ (listed[i]? = some true) := by rw [hun]; intro h; cases h
      obtain ⟨o, ho, hO⟩ := T.op his
      have hS' : (fun j => (listed.setIfInBounds i true)[j]? = some true) = With (fun j => listed[j]? = some true) i := by
        funext j
        apply propext
        unfold With
        rw [Array.getElem?_setIfInBounds]
        by_cases c : i = j
        · subst c; simp [show i < listed.size by omega]
        · rw [if_neg c]; simp [Ne.symm c]
      have next : ∀ m' φ' a' w', Inv n ops E H V K B φ0 w0 (With (fun j => listed[j]? = some true) i) m' φ' w' a' → wpAny P .any ops Q fuel (listed.setIfInBounds i true) a' w' := by
        intro m' φ' a' w' I'
        refine ih _ m' φ' a' w' (by simpa using hs) ?_ (by rw [hS']; exact I')
        have := left_set (l := listed.toList) (i := i) (by rw [Array.getElem?_toList]; exact hun)
        rw [Array.toList_setIfInBounds]
        omega
      have reads : ∀ t, t ∈ o.looksAt ops → t < 512 → VRel (φ.on (View H (before ops i))) ((E i).at (slot t)) (a.tmps.getD t undef) := fun t hlook ht => I.reads T hcp hn ho hnS hready ht hlook
      have hwant : ∀ b, wantF (E i) (X i).guard = some b → Region.wanted o (yielded ops a.tmps) = b := fun b hb => want_rel hO.guard reads hb
      -- what it looks at, and nothing else
      obtain ⟨e', he'⟩ := env_at (fun p => (E i).at p) (looks ops o)
      let tm : Array Value := (Array.range a.tmps.size).map fun t => if t ∈ o.looksAt ops ∨ 512 ≤ t then a.tmps.getD t undef else undef
      have tm_get : ∀ t, tm.getD t undef = if t ∈ o.looksAt ops ∨ 512 ≤ t then a.tmps.getD t undef else undef := by
        intro t
        simp only [tm, Array.getD_eq_getD_getElem?]
        by_cases c : t < a.tmps.size
        · simp [c]
        · simp [c]
      have hA : Agree (looks ops o) (E i) e' := fun p hp => by rw [he' p, if_pos hp]
      have R : ERel (φ.on (View H (before ops i))) n e' ⟨tm, []⟩ := by
        refine ⟨by have := I.tsize; simpa [tm] using this, fun t ht => ?_, rfl⟩
        rw [he' (slot t)]
        show VRel _ _ (tm.getD t undef)
        rw [tm_get t]
        by_cases c : t ∈ o.looksAt ops
        · have hin : slot t ∈ looks ops o := List.mem_map.2 ⟨t, List.mem_filter.2 ⟨c, by simpa [Nat.blt_eq] using ht⟩, rfl⟩
          rw [if_pos hin, if_pos (.inl c)]
          exact reads t c ht
        · have hin : ¬ slot t ∈ looks ops o := fun h => by
            obtain ⟨t', h1, h2⟩ := List.mem_map.1 h
            obtain ⟨h3, h4⟩ := List.mem_filter.1 h1
            have := slot_inj (blt_lt h4) ht h2
            subst this
            exact c h3
          rw [if_neg hin, if_neg (fun h => h.elim c (fun h => by omega))]
          exact VRel.undef
      have hev : ∀ x ∈ o.op.operands, (⟨tm, []⟩ : Act).eval x = a.eval x := by
        intro x hx
        cases x with
        | tmp t =>
          show tm.getD t undef = a.tmps.getD t undef
          have hin : t ∈ o.looksAt ops := List.mem_append_left _ (List.mem_filterMap.2 ⟨.tmp t, by simpa using hx, rfl⟩)
          rw [tm_get t, if_pos (.inl hin)]
        | const v => rfl
        | global g => rfl
        | func f => rfl
      unfold wpOp
      rw [ho]
      dsimp only
      rcases T.kind i his with ⟨k0, hw, hv, _⟩ | ⟨k1, hw, _, p, hpop, hrun⟩ | ⟨hk, hw, hpop, p, h1, mask, hhop, hmask, hrun, he1, hk2, hk3, _⟩
      · rw [hwant _ hw]
        simp only [Bool.false_eq_true, if_false]
        refine next m φ _ w (I.idle T hcp his hnS hready hn ho (by omega) ?_)
        rw [hv]; exact VRel.undef
      · rw [hwant _ hw]
        simp only [if_true]
        rcases hO.body with ⟨p', hp1, hp2, hp3⟩ | ⟨_, p', _, hp2, _⟩
        · have : p' = p := by rw [hpop] at hp2; exact (Option.some.inj hp2).symm
          subst this
          have hrun' : runP e' p' = some (V i) := by rw [← runP_agree hA (hp3 rfl)]; exact hrun
          obtain ⟨v', g1, g2⟩ := runP_sound (prepQ_some hp1) R hrun' o rfl
          refine .inl ?_
          unfold Oper.wp
          rw [← execOp_congr o (prepP_select (prepQ_some hp1)) hev, g2 w]
          exact next m φ _ w (I.idle T hcp his hnS hready hn ho (by omega) (g1.mono (Phi.on_mono (Phi.le_refl _) fun z hz => hz.mono fun l hl => .inr hl)))
        · rw [hpop] at hp2; cases hp2
      · rw [hwant _ hw]
        simp only [if_true]
        rcases hO.body with ⟨p', _, hp2, _⟩ | ⟨_, p', hp1, _, hp2, _, hp3⟩
        · rw [hpop] at hp2; cases hp2
        · have : p' = p := by rw [hhop] at hp2; exact (Option.some.inj hp2).symm
          subst this
          have hrun' : runH call e' ⟨(H i).tr, (H i).next, (H i).next, mask ++ (H i).hid, (H i).fams⟩ p' = some (V i, h1) := by rw [← runH_agree hA (hp3 rfl)]; exact hrun
          have M := I.emb T hcp his (by omega) hnS hready hmask
          refine .inl ?_
          unfold Oper.wp
          rw [← execOp_congr o (prepH_select hp1) hev]
          refine runH_sound hc hp1 R M hrun' a _ _ fun φ2 v' w' r1 r2 r3 => ?_
          obtain ⟨m', φ', I'⟩ := I.heap T hcp his hnS hready hn ho (by omega) hmask he1 hk2 hk3 hk r1 r2 r3
          exact next m' φ' _ w' I'
end

theorem reg_any {P : Program} {B : Nat} {call : Caller} (hc : CallSound P B call) (hcp : CallPres call) {n : Nat} (hn : n ≤ 512) {ops : Array Oper} {L : List PI} (hL : prep P n true ops = some L) {Q : Exit → Act → World → Prop} {e e1 : Env} {h h1 : AH}
    (hr : regGo call L 0 e h [] [] = some (e1, h1)) {φ : Phi} {a : Act} {w : World} (R : ERel φ n e a) (M : Emb φ h B w)
    (hQ : ∀ φ' a' w', ERel φ' n e1 a' → Emb φ' h1 B w' → Ext B φ h w φ' h1 w' → Q .normal a' w') : wpAny P .any ops Q ops.size (Array.replicate ops.size false) a w := by
  obtain ⟨E, H, V, K, X, T, e0, e2, e3, e4⟩ := lex_of_run hL M.lim hr
  subst e0; subst e2; subst e3; subst e4
  have I := Inv.init (P := P) (ops := ops) (E := E) (H := H) (V := V) (K := K) R M
  refine Inv.go T hcp hn hc hQ ops.size _ 0 φ a w (by simp) ?_ ?_
  · have : ∀ k, left (List.replicate k false) = k := by
      intro k
      induction k with
      | zero => rfl
      | succ k ih => simp [left, List.replicate_succ] at ih ⊢
    rw [Array.toList_replicate, this]
    exact Nat.le_refl _
  · have : (fun j : Nat => (Array.replicate ops.size false)[j]? = some true) = fun _ => False := by
      funext j
      apply propext
      rw [Array.getElem?_replicate]
      refine ⟨fun h => ?_, fun h => h.elim⟩
      split at h <;> cases h
    rw [this]
    exact I
end Go.Ds
