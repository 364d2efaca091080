import Derived.Test.YtngmaccaldhjcaaDoorDsZ
set_option linter.all false
set_option linter.unusedSimpArgs false
set_option linter.unnecessarySimpa false
set_option linter.unusedVariables false
set_option linter.unusedSectionVars false
set_option linter.unusedSectionVars false
set_option linter.unusedSectionVars false
set_option linter.unusedVariables false
namespace Go.Ds
variable [Inhabited Bound]

theorem mem_edgesOn {x : Nat} : ∀ {l : List Edge}, x ∈ edgesOn l ↔ ∃ e ∈ l, Region.binds .any e = true ∧ e.on = x
  | [] => by simp [edgesOn]
  | e :: l => by
    simp only [edgesOn]
    cases hb : Region.binds .any e with
    | true =>
      simp only [cond_true, List.mem_cons, mem_edgesOn, exists_eq_or_imp, hb, true_and]
      exact ⟨fun h => h.imp Eq.symm id, fun h => h.imp Eq.symm id⟩
    | false => simp only [cond_false, mem_edgesOn, List.mem_cons, exists_eq_or_imp, hb, Bool.false_eq_true, false_and, false_or]

theorem ready_iff {ops : Array Oper} {listed : Array Bool} (hs : listed.size = ops.size) {i : Nat} : i ∈ Region.ready .any ops listed ↔ i < ops.size ∧ listed[i]? = some false ∧ ∀ e ∈ edgesOf ops i, listed[e]? = some true := by
  unfold Region.ready
  rw [List.mem_filter, List.mem_range]
  constructor
  · rintro ⟨h1, h2⟩
    have ho : ops[i]? = some ops[i] := by simp [h1]
    have hl : i < listed.size := by omega
    rw [ho] at h2
    simp only [Bool.and_eq_true, Bool.not_eq_true', Option.map_some, Option.getD_some] at h2
    refine ⟨h1, ?_, fun e he => ?_⟩
    · have := h2.1
      simp [Array.getD_eq_getD_getElem?, hl] at this
      simp [hl, this]
    · simp only [edgesOf, ho] at he
      obtain ⟨x, hx, hb, rfl⟩ := mem_edgesOn.1 he
      have h3 := h2.2
      rw [Array.all_eq_true_iff_forall_mem] at h3
      have := h3 x (by simpa using hx)
      rw [hb] at this
      simp only [Bool.not_true, Bool.false_or] at this
      rw [Array.getD_eq_getD_getElem?] at this
      cases hq : listed[x.on]? with
      | none => rw [hq] at this; cases this
      | some b => rw [hq] at this; simp only [Option.getD_some] at this; rw [this]
  · rintro ⟨h1, h2, h3⟩
    refine ⟨h1, ?_⟩
    have ho : ops[i]? = some ops[i] := by simp [h1]
    rw [ho]
    simp only [Bool.and_eq_true, Bool.not_eq_true', Option.map_some, Option.getD_some]
    refine ⟨by rw [Array.getD_eq_getD_getElem?, h2]; rfl, ?_⟩
    rw [Array.all_eq_true_iff_forall_mem]
    intro x hx
    cases hb : Region.binds .any x with
    | false => rfl
    | true =>
      have := h3 x.on (by simp only [edgesOf, ho]; exact mem_edgesOn.2 ⟨x, by simpa using hx, hb, rfl⟩)
      simp [Array.getD_eq_getD_getElem?, this]

def left (l : List Bool) : Nat := (l.filter (! ·)).length
theorem left_set : ∀ {l : List Bool} {i : Nat}, l[i]? = some false → left (l.set i true) + 1 = left l
  | [], i, h => by simp at h
  | b :: l, 0, h => by
    simp only [List.getElem?_cons_zero, Option.some.injEq] at h
    subst h
    simp [left]
  | b :: l, i + 1, h => by
    have ih := left_set (l := l) (i := i) (by simpa using h)
    cases b <;> simp [left] at ih ⊢ <;> omega
theorem left_zero : ∀ {l : List Bool}, left l = 0 → ∀ {i : Nat}, l[i]? ≠ some false
  | [], _, i, h => by simp at h
  | b :: l, h0, i, h => by
    cases b with
    | false => simp [left] at h0
    | true =>
      cases i with
      | zero => simp at h
      | succ i => exact left_zero (l := l) (by simpa [left] using h0) (i := i) (by simpa using h)

/-! ### A store, and where it writes -/
def Hop.isS : Hop → Bool
  | .store _ _ _ => true
  | _ => false
theorem map_notS {α : Type} {r : Option α} {f : α → Hop} {p : Hop} (h : r.map f = some p) (hf : ∀ a, (f a).isS = false) : p.isS = false := by
  rw [Option.map_eq_some_iff] at h
  obtain ⟨a, _, rfl⟩ := h
  exact hf a
theorem prepCall_notS {P : Program} {c : Call} {p : Hop} (h : prepCall P c = some p) : p.isS = false := by
  unfold prepCall at h
  repeat' split at h
  all_goals first
    | (cases h; done)
    | (simp only [Option.some.injEq] at h; subst h; rfl)
    | exact map_notS h fun _ => rfl
    | (obtain ⟨_, h⟩ := bif_some h; simp only [Option.some.injEq] at h; subst h; rfl)
    | (rw [Option.bind_eq_some_iff] at h; obtain ⟨_, _, h⟩ := h; obtain ⟨_, h⟩ := bind_if h; simp only [Option.some.injEq] at h; subst h; rfl)
theorem prepH_notS {P : Program} {o : Oper} {p : Hop} (hne : ∀ t a x, o.op ≠ .store t a x) (h : prepH P o = some p) : p.isS = false := by
  unfold prepH at h
  repeat' split at h
  all_goals first
    | exact absurd (by assumption) (hne _ _ _)
    | exact prepCall_notS h
    | (cases h; done)
    | (simp only [Option.some.injEq] at h; subst h; rfl)
    | exact map_notS h fun _ => rfl
    | (rw [Option.bind_eq_some_iff] at h; obtain ⟨_, _, h⟩ := h; obtain ⟨_, h⟩ := bind_if h; simp only [Option.some.injEq] at h; subst h; rfl)
    | (obtain ⟨_, h⟩ := bif_some h; simp only [Option.some.injEq] at h; subst h; rfl)
theorem prepH_store {P : Program} {o : Oper} {n : Nat} {px py : PO} (h : prepH P o = some (.store n px py)) : ∃ t x y i, o.op = .store t x y ∧ P.info? t = some i ∧ prepO x = some px ∧ prepO y = some py ∧ i.size = n := by
  by_cases c : ∃ t x y, o.op = .store t x y
  · obtain ⟨t, x, y, ho⟩ := c
    unfold prepH at h
    rw [ho] at h
    simp only at h
    split at h
    · rename_i i px' py' h1 h2 h3
      simp only [Option.some.injEq, Hop.store.injEq] at h
      obtain ⟨rfl, rfl, rfl⟩ := h
      exact ⟨t, x, y, i, ho, h1, h2, h3, rfl⟩
    · cases h
  · have := prepH_notS (fun t a x hh => c ⟨t, a, x, hh⟩) h
    cases this
def Hop.isL : Hop → Bool
  | .load _ _ => true
  | _ => false
theorem map_notL {α : Type} {r : Option α} {f : α → Hop} {p : Hop} (h : r.map f = some p) (hf : ∀ a, (f a).isL = false) : p.isL = false := by
  rw [Option.map_eq_some_iff] at h
  obtain ⟨a, _, rfl⟩ := h
  exact hf a
theorem prepCall_notL {P : Program} {c : Call} {p : Hop} (h : prepCall P c = some p) : p.isL = false := by
  unfold prepCall at h
  repeat' split at h
  all_goals first
    | (cases h; done)
    | (simp only [Option.some.injEq] at h; subst h; rfl)
    | exact map_notL h fun _ => rfl
    | (obtain ⟨_, h⟩ := bif_some h; simp only [Option.some.injEq] at h; subst h; rfl)
    | (rw [Option.bind_eq_some_iff] at h; obtain ⟨_, _, h⟩ := h; obtain ⟨_, h⟩ := bind_if h; simp only [Option.some.injEq] at h; subst h; rfl)
theorem prepH_notL {P : Program} {o : Oper} {p : Hop} (hne : ∀ t a, o.op ≠ .load t a) (h : prepH P o = some p) : p.isL = false := by
  unfold prepH at h
  repeat' split at h
  all_goals first
    | exact absurd (by assumption) (hne _ _)
    | exact prepCall_notL h
    | (cases h; done)
    | (simp only [Option.some.injEq] at h; subst h; rfl)
    | exact map_notL h fun _ => rfl
    | (rw [Option.bind_eq_some_iff] at h; obtain ⟨_, _, h⟩ := h; obtain ⟨_, h⟩ := bind_if h; simp only [Option.some.injEq] at h; subst h; rfl)
    | (obtain ⟨_, h⟩ := bif_some h; simp only [Option.some.injEq] at h; subst h; rfl)
theorem prepH_load {P : Program} {o : Oper} {n : Option Nat} {px : PO} (h : prepH P o = some (.load n px)) : ∃ t x, o.op = .load t x ∧ prepO x = some px := by
  by_cases c : ∃ t x, o.op = .load t x
  · obtain ⟨t, x, ho⟩ := c
    unfold prepH at h
    rw [ho] at h
    simp only at h
    split at h
    · rename_i i px' h1 h2
      simp only [Option.some.injEq, Hop.load.injEq] at h
      obtain ⟨rfl, rfl⟩ := h
      exact ⟨t, x, ho, h2⟩
    · cases h
  · have := prepH_notL (fun t a hh => c ⟨t, a, hh⟩) h
    cases this
theorem storeB_sound {P : Program} {B : Nat} {o : Oper} {n nn : Nat} {px py : PO} (hp : prepH P o = some (.store n px py)) {φ : Phi} {e : Env} {a : Act} (he : ERel φ nn e a) {h h' : AH} {w : World} (E : Emb φ h B w)
    (hr : storeF n h (ev e px) (ev e py) = some h') {ad : Addr} (hx : ev e px = .pointer (some ad)) :
    ∃ e', φ ad.block = some e' ∧ ∀ (a0 : Act) (K : Act → World → Prop) (Q : Exit → Act → World → Prop), (∀ w', Emb φ h' B w' → Ext B φ h w φ h' w' → (∀ k, e'.blk ≠ k → w'.heap[k]? = w.heap[k]?) → K (a0.put o.dst undef) w') → o.upon P a0 K Q ((execOp a.eval o).run P w) := by
  obtain ⟨t, x, y, i, ho, h1, h2, h3, rfl⟩ := prepH_store hp
  have rx := ev_rel he h2
  have ry := ev_rel he h3
  rw [hx] at rx hr
  unfold storeF at hr
  simp only at hr
  obtain ⟨hb, hr⟩ := bif_some hr
  simp only [Bool.and_eq_true] at hb
  generalize hvx : a.eval x = x' at rx
  cases rx with
  | ptr b fe off hφ =>
    rw [cellsOf_eq] at hb hr
    have hc := cells_rel ry
    have hsz : (a.eval y).cells.size = i.size := by
      have h1 := hc.1
      have h2 := beq_eq hb.1
      rw [lenN_eq] at h2
      simp at h1 h2
      omega
    obtain ⟨g1, g2, g3⟩ := writeF_gives (P := P) E hφ hc (oneCells_rel hc hb.2) hr
    refine ⟨fe, hφ, fun a0 K Q hK => ?_⟩
    have hrun : (Instr.storeAt t (.pointer (some ⟨fe.blk, off, none⟩)) (a.eval y)).run P w = .ok () (w.setCells fe.blk off (a.eval y).cells.toList) := by
      simp [Instr.storeAt, Instr.sureAddr, storeVar, run_sizeOf' h1, hsz, g1]
    have hex : execOp a.eval o = (do Instr.storeAt t (.pointer (some ⟨fe.blk, off, none⟩)) (a.eval y); pure .skip) := by
      simp [execOp, ho, hvx]
    rw [hex]
    simp only [Sem.run_bind, hrun, Result.andThen_ok, Sem.run_pure, Oper.upon]
    exact hK _ g2 g3 fun k hk => setCells_heap_other fe.blk _ off w k (Ne.symm hk)

section
variable {P : Program} {call : Caller} {n : Nat} {ops : Array Oper} {E : Nat → Env} {H : Nat → AH} {V : Nat → Value} {K : Nat → Nat} {X : Nat → PI} (T : Lex P call n ops E H V K X) (hcp : CallPres call) (hn : n ≤ 512)
  {B : Nat} {φ0 : Phi} {w0 : World}
include T hcp hn

theorem Inv.done {S : Nat → Prop} {m : Nat} {φ : Phi} {w : World} {a : Act} (I : Inv n ops E H V K X B φ0 w0 S m φ w a) (hall : ∀ j, j < ops.size → S j) :
    ERel φ n (E ops.size) a ∧ Emb φ (H ops.size) B w ∧ Ext B φ0 (H 0) w0 φ (H ops.size) w := by
  have hm := I.m_le T hcp
  have hH : H ops.size = H m := T.eqH hcp hm (Nat.le_refl _) fun l h1 h2 => Nat.lt_of_not_le fun h3 => by have := I.m1 l (hall l h2) h3; omega
  have hhid := T.hid hcp ops.size (Nat.le_refl _)
  have hget : ∀ z, (H ops.size).get z = cont H m z := fun z => by rw [get_cont, hhid, hH]; rfl
  have hcl : Closed ops S S := ⟨fun _ h => h, fun j l hj hb => hall l (by have := (I.down j hj).1; have := T.before_lt j this hb; omega)⟩
  have view : ∀ z, z < (H ops.size).next → View H S z := by
    intro z hz
    by_cases c : z < (H 0).next
    · exact .inl c
    · obtain ⟨l, hl, hs⟩ := span_exists (H := H) (j := ops.size) (by omega) hz
      exact .inr ⟨l, hall l hl, hs⟩
  refine ⟨⟨I.tsize, fun t ht => ?_, I.defs⟩, ⟨?_, I.base, ?_, ?_, ?_, T.lims hcp _ (Nat.le_refl _), I.size⟩, ⟨?_, fun z hz => I.old z hz, T.next_le hcp (Nat.zero_le _) (Nat.le_refl _), hhid, T.low_le hcp (Nat.zero_le _) (Nat.le_refl _), fun z hz hl => T.keep hcp hz (Nat.zero_le _) (Nat.le_refl _) hl, I.frame, I.fresh, I.below⟩⟩
  · rcases exists_last (fun j => dstOf ops j = some t) ops.size with hnone | ⟨j, hj, hd, hlast⟩
    · rw [T.at_none hn ht (Nat.le_refl _) hnone]
      exact (I.tmp0 t ht fun j hj => hnone j (I.down j hj).1).mono Phi.on_le
    · rw [T.at_last hn ht hd hj (Nat.le_refl _) hlast]
      exact (I.tmp1 t ht j (hall j hj) hd fun j' h1 h2 => hlast j' h2 (I.down j' h1).1).mono Phi.on_le
  · intro z e h
    rw [hH]; exact I.view_lt T hcp (fun _ h => h) (I.dom z e h)
  · intro z hz hk
    rw [hget z] at hk ⊢
    obtain ⟨e, h1, h2⟩ := I.obj S hcl z (view z hz) (fun k hk _ => .inl hk) hk
    exact ⟨e, h1, h2.mono Phi.on_le⟩
  · intro x y ex ey hx hy hkx hky
    rw [hget x] at hkx ⊢
    rw [hget y] at hky ⊢
    exact I.apart x y ex ey hx hy hkx hky
  · intro z hz hk hs
    rw [hget z] at hk hs ⊢
    rw [hH]
    exact I.fam z (view z hz) hk hs
  · intro z e h
    rw [I.old z (I.dom0 z e h)]; exact h

omit hn in
theorem Lex.through (hn : n ≤ 512) {i r : Nat} (hr : r < (H i).next) : ∀ {j : Nat}, i ≤ j → j ≤ ops.size → (∀ l, i ≤ l → l < j → K l = 3 → ∃ z, Zb E X l z ∧ r ≠ z) → T5.get (H j).tr r = T5.get (H i).tr r ∧ ∀ f, f < (H i).next → T5.get (H j).fams f = T5.get (H i).fams f
  | 0, h, _, _ => by rw [show i = 0 by omega]; exact ⟨rfl, fun _ _ => rfl⟩
  | j + 1, h, hj, hl => by
    by_cases c : i = j + 1
    · rw [c]; exact ⟨rfl, fun _ _ => rfl⟩
    · have ih := Lex.through hn hr (j := j) (by omega) (by omega) fun l a b => hl l a (by omega)
      have hnx := T.next_le hcp (i := i) (j := j) (by omega) (by omega)
      by_cases c3 : K j = 3
      · obtain ⟨z, hz, hne⟩ := hl j (by omega) (by omega) c3
        have hz' := hz
        obtain ⟨_, _, _, _, _, q1, _⟩ := hz'
        obtain ⟨z', z1, z2, z3, z4, _⟩ := T.bes hn (i := j) (by omega) c3 q1 rfl
        have e := Zb.uniq hz z1
        subst e
        exact ⟨(z3 r hne).trans ih.1, fun f hf => by rw [z4]; exact ih.2 f hf⟩
      · have st := (T.at_ hcp (i := j) (by omega)).2.2.2.2.1 c3
        exact ⟨(st r (by omega)).1.trans ih.1, fun f hf => (st f (by omega)).2.trans (ih.2 f hf)⟩

theorem Inv.go (hc : CallSound P B call) {Q : Exit → Act → World → Prop} (hQ : ∀ φ a w, ERel φ n (E ops.size) a → Emb φ (H ops.size) B w → Ext B φ0 (H 0) w0 φ (H ops.size) w → Q .normal a w) :
    ∀ (fuel : Nat) (listed : Array Bool) (m : Nat) (φ : Phi) (a : Act) (w : World), listed.size = ops.size → left listed.toList ≤ fuel → Inv n ops E H V K X B φ0 w0 (fun j => listed[j]? = some true) m φ w a → wpAny P .any ops Q fuel listed a w := by
  intro fuel
  induction fuel with
  | zero =>
    intro listed m φ a w hs hl I
    have hall : ∀ j, j < ops.size → listed[j]? = some true := by
      intro j hj
      have h0 := left_zero (l := listed.toList) (by omega) (i := j)
      rw [Array.getElem?_toList] at h0
      have : listed[j]? = some (listed[j]'(by omega)) := by simp [show j < listed.size by omega]
      rw [this] at h0 ⊢
      cases hb : listed[j]'(by omega) with
      | true => rfl
      | false => rw [hb] at h0; exact absurd rfl h0
    obtain ⟨d1, d2, d3⟩ := I.done T hcp hn hall
    refine ⟨?_, hQ φ a w d1 d2 d3⟩
    cases hr : Region.ready .any ops listed with
    | nil => rfl
    | cons i l =>
      have := (ready_iff hs (i := i)).1 (by rw [hr]; exact List.mem_cons_self)
      rw [hall i this.1] at this
      cases this.2.1
  | succ fuel ih =>
    intro listed m φ a w hs hl I
    refine ⟨fun hr => ?_, fun i hi => ?_⟩
    · have hall : ∀ j, j < ops.size → listed[j]? = some true := by
        intro j
        induction j using Nat.strongRecOn with
        | _ j ihj =>
          intro hj
          have : listed[j]? = some (listed[j]'(by omega)) := by simp [show j < listed.size by omega]
          cases hb : listed[j]'(by omega) with
          | true => rw [this, hb]
          | false =>
            exfalso
            have hmem : j ∈ Region.ready .any ops listed := (ready_iff hs).2 ⟨hj, by rw [this, hb], fun e he => by
              have := T.edge_lt hj he
              exact ihj e this (by omega)⟩
            rw [hr] at hmem
            cases hmem
      obtain ⟨d1, d2, d3⟩ := I.done T hcp hn hall
      exact hQ φ a w d1 d2 d3
    · obtain ⟨his, hun, hready⟩ := (ready_iff hs).1 hi
      have hnS : ¬ (listed[i]? = some true) := by rw [hun]; intro h; cases h
      obtain ⟨o, ho, hO⟩ := T.op his
      have hS' : (fun j => (listed.setIfInBounds i true)[j]? = some true) = With (fun j => listed[j]? = some true) i := by
        funext j
        apply propext
        unfold With
        rw [Array.getElem?_setIfInBounds]
        by_cases c : i = j
        · subst c; simp [show i < listed.size by omega]
        · rw [if_neg c]; simp [Ne.symm c]
      have next : ∀ m' φ' a' w', Inv n ops E H V K X B φ0 w0 (With (fun j => listed[j]? = some true) i) m' φ' w' a' → wpAny P .any ops Q fuel (listed.setIfInBounds i true) a' w' := by
        intro m' φ' a' w' I'
        refine ih _ m' φ' a' w' (by simpa using hs) ?_ (by rw [hS']; exact I')
        have := left_set (l := listed.toList) (i := i) (by rw [Array.getElem?_toList]; exact hun)
        rw [Array.toList_setIfInBounds]
        omega
      have reads : ∀ t, t ∈ o.looksAt ops → t < 512 → VRel (φ.on (View H (before ops i))) ((E i).at (slot t)) (a.tmps.getD t undef) := fun t hlook ht => I.reads T hcp hn ho hnS hready ht hlook
      have hwant : ∀ b, wantF (E i) (X i).guard = some b → Region.wanted o (yielded ops a.tmps) = b := fun b hb => want_rel hO.guard reads hb
      -- what it looks at, and nothing else
      obtain ⟨e', he'⟩ := env_at (fun p => (E i).at p) (looks ops o)
      let tm : Array Value := (Array.range a.tmps.size).map fun t => if t ∈ o.looksAt ops ∨ 512 ≤ t then a.tmps.getD t undef else undef
      have tm_get : ∀ t, tm.getD t undef = if t ∈ o.looksAt ops ∨ 512 ≤ t then a.tmps.getD t undef else undef := by
        intro t
        simp only [tm, Array.getD_eq_getD_getElem?]
        by_cases c : t < a.tmps.size
        · simp [c]
        · simp [c]
      have hA : Agree (looks ops o) (E i) e' := fun p hp => by rw [he' p, if_pos hp]
      have R : ERel (φ.on (View H (before ops i))) n e' ⟨tm, []⟩ := by
        refine ⟨by have := I.tsize; simpa [tm] using this, fun t ht => ?_, rfl⟩
        rw [he' (slot t)]
        show VRel _ _ (tm.getD t undef)
        rw [tm_get t]
        by_cases c : t ∈ o.looksAt ops
        · have hin : slot t ∈ looks ops o := List.mem_map.2 ⟨t, List.mem_filter.2 ⟨c, by simpa [Nat.blt_eq] using ht⟩, rfl⟩
          rw [if_pos hin, if_pos (.inl c)]
          exact reads t c ht
        · have hin : ¬ slot t ∈ looks ops o := fun h => by
            obtain ⟨t', h1, h2⟩ := List.mem_map.1 h
            obtain ⟨h3, h4⟩ := List.mem_filter.1 h1
            have := slot_inj (blt_lt h4) ht h2
            subst this
            exact c h3
          rw [if_neg hin, if_neg (fun h => h.elim c (fun h => by omega))]
          exact VRel.undef
      have hev : ∀ x ∈ o.op.operands, (⟨tm, []⟩ : Act).eval x = a.eval x := by
        intro x hx
        cases x with
        | tmp t =>
          show tm.getD t undef = a.tmps.getD t undef
          have hin : t ∈ o.looksAt ops := List.mem_append_left _ (List.mem_filterMap.2 ⟨.tmp t, by simpa using hx, rfl⟩)
          rw [tm_get t, if_pos (.inl hin)]
        | const v => rfl
        | global g => rfl
        | func f => rfl
      unfold wpOp
      rw [ho]
      dsimp only
      rcases T.kind i his with ⟨k0, hw, hv, _⟩ | ⟨k1, hw, _, p, hpop, hrun⟩ | ⟨hk, hw, hpop, p, h1, mask, hhop, hmask, hrun, he1, hk2, hk3, _⟩
      · rw [hwant _ hw]
        simp only [Bool.false_eq_true, if_false]
        refine next m φ _ w (I.idle T hcp his hnS hready hn ho (by omega) ?_)
        rw [hv]; exact VRel.undef
      · rw [hwant _ hw]
        simp only [if_true]
        rcases hO.body with ⟨p', hp1, hp2, hp3⟩ | ⟨_, p', _, hp2, _⟩
        · have : p' = p := by rw [hpop] at hp2; exact (Option.some.inj hp2).symm
          subst this
          have hrun' : runP e' p' = some (V i) := by rw [← runP_agree hA (hp3 rfl)]; exact hrun
          obtain ⟨v', g1, g2⟩ := runP_sound (prepQ_some hp1) R hrun' o rfl
          refine .inl ?_
          unfold Oper.wp
          rw [← execOp_congr o (prepP_select (prepQ_some hp1)) hev, g2 w]
          exact next m φ _ w (I.idle T hcp his hnS hready hn ho (by omega) (g1.mono (Phi.on_mono (Phi.le_refl _) fun z hz => hz.mono fun l hl => .inr hl)))
        · rw [hpop] at hp2; cases hp2
      · rw [hwant _ hw]
        simp only [if_true]
        rcases hO.body with ⟨p', _, hp2, _⟩ | ⟨_, p', hp1, _, hp2, _, hp3⟩
        · rw [hpop] at hp2; cases hp2
        · simp only [cond_true] at hp2
          have hpe : besideH ops i (unordered (bOf ops i) (hsOf P ops i)) p' = p := by rw [hhop] at hp2; exact (Option.some.inj hp2).symm
          have hks : 2 ≤ K i := by omega
          have late : ∀ k, listed[k]? = some true → K k = 3 → i < k → ∃ z r, Zb E X k z ∧ Rb E X i r ∧ r ≠ z ∧ K i = 2 := by
            intro k hk h3 hik
            have hkz := (I.down k hk).1
            rcases T.writer_or hkz h3 hik (by omega) with hb | ⟨hh, q, hq1, hq2⟩
            · exact absurd (T.down I.down k hkz (I.down k hk).2 hb) hnS
            · obtain ⟨z, z1, _, _, _, z2⟩ := T.bes hn hkz h3 hq1 hq2
              obtain ⟨k2, r, r1, r2⟩ := z2 i hh hik (by omega)
              exact ⟨z, r, z1, r1, r2, k2⟩
          refine .inl ?_
          unfold Oper.wp
          rw [← execOp_congr o (prepH_select hp1) hev]
          by_cases hlate : ∃ k, listed[k]? = some true ∧ K k = 3 ∧ i < k
          · obtain ⟨k0, hk0, h30, hik0⟩ := hlate
            obtain ⟨z0, r, z1, hr1, hne0, hK2⟩ := late k0 hk0 h30 hik0
            have hcalm := T.load_calm his hks hr1
            obtain ⟨m', b', ad, q1, q2, q3⟩ := hr1
            rw [hhop] at q1
            simp only [Option.some.injEq] at q1
            subst q1
            have hpl : p' = .load m' b' := by
              rcases besideH_cases ops i (unordered (bOf ops i) (hsOf P ops i)) p' with c | ⟨_, _, _, _, _, c2, _⟩
              · rw [c] at hpe; exact hpe
              · rw [c2] at hpe; cases hpe
            subst hpl
            have hmem := posIn_mem hA (hp3 rfl)
            have q2' : ev e' b' = .pointer (some ad) := by rw [← hmem b' List.mem_cons_self]; exact q2
            have hlt : ∀ k, listed[k]? = some true → K k = 3 → i < k → ∃ z, Zb E X k z ∧ r ≠ z := fun k hk h3 hik => by
              obtain ⟨z, r', a1, ⟨m2, b2, ad2, c1, c2, c3⟩, a3, _⟩ := late k hk h3 hik
              rw [hhop] at c1
              simp only [Option.some.injEq, Hop.load.injEq] at c1
              obtain ⟨rfl, rfl⟩ := c1
              rw [q2] at c2
              simp only [Value.pointer.injEq, Option.some.injEq] at c2
              subst c2
              exact ⟨z, a1, by rw [← q3, c3]; exact a3⟩
            have hrl : ∀ l, i ≤ l → l < m → K l = 3 → ∃ z, Zb E X l z ∧ r ≠ z := by
              intro l a1 a2 a3
              have hSl : listed[l]? = some true := by
                rcases I.m2 with h | ⟨j, hj1, hj2, hj3⟩
                · omega
                · have hjs := (I.down j hj1).1
                  by_cases e : l = j
                  · subst e; exact hj1
                  · exact T.down I.down j hjs (I.down j hj1).2 (T.after_writer hjs hj2 (by omega) a3)
              by_cases e : l = i
              · subst e; omega
              · exact hlt l hSl a3 (by omega)
            have him : i < m := by have := I.m1 k0 hk0 (by omega); omega
            have hms := I.m_le T hcp
            obtain ⟨ta, xa, hoa, hxa⟩ := prepH_load hp1
            have rx := ev_rel R hxa
            rw [q2'] at rx
            obtain ⟨fe, hfe⟩ : ∃ fe, (φ.on (View H (before ops i))) ad.block = some fe := by
              generalize (⟨tm, []⟩ : Act).eval xa = x' at rx
              cases rx with
              | ptr b fe off h => exact ⟨fe, h⟩
            rw [q3] at hfe
            have sees := I.sees T hcp his hks hmask
            have hview := (Phi.on_some.1 hfe).1
            obtain ⟨hrn, hrm⟩ := (sees r).1 hview
            have hth := T.through hcp hn hrn (j := m) (by omega) hms hrl
            have hhid := T.hid hcp i (by omega)
            let hR : AH := ⟨(H i).tr, (H i).next, (H i).next, (0, r) :: (r + 1, (H i).next) :: (H i).hid, (H i).fams⟩
            have hgr : hR.get r = cont H m r := by
              rw [get_cont]
              have : inSpans hR.hid r = inSpans (H 0).hid r := by
                rw [Bool.eq_iff_iff]
                show inSpans ((0, r) :: (r + 1, (H i).next) :: (H i).hid) r = true ↔ _
                rw [inSpans_cons, inSpans_cons, hhid]
                constructor
                · rintro (h | h | h)
                  · omega
                  · omega
                  · exact h
                · exact fun h => .inr (.inr h)
              rw [this]
              show (bif inSpans (H 0).hid r then dead else T5.get (H i).tr r) = _
              rw [← hth.1]
              rfl
            have hgm : (⟨(H i).tr, (H i).next, (H i).next, mask ++ (H i).hid, (H i).fams⟩ : AH).get r = hR.get r := by
              rw [hgr, get_cont, inSpans_append]
              simp only
              rw [hrm, Bool.false_or, hhid, ← hth.1]
              rfl
            have hdead : ∀ z, z < (H i).next → z ≠ r → (hR.get z).kind = 0 := by
              intro z hz hne
              have : inSpans hR.hid z = true := by
                show inSpans ((0, r) :: (r + 1, (H i).next) :: (H i).hid) z = true
                rw [inSpans_cons, inSpans_cons]
                rcases Nat.lt_or_gt_of_ne hne with c | c
                · exact .inl ⟨Nat.zero_le _, c⟩
                · exact .inr (.inl ⟨c, hz⟩)
              rw [get_cont, this]
              rfl
            have hcl := I.closed T hcp his hready
            have hfit : Fits E K X (fun j => listed[j]? = some true) (before ops i) r := fun k hkS h3 => by
              rcases Nat.lt_trichotomy k i with c | c | c
              · exact .inl (T.after_writer his hks c h3)
              · exact absurd (c ▸ hkS) hnS
              · exact .inr (hlt k hkS h3 c)
            have M' : Emb (φ.on (View H (before ops i))) hR B w := by
              constructor
              · intro z e h
                exact ((sees z).1 (Phi.on_some.1 h).1).1
              · intro z e h
                exact I.base z e (Phi.on_some.1 h).2
              · intro z hz hkz
                by_cases c : z = r
                · subst c
                  rw [hgr] at hkz ⊢
                  obtain ⟨e, g1, g2⟩ := I.obj _ hcl z hview hfit hkz
                  exact ⟨e, Phi.on_some.2 ⟨hview, g1⟩, g2⟩
                · exact absurd (hdead z hz c) hkz
              · intro x y ex ey hx hy hkx hky hne hbb
                have hxn := ((sees x).1 (Phi.on_some.1 hx).1).1
                have hyn := ((sees y).1 (Phi.on_some.1 hy).1).1
                by_cases c : x = r
                · by_cases c' : y = r
                  · exact absurd (c.trans c'.symm) hne
                  · exact absurd (hdead y hyn c') hky
                · exact absurd (hdead x hxn c) hkx
              · intro z hz hkz hs
                by_cases c : z = r
                · subst c
                  rw [hgr] at hkz hs ⊢
                  obtain ⟨g1, g2⟩ := I.fam z (hview.mono hcl.1) hkz hs
                  refine ⟨g1, ?_⟩
                  show _ ∈ T5.get (H i).fams _
                  rw [← hth.2 _ (by omega)]
                  exact g2
                · exact absurd (hdead z hz c) hkz
              · exact T.lims hcp i (by omega)
              · exact I.size
            have hrun2 : runH call e' ⟨(H i).tr, (H i).next, (H i).next, mask ++ (H i).hid, (H i).fams⟩ (.load m' b') = some (V i, h1) := by rw [← runH_agree hA (hp3 rfl)]; exact hrun
            have hrunR : runH call e' hR (.load m' b') = some (V i, hR) := by
              simp only [runH, q2'] at hrun2 ⊢
              have hl : loadF m' hR (.pointer (some ad)) = loadF m' ⟨(H i).tr, (H i).next, (H i).next, mask ++ (H i).hid, (H i).fams⟩ (.pointer (some ad)) := by
                have hg : hR.get ad.block = (⟨(H i).tr, (H i).next, (H i).next, mask ++ (H i).hid, (H i).fams⟩ : AH).get ad.block := by rw [q3]; exact hgm.symm
                unfold loadF readN
                dsimp only
                rw [hg]
              rw [hl]
              unfold asSome at hrun2 ⊢
              split at hrun2
              · simp only [Option.some.injEq, Prod.mk.injEq] at hrun2
                rw [hrun2.1]
              · cases hrun2
            refine runH_sound hc hp1 R M' hrunR a _ _ fun φ2 v' w' r1 r2 r3 => ?_
            have hle2 : φ2.le (φ.on (View H (before ops i))) := fun z e h => by
              have hz := r2.dom z e h
              rw [← r3.old z hz]; exact h
            have hws : ∀ k, k < w.heap.size → w'.heap[k]? = w.heap[k]? := fun k hk => r3.frame k hk fun z e hz _ => M'.dom z e hz
            exact next m φ _ w' (I.calm T hcp his hnS hready hn ho (fun z hz => by have h1 := hz.1; have h2 := hz.2; omega) (fun _ => him) hws r3.below r2.size
              (r1.mono (Phi.le_trans hle2 (Phi.on_mono (Phi.le_refl _) fun z hz => hz.mono fun l hl => .inr hl))))
          · have hnl : ∀ k, listed[k]? = some true → K k = 3 → k < i := fun k hkS h3 => by
              rcases Nat.lt_trichotomy k i with c | c | c
              · exact c
              · exact absurd (c ▸ hkS) hnS
              · exact absurd ⟨k, hkS, h3, c⟩ hlate
            have hbes : K i = 3 → ∀ l, l < i → 2 ≤ K l → before ops i l ∨ ∀ z, ¬ span H l z := fun h3 l hl hkl => by
              rcases T.writer_or his h3 hl hkl with hb | ⟨hh, q, hq1, hq2⟩
              · exact .inl hb
              · obtain ⟨z, z1, _, _, _, z2⟩ := T.bes hn his h3 hq1 hq2
                obtain ⟨_, r, r1, _⟩ := z2 l hh hl hkl
                refine .inr fun y hy => ?_
                have := (T.load_calm (by omega) hkl r1).1
                have h1 := hy.1
                have h2 := hy.2
                omega
            have M := I.emb T hcp his hks hnS hready hnl hmask
            rcases besideH_cases ops i (unordered (bOf ops i) (hsOf P ops i)) p' with c | ⟨m', x', v', os', c1, c2, c3⟩
            · rw [c] at hpe
              subst hpe
              have hnb := prepH_notB hp1
              have hrun' : runH call e' ⟨(H i).tr, (H i).next, (H i).next, mask ++ (H i).hid, (H i).fams⟩ p' = some (V i, h1) := by rw [← runH_agree hA (hp3 rfl)]; exact hrun
              refine runH_sound hc hp1 R M hrun' a _ _ fun φ2 v' w' r1 r2 r3 => ?_
              obtain ⟨m', φ', I'⟩ := I.heap T hcp his hnS hready hn ho hks hmask he1 hk2 hnl hbes hk r1 r2 (fun _ z' hz' => by
                obtain ⟨_, _, _, _, _, q1, _⟩ := hz'
                rw [hhop] at q1
                cases q1
                cases hnb) r3
              exact next m' φ' _ w' I'
            · rw [c2] at hpe
              subst hpe
              subst c1
              have hmem := posIn_mem hA (hp3 rfl)
              simp only [runH] at hrun
              obtain ⟨hbf, hrun⟩ := bif_some hrun
              obtain ⟨ad, e1, e2, e3, e4⟩ := besideF_some hbf
              obtain ⟨hv0, hrun⟩ := asUnit_some hrun
              have ex : ev e' x' = .pointer (some ad) := by rw [← hmem x' List.mem_cons_self]; exact e1
              have evv : ev (E i) v' = ev e' v' := hmem v' (List.mem_cons_of_mem _ List.mem_cons_self)
              have hsr : storeF m' ⟨(H i).tr, (H i).next, (H i).next, mask ++ (H i).hid, (H i).fams⟩ (ev e' x') (ev e' v') = some h1 := by rw [ex, ← evv, ← e1]; exact hrun
              obtain ⟨fe, f1, f2⟩ := storeB_sound hp1 R M hsr ex
              have hwf : ∀ y, y ≠ ad.block → T5.get h1.tr y = T5.get (H i).tr y := by
                rw [ex] at hsr
                unfold storeF at hsr
                simp only at hsr
                obtain ⟨_, hsr⟩ := bif_some hsr
                exact (writeF_plain e3 hsr).2.2
              have hci : cont H i ad.block = (⟨(H i).tr, (H i).next, (H i).next, mask ++ (H i).hid, (H i).fams⟩ : AH).get ad.block := by
                rw [get_cont, inSpans_append]
                cases hq : inSpans mask ad.block with
                | true =>
                  rw [get_cont, inSpans_append] at e2
                  simp only at e2
                  rw [hq] at e2
                  cases e2
                | false =>
                  simp only [Bool.false_or]
                  rw [T.hid hcp i (by omega)]
                  rfl
              refine f2 a _ _ fun w' r2 r3 r4 => ?_
              obtain ⟨m2, φ', I'⟩ := I.heap T hcp his hnS hready hn ho hks hmask he1 hk2 hnl hbes hk (by rw [hv0]; exact VRel.undef) r2 (fun _ z' hz' => by
                obtain ⟨_, _, _, _, ad', q1, q2, q3⟩ := hz'
                rw [hhop] at q1
                cases q1
                rw [e1] at q2
                simp only [Value.pointer.injEq, Option.some.injEq] at q2
                subst q2
                subst q3
                refine ⟨hwf, (Phi.on_some.1 f1).1, ?_, ?_, fe, (Phi.on_some.1 f1).2, fun k hk _ => r4 k hk⟩
                · rw [hci, e2]; exact Nat.one_ne_zero
                · rw [hci]; exact e3) r3
              exact next m2 φ' _ w' I'
end

theorem reg_any {P : Program} {B : Nat} {call : Caller} (hc : CallSound P B call) (hcp : CallPres call) {n : Nat} (hn : n ≤ 512) {ops : Array Oper} {L : List PI} (hL : prep P n true ops = some L) {Q : Exit → Act → World → Prop} {e e1 : Env} {h h1 : AH}
    (hr : regGo call L 0 e h [] [] = some (e1, h1)) {φ : Phi} {a : Act} {w : World} (R : ERel φ n e a) (M : Emb φ h B w)
    (hQ : ∀ φ' a' w', ERel φ' n e1 a' → Emb φ' h1 B w' → Ext B φ h w φ' h1 w' → Q .normal a' w') : wpAny P .any ops Q ops.size (Array.replicate ops.size false) a w := by
  obtain ⟨E, H, V, K, X, T, e0, e2, e3, e4⟩ := lex_of_run hL M.lim hr
  subst e0; subst e2; subst e3; subst e4
  have I := Inv.init (P := P) (ops := ops) (E := E) (H := H) (V := V) (K := K) (X := X) R M
  refine Inv.go T hcp hn hc hQ ops.size _ 0 φ a w (by simp) ?_ ?_
  · have : ∀ k, left (List.replicate k false) = k := by
      intro k
      induction k with
      | zero => rfl
      | succ k ih => simp [left, List.replicate_succ] at ih ⊢
    rw [Array.toList_replicate, this]
    exact Nat.le_refl _
  · have : (fun j : Nat => (Array.replicate ops.size false)[j]? = some true) = fun _ => False := by
      funext j
      apply propext
      rw [Array.getElem?_replicate]
      refine ⟨fun h => ?_, fun h => h.elim⟩
      split at h <;> cases h
    rw [this]
    exact I
end Go.Ds
