import Derived.Test.YtngmaccaldhjcaaDoorDsR
set_option linter.all false
set_option linter.unusedSimpArgs false
set_option linter.unnecessarySimpa false
set_option linter.unusedVariables false
set_option linter.unusedSectionVars false
set_option linter.unusedSectionVars false
set_option linter.unusedVariables false
namespace Go.Ds
variable [Inhabited Bound]

/-! ## Operands that agree -/
theorem p3eq_eq {p q : P3} (h : p3eq p q = true) : p = q := Nat.eq_of_beq_eq_true h
theorem inP_mem {p : P3} : ∀ {l : List P3}, inP p l = true → p ∈ l
  | [], h => by cases h
  | q :: l, h => by
    simp only [inP, Bool.or_eq_true] at h
    rcases h with h | h
    · rw [p3eq_eq h]; exact List.mem_cons_self
    · exact List.mem_cons_of_mem _ (inP_mem h)
def Agree (l : List P3) (e e' : Env) : Prop := ∀ p ∈ l, e.at p = e'.at p
section
variable {l : List P3} {e e' : Env} (A : Agree l e e')
include A
theorem ev_agree {p : PO} (h : poIn l p = true) : ev e p = ev e' p := by
  cases p with
  | s p => exact A p (inP_mem h)
  | c v => rfl
theorem posIn_mem {ps : List PO} (h : posIn l ps = true) : ∀ p ∈ ps, ev e p = ev e' p := by
  induction ps with
  | nil => intro p hp; cases hp
  | cons q ps ih =>
    simp only [posIn, Bool.and_eq_true] at h
    intro p hp
    rcases List.mem_cons.1 hp with rfl | hp
    · exact ev_agree A h.1
    · exact ih h.2 p hp
omit A in
theorem evs_agree : ∀ {ps : List PO}, (∀ p ∈ ps, ev e p = ev e' p) → evs e ps = evs e' ps
  | [], _ => rfl
  | p :: ps, h => by simp only [evs]; rw [h p List.mem_cons_self, evs_agree fun q hq => h q (List.mem_cons_of_mem _ hq)]
omit A in
theorem evParts_agree : ∀ {ps : List (Nat × PO)}, (∀ p ∈ partL ps, ev e p = ev e' p) → evParts e ps = evParts e' ps
  | [], _ => rfl
  | p :: ps, h => by simp only [evParts]; rw [h p.2 List.mem_cons_self, evParts_agree fun q hq => h q (List.mem_cons_of_mem _ hq)]
omit A in
theorem evOpt_agree {o : Option PO} (h : ∀ p ∈ optL o, ev e p = ev e' p) : evOpt e o = evOpt e' o := by
  cases o with
  | none => rfl
  | some p => simp only [evOpt]; rw [h p List.mem_cons_self]
omit A in
theorem runP_agree' {p : Pop} (h : ∀ q ∈ p.pos, ev e q = ev e' q) : runP e p = runP e' p := by
  cases p <;> simp only [Pop.pos, List.mem_cons, List.not_mem_nil, or_false, forall_eq_or_imp, forall_eq, List.mem_append] at h <;> simp only [runP] <;>
    first
    | rw [h]
    | rw [h.1, h.2]
    | rw [h.1, h.2.1, h.2.2]
    | rw [evParts_agree h]
    | rw [evs_agree fun p hp => h p (.inl hp), evs_agree fun p hp => h p (.inr hp)]
    | rw [h.1, evOpt_agree fun p hp => h.2 p (.inl hp), evOpt_agree fun p hp => h.2 p (.inr hp)]
    | rw [h.1, h.2.1, h.2.2.1, evOpt_agree h.2.2.2]
theorem runP_agree {p : Pop} (h : posIn l p.pos = true) : runP e p = runP e' p := runP_agree' (posIn_mem A h)
omit A in
theorem runH_agree' {call : Caller} {hp : AH} {p : Hop} (h : ∀ q ∈ p.pos, ev e q = ev e' q) : runH call e hp p = runH call e' hp p := by
  cases p <;> simp only [Hop.pos, List.mem_cons, List.not_mem_nil, or_false, forall_eq_or_imp, forall_eq, List.mem_append] at h <;> simp only [runH] <;>
    first
    | rw [h]
    | rw [h.1, h.2]
    | rw [h.1, h.2.1, h.2.2]
    | rw [evParts_agree h]
    | rw [evs_agree h]
    | rw [h.1, evs_agree h.2]
    | rw [h.1, h.2.1, evs_agree h.2.2]
    | rw [h.1, evOpt_agree fun p hp => h.2 p (.inl hp), evOpt_agree fun p hp => h.2 p (.inr hp)]
theorem runH_agree {call : Caller} {hp : AH} {p : Hop} (h : posIn l p.pos = true) : runH call e hp p = runH call e' hp p := runH_agree' (posIn_mem A h)
end

/-- The environment at some places, and nothing elsewhere. -/
theorem env_at (f : P3 → Value) : ∀ l : List P3, ∃ e : Env, ∀ p, e.at p = if p ∈ l then f p else undef
  | [] => ⟨Env.none, fun p => by rw [Env.at_none]; simp⟩
  | q :: l => by
    obtain ⟨e, he⟩ := env_at f l
    refine ⟨Env.put e q (f q), fun p => ?_⟩
    rw [Env.at_put, he]
    by_cases c : q = p
    · subst c; simp
    · rw [if_neg c]; simp [List.mem_cons, Ne.symm c]

theorem prepP_select {P : Program} {op : Op} {p : Pop} (h : prepP P op = some p) : ∀ cs b, op ≠ .select cs b := by
  intro cs b hc
  subst hc
  cases h
theorem prepH_select {P : Program} {o : Oper} {p : Hop} (h : prepH P o = some p) : ∀ cs b, o.op ≠ .select cs b := by
  intro cs b hc
  unfold prepH at h
  rw [hc] at h
  cases h

theorem prepQ_some {P : Program} {ops : Array Oper} {o : Oper} {p : Pop} (h : prepQ P ops o = some p) : prepP P o.op = some p := by
  unfold prepQ at h
  exact (bind_if h).2
/-! ## What is made ready for a region -/
def edgesOf (ops : Array Oper) (i : Nat) : List Nat := match ops[i]? with | some o => edgesOn o.after.toList | none => []
def bsOf (ops : Array Oper) : Nat → List Nat
  | 0 => []
  | i + 1 => bsOf ops i ++ [orBits (bsOf ops i) (edgesOf ops i)]
def bOf (ops : Array Oper) (i : Nat) : Nat := orBits (bsOf ops i) (edgesOf ops i)
def hsOf (P : Program) (ops : Array Oper) : Nat → List Nat
  | 0 => []
  | i + 1 => match ops[i]? with
    | some o => match prepQ P ops o with
      | some _ => hsOf P ops i
      | none => hsOf P ops i ++ [i]
    | none => hsOf P ops i

structure OpPrep (P : Program) (n : Nat) (draw : Bool) (ops : Array Oper) (i : Nat) (o : Oper) (x : PI) : Prop where
  guard : prepG ops o = some x.guard
  dst : prepD n o.dst = some x.dst
  body : (∃ p, prepQ P ops o = some p ∧ x.pop = some p ∧ (draw = true → posIn (looks ops o) p.pos = true)) ∨
    (prepQ P ops o = none ∧ ∃ p, prepH P o = some p ∧ x.pop = none ∧ x.hop = some (bif draw then besideH ops i (unordered (bOf ops i) (hsOf P ops i)) p else p) ∧ x.hide = (bif draw then unordered (bOf ops i) (hsOf P ops i) else []) ∧ (draw = true → posIn (looks ops o) p.pos = true))
  below : draw = true → allBelow i (edgesOf ops i) = true
  guards : draw = true → guardOk o (bOf ops i) i = true
  apart : draw = true → ∀ j oj, j < i → ops[j]? = some oj → hasBit (bOf ops i) j = false → oj.apart ops o = true

theorem apartAll_spec {ops : Array Oper} {o : Oper} {b : Nat} : ∀ {l : List Oper} {k : Nat}, apartAll ops o b l k = true → ∀ j oj, l[j]? = some oj → hasBit b (k + j) = false → oj.apart ops o = true
  | [], k, h, j, oj, hj, _ => by simp at hj
  | x :: l, k, h, j, oj, hj, hb => by
    simp only [apartAll, Bool.and_eq_true, Bool.or_eq_true] at h
    cases j with
    | zero =>
      simp only [List.getElem?_cons_zero, Option.some.injEq] at hj
      subst hj
      rcases h.1 with c | c
      · rw [Nat.add_zero] at hb; rw [hb] at c; cases c
      · exact c
    | succ j => exact apartAll_spec h.2 j oj (by simpa using hj) (by rw [show Nat.succ k + j = k + (j + 1) by omega]; exact hb)

theorem prepGo_spec {P : Program} {n : Nat} {draw : Bool} {ops : Array Oper} : ∀ (l done : List Oper) (r : List PI), done ++ l = ops.toList →
    prepGo P n draw ops done (bsOf ops done.length) (hsOf P ops done.length) done.length l = some r →
    r.length = l.length ∧ ∀ j o, l[j]? = some o → ∃ x, r[j]? = some x ∧ OpPrep P n draw ops (done.length + j) o x
  | [], done, r, _, h => by
    simp only [prepGo, Option.some.injEq] at h
    subst h
    exact ⟨rfl, fun j o hj => by simp at hj⟩
  | o :: l, done, r, hd, h => by
    have hi : ops[done.length]? = some o := by rw [← Array.getElem?_toList, ← hd]; simp
    have he : edgesOf ops done.length = edgesOn o.after.toList := by simp only [edgesOf, hi]
    have hb : orBits (bsOf ops done.length) (edgesOn o.after.toList) = bOf ops done.length := by rw [← he]; rfl
    have hbs : bsOf ops (done ++ [o]).length = bsOf ops done.length ++ [bOf ops done.length] := by
      rw [List.length_append]; rfl
    simp only [prepGo] at h
    obtain ⟨hc, h⟩ := bif_some h
    rw [hb] at hc h
    have hck : draw = true → allBelow done.length (edgesOf ops done.length) = true ∧ guardOk o (bOf ops done.length) done.length = true ∧ apartAll ops o (bOf ops done.length) done 0 = true := by
      intro hdr
      rw [hdr] at hc
      simp only [Bool.not_true, Bool.false_or, Bool.and_eq_true] at hc
      rw [he]
      exact ⟨hc.1.1, hc.1.2, hc.2⟩
    have hap : draw = true → ∀ j oj, j < done.length → ops[j]? = some oj → hasBit (bOf ops done.length) j = false → oj.apart ops o = true := by
      intro hdr j oj hj hoj hbit
      refine apartAll_spec (hck hdr).2.2 j oj ?_ (by rw [Nat.zero_add]; exact hbit)
      rw [← Array.getElem?_toList, ← hd, List.getElem?_append_left hj] at hoj
      exact hoj
    have hd' : (done ++ [o]) ++ l = ops.toList := by rw [List.append_assoc]; exact hd
    have fin : ∀ (x : PI) (r' : List PI), OpPrep P n draw ops done.length o x → prepGo P n draw ops (done ++ [o]) (bsOf ops (done ++ [o]).length) (hsOf P ops (done ++ [o]).length) (done ++ [o]).length l = some r' → r = x :: r' →
        r.length = (o :: l).length ∧ ∀ j o', (o :: l)[j]? = some o' → ∃ x, r[j]? = some x ∧ OpPrep P n draw ops (done.length + j) o' x := by
      intro x r' hx hr' hr
      subst hr
      obtain ⟨g1, g2⟩ := prepGo_spec l (done ++ [o]) r' hd' hr'
      refine ⟨by simp [g1], fun j o' hj => ?_⟩
      cases j with
      | zero =>
        simp only [List.getElem?_cons_zero, Option.some.injEq] at hj
        subst hj
        exact ⟨x, rfl, hx⟩
      | succ j =>
        obtain ⟨x', k1, k2⟩ := g2 j o' (by simpa using hj)
        refine ⟨x', by simpa using k1, ?_⟩
        rw [List.length_append] at k2
        rw [show done.length + (j + 1) = done.length + [o].length + j by simp; omega]
        exact k2
    split at h
    · rename_i g d hg hdst
      split at h
      · rename_i p hp
        obtain ⟨hpos, h⟩ := bif_some h
        have hpos' : draw = true → posIn (looks ops o) p.pos = true := by
          intro hdr; rw [hdr] at hpos; simpa using hpos
        have hhs : hsOf P ops (done ++ [o]).length = hsOf P ops done.length := by
          rw [List.length_append]; simp only [List.length_cons, List.length_nil, hsOf, hi, hp]
        split at h
        · rename_i r' hr'
          simp only [Option.some.injEq] at h
          refine fin ⟨g, d, some p, none, []⟩ r' ⟨hg, hdst, .inl ⟨p, hp, rfl, hpos'⟩, fun x => (hck x).1, fun x => (hck x).2.1, hap⟩ ?_ h.symm
          rw [hbs, hhs, List.length_append]
          exact hr'
        · cases h
      · rename_i hp
        split at h
        · rename_i p hp2
          obtain ⟨hpos, h⟩ := bif_some h
          have hpos' : draw = true → posIn (looks ops o) p.pos = true := by
            intro hdr; rw [hdr] at hpos; simpa using hpos
          have hhs : hsOf P ops (done ++ [o]).length = hsOf P ops done.length ++ [done.length] := by
            rw [List.length_append]; simp only [List.length_cons, List.length_nil, hsOf, hi, hp]
          split at h
          · rename_i r' hr'
            simp only [Option.some.injEq] at h
            refine fin ⟨g, d, none, some _, _⟩ r' ⟨hg, hdst, .inr ⟨hp, p, hp2, rfl, rfl, rfl, hpos'⟩, fun x => (hck x).1, fun x => (hck x).2.1, hap⟩ ?_ h.symm
            rw [hbs, hhs, List.length_append]
            exact hr'
          · cases h
        · cases h
    · cases h

theorem prep_spec {P : Program} {n : Nat} {draw : Bool} {ops : Array Oper} {r : List PI} (h : prep P n draw ops = some r) :
    r.length = ops.size ∧ ∀ i o, ops[i]? = some o → ∃ x, r[i]? = some x ∧ OpPrep P n draw ops i o x := by
  obtain ⟨h1, h2⟩ := prepGo_spec (P := P) (n := n) (draw := draw) (ops := ops) ops.toList [] r rfl h
  refine ⟨by simpa using h1, fun i o hi => ?_⟩
  obtain ⟨x, a, b⟩ := h2 i o (by rw [Array.getElem?_toList]; exact hi)
  exact ⟨x, a, by simpa using b⟩
/-! ### A store beside loads -/
theorem besideH_cases (ops : Array Oper) (i : Nat) (hide : List Nat) (p : Hop) : besideH ops i hide p = p ∨ ∃ n x v os, p = .store n x v ∧ besideH ops i hide p = .storeB n x v os ∧ othersOf ops i hide = some os := by
  cases p with
  | store n x v =>
    cases hide with
    | nil => exact .inl rfl
    | cons j l =>
      show (match othersOf ops i (j :: l) with | some os => Hop.storeB n x v os | none => Hop.store n x v) = _ ∨ _
      cases ho : othersOf ops i (j :: l) with
      | none => exact .inl rfl
      | some os => exact .inr ⟨n, x, v, os, rfl, by show (match othersOf ops i (j :: l) with | some os => Hop.storeB n x v os | none => Hop.store n x v) = _; rw [ho], rfl⟩
  | _ => exact .inl rfl
theorem othersOf_spec {ops : Array Oper} {i : Nat} : ∀ {l : List Nat} {os : List PO}, othersOf ops i l = some os → ∀ j ∈ l, ∃ o ty t, ops[j]? = some o ∧ o.op = .load ty (.tmp t) ∧ t < 512 ∧ noDst ops t (i - j) j = true ∧ PO.s (slot t) ∈ os
  | [], os, _, j, hj => by cases hj
  | k :: l, os, h, j, hj => by
    simp only [othersOf] at h
    split at h
    · rename_i o ho
      split at h
      · rename_i ty t hop
        obtain ⟨hb, h⟩ := bif_some h
        simp only [Bool.and_eq_true] at hb
        split at h
        · rename_i r hr
          simp only [Option.some.injEq] at h
          subst h
          rcases List.mem_cons.1 hj with rfl | hj
          · exact ⟨o, ty, t, ho, hop, blt_lt hb.1, hb.2, List.mem_cons_self⟩
          · obtain ⟨o', ty', t', a1, a2, a3, a4, a5⟩ := othersOf_spec hr j hj
            exact ⟨o', ty', t', a1, a2, a3, a4, List.mem_cons_of_mem _ a5⟩
        · cases h
      · cases h
    · cases h
theorem noDst_spec {ops : Array Oper} {t : Nat} : ∀ {m j : Nat}, noDst ops t m j = true → ∀ k, j ≤ k → k < j + m → ∀ o, ops[k]? = some o → o.dst ≠ some t
  | 0, j, _, k, h1, h2, _, _ => by omega
  | m + 1, j, h, k, h1, h2, o, ho => by
    simp only [noDst, Bool.and_eq_true] at h
    by_cases c : k = j
    · subst c
      intro hd
      have h1 := h.1
      rw [ho] at h1
      simp [hd] at h1
    · exact noDst_spec h.2 k (by omega) (by omega) o ho
theorem map_notB {α : Type} {r : Option α} {f : α → Hop} {p : Hop} (h : r.map f = some p) (hf : ∀ a, (f a).isB = false) : p.isB = false := by
  rw [Option.map_eq_some_iff] at h
  obtain ⟨a, _, rfl⟩ := h
  exact hf a
theorem prepCall_notB {P : Program} {c : Call} {p : Hop} (h : prepCall P c = some p) : p.isB = false := by
  unfold prepCall at h
  repeat' split at h
  all_goals first
    | (cases h; done)
    | (simp only [Option.some.injEq] at h; subst h; rfl)
    | exact map_notB h fun _ => rfl
    | (obtain ⟨_, h⟩ := bif_some h; simp only [Option.some.injEq] at h; subst h; rfl)
    | (rw [Option.bind_eq_some_iff] at h; obtain ⟨_, _, h⟩ := h; obtain ⟨_, h⟩ := bind_if h; simp only [Option.some.injEq] at h; subst h; rfl)
theorem prepH_notB {P : Program} {o : Oper} {p : Hop} (h : prepH P o = some p) : p.isB = false := by
  unfold prepH at h
  repeat' split at h
  all_goals first
    | exact prepCall_notB h
    | (cases h; done)
    | (simp only [Option.some.injEq] at h; subst h; rfl)
    | exact map_notB h fun _ => rfl
    | (rw [Option.bind_eq_some_iff] at h; obtain ⟨_, _, h⟩ := h; obtain ⟨_, h⟩ := bind_if h; simp only [Option.some.injEq] at h; subst h; rfl)
    | (obtain ⟨_, h⟩ := bif_some h; simp only [Option.some.injEq] at h; subst h; rfl)
end Go.Ds
