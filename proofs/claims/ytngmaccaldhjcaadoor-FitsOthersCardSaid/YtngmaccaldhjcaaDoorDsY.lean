import Derived.Test.YtngmaccaldhjcaaDoorDsX
set_option linter.all false
set_option linter.unusedSimpArgs false
set_option linter.unnecessarySimpa false
set_option linter.unusedVariables false
set_option linter.unusedSectionVars false
set_option linter.unusedSectionVars false
set_option linter.unusedSectionVars false
set_option linter.unusedVariables false
namespace Go.Ds
variable [Inhabited Bound]

def With (S : Nat → Prop) (i j : Nat) : Prop := S j ∨ j = i
section
variable {P : Program} {call : Caller} {n : Nat} {ops : Array Oper} {E : Nat → Env} {H : Nat → AH} {V : Nat → Value} {K : Nat → Nat} {X : Nat → PI} (T : Lex P call n ops E H V K X) (hcp : CallPres call)
  {B : Nat} {φ0 : Phi} {w0 : World} {S : Nat → Prop} {m : Nat} {φ : Phi} {w : World} {a : Act}
  (I : Inv n ops E H V K X B φ0 w0 S m φ w a) {i : Nat} (his : i < ops.size) (hi : ¬ S i) (hready : ∀ e ∈ edgesOf ops i, S e)
include T hcp I his hi hready

theorem Inv.put_get (hn : n ≤ 512) {o : Oper} (ho : ops[i]? = some o) (v' : Value) {t : Nat} : (a.put o.dst v').tmps.getD t undef = if dstOf ops i = some t then v' else a.tmps.getD t undef := by
  obtain ⟨o', ho', hO⟩ := T.op his
  have : o' = o := by rw [ho] at ho'; exact (Option.some.inj ho').symm
  subst this
  have hdst : dstOf ops i = o'.dst := by simp [dstOf, ho]
  rw [hdst]
  cases hd : o'.dst with
  | none => simp [Act.put]
  | some d =>
    have hp := hO.dst
    rw [hd] at hp
    simp only [prepD] at hp
    have hlt := blt_lt (bif_some hp).1
    have hs := I.tsize
    simp only [Act.put]
    by_cases c : d = t
    · subst c
      rw [if_pos rfl]
      simp [Array.getD_eq_getD_getElem?, show @LT.lt Nat _ d a.tmps.size by omega]
    · rw [if_neg (by simpa using c)]
      simp [Array.getD_eq_getD_getElem?, Array.getElem?_setIfInBounds, c]

theorem Inv.no_later {t : Nat} (hd : dstOf ops i = some t) : ∀ j, S j → i < j → dstOf ops j ≠ some t := by
  intro j hj hij hdj
  have hjs := (I.down j hj).1
  obtain ⟨oj, hoj, hOj⟩ := T.op hjs
  obtain ⟨o, ho, _⟩ := T.op his
  have hnb : ¬ before ops j i := fun hb => hi (T.down I.down j hjs (I.down j hj).2 hb)
  have hap := hOj.apart rfl i o hij ho (by
    cases hb : hasBit (bOf ops j) i with
    | false => rfl
    | true => exact absurd hb hnb)
  have h1 : oj.dst = some t := by simpa [dstOf, hoj] using hdj
  have h2 : o.dst = some t := by simpa [dstOf, ho] using hd
  exact (Oper.apart_spec hap).2.1 t h2 h1

/-- The temporaries after the operation. -/
theorem Inv.temps (hn : n ≤ 512) {o : Oper} (ho : ops[i]? = some o) {φ' : Phi} (hle : φ.le φ') {v' : Value} (hv : VRel (φ'.on (View H (Upto ops i))) (V i) v') :
    (∀ t, t < 512 → (∀ j, With S i j → dstOf ops j ≠ some t) → VRel (φ'.on (View H fun _ => False)) ((E 0).at (slot t)) ((a.put o.dst v').tmps.getD t undef)) ∧
    (∀ t, t < 512 → ∀ j, With S i j → dstOf ops j = some t → (∀ j', With S i j' → j < j' → dstOf ops j' ≠ some t) → VRel (φ'.on (View H (Upto ops j))) (V j) ((a.put o.dst v').tmps.getD t undef)) ∧
    n ≤ (a.put o.dst v').tmps.size ∧ (a.put o.dst v').defers = [] := by
  have hg := fun t => I.put_get T hcp his hi hready hn ho v' (t := t)
  refine ⟨fun t ht h => ?_, fun t ht j hj hd hl => ?_, ?_, ?_⟩
  · rw [hg t, if_neg (h i (.inr rfl))]
    exact (I.tmp0 t ht fun j hj => h j (.inl hj)).mono (Phi.on_mono hle fun z hz => hz)
  · rw [hg t]
    by_cases c : dstOf ops i = some t
    · rw [if_pos c]
      have hij : j = i := by
        rcases hj with hj | hj
        · rcases Nat.lt_trichotomy j i with k | k | k
          · exact absurd c (hl i (.inr rfl) k)
          · exact k
          · exact absurd hd (I.no_later T hcp his hi hready c j hj k)
        · exact hj
      subst hij
      exact hv
    · rw [if_neg c]
      have hSj : S j := hj.resolve_right fun e => by subst e; exact c hd
      exact (I.tmp1 t ht j hSj hd fun j' h1 h2 => hl j' (.inl h1) h2).mono (Phi.on_mono hle fun z hz => hz)
  · have := I.tsize
    cases o.dst <;> simp [Act.put] <;> exact this
  · have := I.defs
    cases o.dst <;> simp [Act.put] <;> exact this

theorem Inv.down' : ∀ j, With S i j → j < ops.size ∧ ∀ e ∈ edgesOf ops j, With S i e := by
  intro j hj
  rcases hj with hj | rfl
  · exact ⟨(I.down j hj).1, fun e he => .inl ((I.down j hj).2 e he)⟩
  · exact ⟨his, fun e he => .inl (hready e he)⟩

/-- A closed set, without the operation that was done last. -/
theorem Inv.without {D : Nat → Prop} (hD : Closed ops (With S i) D) : Closed ops S fun l => D l ∧ l ≠ i := by
  refine ⟨fun l hl => (hD.1 l hl.1).resolve_right hl.2, fun j l hj hb => ⟨hD.2 j l hj.1 hb, fun e => ?_⟩⟩
  subst e
  have hSj := (hD.1 j hj.1).resolve_right hj.2
  have hjs := (I.down j hSj).1
  exact hi (T.down I.down j hjs (I.down j hSj).2 hb)
omit T hcp I his hready in
theorem fits_without {D : Nat → Prop} {z : Nat} (h : Fits E K X (With S i) D z) : Fits E K X S (fun l => D l ∧ l ≠ i) z := fun k hk h3 =>
  (h k (.inl hk) h3).imp (fun d => ⟨d, fun e => by subst e; exact hi hk⟩) id

/-- Nothing of what was there changes. -/
theorem Inv.calm (hn : n ≤ 512) {o : Oper} (ho : ops[i]? = some o) (nospan : ∀ z, ¬ span H i z) (hmi : 2 ≤ K i → i < m) {w' : World} (hw : ∀ k, k < w.heap.size → w'.heap[k]? = w.heap[k]?) (hbw : RowKit.Below B w w') (hsz : B ≤ w'.heap.size) {v' : Value} (hv : VRel (φ.on (View H (Upto ops i))) (V i) v') :
    Inv n ops E H V K X B φ0 w0 (With S i) m φ w' (a.put o.dst v') := by
  obtain ⟨t1, t2, t3, t4⟩ := I.temps T hcp his hi hready hn ho (Phi.le_refl _) hv
  have vw : ∀ {D : Nat → Prop} {z}, View H D z → View H (fun l => D l ∧ l ≠ i) z := fun {D z} h => h.imp id fun ⟨l, h1, h2⟩ => ⟨l, ⟨h1, fun e => by subst e; exact nospan z h2⟩, h2⟩
  constructor
  · exact I.down' T hcp his hi hready
  · intro j hj hkj
    rcases hj with hj | rfl
    · exact I.m1 j hj hkj
    · exact hmi hkj
  · exact I.m2.imp id fun ⟨j, h1, h2⟩ => ⟨j, .inl h1, h2⟩
  · exact fun z e h => (I.dom z e h).mono fun l hl => .inl hl
  · exact fun z e h => ⟨(I.base z e h).1, Nat.lt_of_lt_of_le (I.base z e h).2 hbw.size⟩
  · exact hsz
  · intro D hD z hz hf hkz
    obtain ⟨e, h1, h2⟩ := I.obj _ (I.without T hcp his hi hready hD) z (vw hz) (fits_without hi hf) hkz
    exact ⟨e, h1, (h2.mono (Phi.on_mono (Phi.le_refl _) fun z hz => hz.mono fun l hl => hl.1)).world (hw _ (I.base z e h1).2)⟩
  · exact I.apart
  · intro z hz hkz hs
    refine I.fam z ((vw hz).mono fun l hl => hl.1.resolve_right hl.2) hkz hs
  · exact t1
  · exact t2
  · exact t3
  · exact t4
  · exact I.old
  · exact I.dom0
  · intro k hk hc
    rw [hw k (Nat.lt_of_lt_of_le hk I.below.size)]
    exact I.frame k hk hc
  · exact I.fresh
  · exact I.below.trans hbw
/-- Nothing on the heap was done. -/
theorem Inv.idle (hn : n ≤ 512) {o : Oper} (ho : ops[i]? = some o) (hk : K i < 2) {v' : Value} (hv : VRel (φ.on (View H (Upto ops i))) (V i) v') :
    Inv n ops E H V K X B φ0 w0 (With S i) m φ w (a.put o.dst v') :=
  I.calm T hcp his hi hready hn ho (fun z hz => by have := T.span_kind hcp his hz; omega) (fun h => by omega) (fun _ _ => rfl) (RowKit.Below.refl _ _) I.size hv
end
end Go.Ds
