import Derived.Test.YtngmaccaldhjcaaDoorDsY
set_option linter.all false
set_option linter.unusedSimpArgs false
set_option linter.unnecessarySimpa false
set_option linter.unusedVariables false
set_option linter.unusedSectionVars false
set_option linter.unusedSectionVars false
set_option linter.unusedSectionVars false
set_option linter.unusedVariables false
namespace Go.Ds
variable [Inhabited Bound]

open Classical in
noncomputable def Phi.join (φ ψ : Phi) (p : Nat → Prop) : Phi := fun z => if p z then ψ z else φ z
section
variable {P : Program} {call : Caller} {n : Nat} {ops : Array Oper} {E : Nat → Env} {H : Nat → AH} {V : Nat → Value} {K : Nat → Nat} {X : Nat → PI} (T : Lex P call n ops E H V K X) (hcp : CallPres call)
  {B : Nat} {φ0 : Phi} {w0 : World} {S : Nat → Prop} {m : Nat} {φ : Phi} {w : World} {a : Act}
  (I : Inv n ops E H V K X B φ0 w0 S m φ w a) {i : Nat} (his : i < ops.size) (hi : ¬ S i) (hready : ∀ e ∈ edgesOf ops i, S e)
include T hcp I his hi hready

/-- An operation on the heap was done. -/
theorem Inv.heap (hn : n ≤ 512) {o : Oper} (ho : ops[i]? = some o) (hk : 2 ≤ K i) {mask : List (Nat × Nat)} (hmask : ∀ z, inSpans mask z = true ↔ ∃ j ∈ (X i).hide, j < i ∧ 2 ≤ K j ∧ (H j).next ≤ z ∧ z < (H (j + 1)).next)
    {h1 : AH} (he : H (i + 1) = ⟨h1.tr, h1.next, bif Nat.blt (H i).low h1.low then (H i).low else h1.low, (H i).hid, h1.fams⟩) (hlow : K i = 2 → (H i).next ≤ h1.low) (hnl : ∀ k, S k → K k = 3 → k < i) (hbes : K i = 3 → ∀ l, l < i → 2 ≤ K l → before ops i l ∨ ∀ z, ¬ span H l z)
    (hk23 : K i = 2 ∨ K i = 3) {φ2 : Phi} {v' : Value} {w' : World} (hv : VRel φ2 (V i) v') (E2 : Emb φ2 h1 B w')
    (hob : K i = 3 → ∀ z', Zb E X i z' → (∀ y, y ≠ z' → T5.get h1.tr y = T5.get (H i).tr y) ∧ View H (before ops i) z' ∧ (cont H i z').kind ≠ 0 ∧ (cont H i z').slack = false ∧ ∃ e', φ z' = some e' ∧ ∀ k, e'.blk ≠ k → k < w.heap.size → w'.heap[k]? = w.heap[k]?)
    (X2 : Ext B (φ.on (View H (before ops i))) ⟨(H i).tr, (H i).next, (H i).next, mask ++ (H i).hid, (H i).fams⟩ w φ2 h1 w') :
    ∃ m' φ', Inv n ops E H V K X B φ0 w0 (With S i) m' φ' w' (a.put o.dst v') := by
  have hcl := I.closed T hcp his hready
  have sees := I.sees T hcp his hk hmask
  have hm := I.m_le T hcp
  have hhid0 := T.hid hcp i (by omega)
  have hst := T.at_ hcp his
  have n1 : (H (i + 1)).next = h1.next := by rw [he]
  have t1 : (H (i + 1)).tr = h1.tr := by rw [he]
  have f1 : (H (i + 1)).fams = h1.fams := by rw [he]
  have N0 : (H 0).next ≤ (H i).next := T.next_le hcp (Nat.zero_le _) (by omega)
  have spanI : ∀ z, span H i z ↔ (H i).next ≤ z ∧ z < h1.next := fun z => by unfold span; rw [n1]
  have x_old : ∀ z, z < (H i).next → φ2 z = (φ.on (View H (before ops i))) z := X2.old
  -- the new embedding
  let φ' : Phi := φ.join φ2 (span H i)
  have φi : ∀ z, span H i z → φ' z = φ2 z := fun z hz => by simp only [φ', Phi.join]; rw [if_pos hz]
  have φo : ∀ z, ¬ span H i z → φ' z = φ z := fun z hz => by simp only [φ', Phi.join]; rw [if_neg hz]
  have notS : ∀ z, View H S z → ¬ span H i z := by
    intro z hz hs
    rcases hz with h | ⟨l, hl, h2⟩
    · have := hs.1; omega
    · have e := T.span_uniq hcp (I.down l hl).1 his h2 hs
      subst e; exact hi hl
  have hle : φ.le φ' := fun z e h => by rw [φo z (notS z (I.dom z e h))]; exact h
  have viewUp : ∀ z, View H (Upto ops i) z ↔ View H (before ops i) z ∨ span H i z := by
    intro z
    constructor
    · rintro (h | ⟨l, rfl | hl, h⟩)
      · exact .inl (.inl h)
      · exact .inr h
      · exact .inl (.inr ⟨l, hl, h⟩)
    · rintro (h | h)
      · exact h.mono fun l hl => .inr hl
      · exact .inr ⟨i, .inl rfl, h⟩
  have le2 : φ2.le (φ'.on (View H (Upto ops i))) := by
    intro z e h
    have hz := E2.dom z e h
    rw [Phi.on_some]
    by_cases c : z < (H i).next
    · rw [x_old z c] at h
      obtain ⟨h1', h2'⟩ := Phi.on_some.1 h
      exact ⟨(viewUp z).2 (.inl h1'), hle z e h2'⟩
    · have hs := (spanI z).2 ⟨by omega, hz⟩
      exact ⟨(viewUp z).2 (.inr hs), by rw [φi z hs]; exact h⟩
  have back2 : ∀ z e, φ' z = some e → View H (Upto ops i) z → φ2 z = some e := by
    intro z e h hz
    by_cases c : span H i z
    · rw [φi z c] at h; exact h
    · rw [φo z c] at h
      have hvz := ((viewUp z).1 hz).resolve_right c
      have hlt := ((sees z).1 hvz).1
      rw [x_old z hlt]
      exact Phi.on_some.2 ⟨hvz, h⟩
  have dom' : ∀ z e, φ' z = some e → View H (With S i) z := by
    intro z e h
    by_cases c : span H i z
    · exact .inr ⟨i, .inr rfl, c⟩
    · rw [φo z c] at h; exact (I.dom z e h).mono fun l hl => .inl hl
  obtain ⟨tp1, tp2, tp3, tp4⟩ := I.temps T hcp his hi hready hn ho hle (hv.mono le2)
  have hdown := I.down' T hcp his hi hready
  have lowE : (H ops.size).low ≤ h1.low := by
    have := T.low_le hcp (i := i + 1) (j := ops.size) (by omega) (Nat.le_refl _)
    have h2 : (H (i + 1)).low ≤ h1.low := by rw [he]; exact (low_min _ _).2
    omega
  have old' : ∀ z, z < (H 0).next → φ' z = φ0 z := by
    intro z hz
    rw [φo z (fun hs => by have := hs.1; omega)]
    exact I.old z hz
  have frame' : ∀ k, k < w0.heap.size → (∀ z e, φ0 z = some e → e.blk = k → z < (H ops.size).low) → w'.heap[k]? = w0.heap[k]? := by
    intro k hk0 hc
    rw [← I.frame k hk0 hc]
    refine X2.frame k (Nat.lt_of_lt_of_le hk0 I.below.size) fun z e hz hb => ?_
    obtain ⟨_, hz⟩ := Phi.on_some.1 hz
    refine Nat.lt_of_lt_of_le ?_ lowE
    cases hq : φ0 z with
    | some e0 =>
      have : e0 = e := by
        have := I.old z (I.dom0 z e0 hq)
        rw [hz, hq] at this
        exact (Option.some.inj this).symm
      subst this
      exact hc z _ hq hb
    | none =>
      rcases I.fresh z e hz hq with h | ⟨j, e0, g1, g2, g3⟩
      · omega
      · have := hc j e0 g1 (g2.trans hb); omega
  have fresh' : ∀ z e, φ' z = some e → φ0 z = none → w0.heap.size ≤ e.blk ∨ ∃ j e0, φ0 j = some e0 ∧ e0.blk = e.blk ∧ (H ops.size).low ≤ j := by
    intro z e h h0
    by_cases c : span H i z
    · rw [φi z c] at h
      have hnone : (φ.on (View H (before ops i))) z = none := by
        cases hq : (φ.on (View H (before ops i))) z with
        | none => rfl
        | some e' =>
          have := ((sees z).1 (Phi.on_some.1 hq).1).1
          have := c.1; omega
      rcases X2.fresh z e h hnone with g | ⟨j, e0, g1, g2, g3⟩
      · exact .inl (Nat.le_trans I.below.size g)
      · obtain ⟨_, g1⟩ := Phi.on_some.1 g1
        cases hq : φ0 j with
        | some e1 =>
          have : e1 = e0 := by
            have := I.old j (I.dom0 j e1 hq)
            rw [g1, hq] at this
            exact (Option.some.inj this).symm
          subst this
          exact .inr ⟨j, _, hq, g2, Nat.le_trans lowE g3⟩
        | none =>
          rcases I.fresh j e0 g1 hq with g | ⟨j', e1, k1, k2, k3⟩
          · exact .inl (by omega)
          · exact .inr ⟨j', e1, k1, k2.trans g2, k3⟩
    · rw [φo z c] at h; exact I.fresh z e h h0
  have below' := I.below.trans X2.below
  have getNew : ∀ z, View H (Upto ops i) z → h1.get z = bif inSpans (H 0).hid z then dead else T5.get h1.tr z := by
    intro z hz
    rw [get_cont, show h1.hid = mask ++ (H i).hid from X2.hid, inSpans_append, hhid0]
    have : inSpans mask z = false := by
      rcases (viewUp z).1 hz with h | h
      · exact ((sees z).1 h).2
      · cases hb : inSpans mask z with
        | false => rfl
        | true =>
          obtain ⟨j, _, hj, _, _, h4⟩ := (hmask z).1 hb
          have := T.next_le hcp (i := j + 1) (j := i) (by omega) (by omega)
          have := h.1; omega
    rw [this, Bool.false_or]
  rcases hk23 with hk2 | hk3
  · -- nothing old was written
    have hl1 := hlow hk2
    let m' := if m < i + 1 then i + 1 else m
    have hm' : m ≤ m' ∧ i + 1 ≤ m' ∧ m' ≤ ops.size ∧ (m' = m ∨ m' = i + 1) := by
      simp only [m']; split <;> omega
    have wsame : ∀ k, k < w.heap.size → w'.heap[k]? = w.heap[k]? := fun k hk => X2.frame k hk fun z e hz _ => Nat.lt_of_lt_of_le ((sees z).1 (Phi.on_some.1 hz).1).1 hl1
    have nowr1 : ∀ l, m ≤ l → l < m' → K l ≠ 3 := by
      intro l a1 a2 a3
      have hlt : l < i + 1 := by
        rcases hm'.2.2.2 with e | e <;> omega
      by_cases c : l = i
      · subst c; omega
      · have := I.m1 l (T.down I.down i his hready (T.after_writer his hk (by omega) a3)) (by omega)
        omega
    have nowr2 : ∀ l, i + 1 ≤ l → l < m' → K l ≠ 3 := by
      intro l a1 a2 a3
      have hlm : l < m := by
        rcases hm'.2.2.2 with e | e <;> omega
      have hSl : S l := by
        rcases I.m2 with h | ⟨j, hj1, hj2, hj3⟩
        · omega
        · have hjs := (I.down j hj1).1
          by_cases e : l = j
          · subst e; exact hj1
          · exact T.down I.down j hjs (I.down j hj1).2 (T.after_writer hjs hj2 (by omega) a3)
      have := hnl l hSl a3
      omega
    have cold : ∀ z, View H S z → cont H m' z = cont H m z := by
      intro z hz
      unfold cont
      rw [(T.same hcp (I.view_lt T hcp (fun l h => h) hz) hm'.1 hm'.2.2.1 nowr1).1]
    have cnew : ∀ z, span H i z → cont H m' z = h1.get z := by
      intro z hz
      rw [getNew z ((viewUp z).2 (.inr hz))]
      unfold cont
      rw [(T.same hcp (i := i + 1) hz.2 hm'.2.1 hm'.2.2.1 nowr2).1, t1]
    have split' : ∀ z, View H (With S i) z → View H S z ∨ span H i z := by
      rintro z (h | ⟨l, h | rfl, h2⟩)
      · exact .inl (.inl h)
      · exact .inl (.inr ⟨l, h, h2⟩)
      · exact .inr h2
    refine ⟨m', φ', ?_⟩
    constructor
    · exact hdown
    · intro j hj hkj
      rcases hj with hj | rfl
      · exact Nat.lt_of_lt_of_le (I.m1 j hj hkj) hm'.1
      · omega
    · refine .inr ?_
      rcases hm'.2.2.2 with e | e
      · rcases I.m2 with h | ⟨j, g1, g2, g3⟩
        · omega
        · exact ⟨j, .inl g1, g2, by omega⟩
      · exact ⟨i, .inr rfl, hk, e⟩
    · exact dom'
    · intro z e h
      by_cases c : span H i z
      · rw [φi z c] at h; exact E2.base z e h
      · rw [φo z c] at h
        have := I.base z e h
        exact ⟨this.1, Nat.lt_of_lt_of_le this.2 X2.below.size⟩
    · exact E2.size
    · intro D hD z hz hf hkz
      by_cases c : span H i z
      · have hDi : D i := by
          rcases hz with h | ⟨l, h1', h2'⟩
          · have := c.1; omega
          · have e := T.span_uniq hcp ((hdown l (hD.1 l h1')).1) his h2' c
            subst e; exact h1'
        rw [cnew z c] at hkz ⊢
        obtain ⟨e, g1, g2⟩ := E2.obj z ((spanI z).1 c).2 hkz
        refine ⟨e, by rw [φi z c]; exact g1, g2.mono ?_⟩
        refine Phi.le_trans le2 (Phi.on_mono (Phi.le_refl _) fun y hy => hy.mono fun l hl => ?_)
        rcases hl with rfl | hl
        · exact hDi
        · exact hD.2 i l hDi hl
      · have hz' : View H (fun l => D l ∧ l ≠ i) z := hz.imp id fun ⟨l, g1, g2⟩ => ⟨l, ⟨g1, fun e => by subst e; exact c g2⟩, g2⟩
        have hwo := I.without T hcp his hi hready hD
        rw [cold z (hz'.mono hwo.1)] at hkz ⊢
        obtain ⟨e, g1, g2⟩ := I.obj _ hwo z hz' (fits_without hi hf) hkz
        refine ⟨e, by rw [φo z c]; exact g1, ?_⟩
        exact (g2.mono (Phi.on_mono hle fun y hy => hy.mono fun l hl => hl.1)).world (wsame _ (I.base z e g1).2)
    · intro x y ex ey hx hy hkx hky hne hbb
      by_cases cx : span H i x <;> by_cases cy : span H i y
      · rw [cnew x cx] at hkx ⊢
        rw [cnew y cy] at hky ⊢
        rw [φi x cx] at hx
        rw [φi y cy] at hy
        exact E2.apart x y ex ey hx hy hkx hky hne hbb
      · exfalso
        rw [φi x cx] at hx
        rw [φo y cy] at hy
        have := (I.base y ey hy).2
        rcases X2.fresh x ex hx (by
          cases hq : (φ.on (View H (before ops i))) x with
          | none => rfl
          | some e' => have := ((sees x).1 (Phi.on_some.1 hq).1).1; have := cx.1; omega) with g | ⟨j, e0, g1, _, g3⟩
        · omega
        · have := ((sees j).1 (Phi.on_some.1 g1).1).1; omega
      · exfalso
        rw [φo x cx] at hx
        rw [φi y cy] at hy
        have := (I.base x ex hx).2
        rcases X2.fresh y ey hy (by
          cases hq : (φ.on (View H (before ops i))) y with
          | none => rfl
          | some e' => have := ((sees y).1 (Phi.on_some.1 hq).1).1; have := cy.1; omega) with g | ⟨j, e0, g1, _, g3⟩
        · omega
        · have := ((sees j).1 (Phi.on_some.1 g1).1).1; omega
      · rw [φo x cx] at hx
        rw [φo y cy] at hy
        rw [cold x (I.dom x ex hx)] at hkx ⊢
        rw [cold y (I.dom y ey hy)] at hky ⊢
        exact I.apart x y ex ey hx hy hkx hky hne hbb
    · intro z hz hkz hs
      by_cases c : span H i z
      · rw [cnew z c] at hkz hs ⊢
        have hzl : z < h1.next := ((spanI z).1 c).2
        obtain ⟨g1, g2⟩ := E2.fam z hzl hkz hs
        refine ⟨g1, ?_⟩
        rw [(T.same hcp (i := i + 1) (z := (h1.get z).fam) (by rw [n1]; omega) hm'.2.1 hm'.2.2.1 nowr2).2, f1]
        exact g2
      · have hzS := (split' z hz).resolve_right c
        rw [cold z hzS] at hkz hs ⊢
        obtain ⟨g1, g2⟩ := I.fam z hzS hkz hs
        refine ⟨g1, ?_⟩
        have hzm := I.view_lt T hcp (fun l h => h) hzS
        rw [(T.same hcp (i := m) (z := (cont H m z).fam) (by omega) hm'.1 hm'.2.2.1 nowr1).2]
        exact g2
    · exact tp1
    · exact tp2
    · exact tp3
    · exact tp4
    · exact old'
    · exact I.dom0
    · exact frame'
    · exact fresh'
    · exact below'
  · -- a writer
    have hmi : m ≤ i := by
      rcases I.m2 with h | ⟨j, g1, g2, g3⟩
      · omega
      · have hjs := (I.down j g1).1
        rcases Nat.lt_trichotomy j i with c | c | c
        · omega
        · subst c; exact absurd g1 hi
        · exact absurd (T.down I.down j hjs (I.down j g1).2 (T.after_writer hjs g2 c hk3)) hi
    have allB : ∀ z, View H S z → View H (before ops i) z := by
      rintro z (h | ⟨l, hl, h2⟩)
      · exact .inl h
      · have hls := (I.down l hl).1
        have hkl := T.span_kind hcp hls h2
        have := I.m1 l hl hkl
        rcases hbes hk3 l (by omega) hkl with h | h
        · exact .inr ⟨l, h, h2⟩
        · exact absurd h2 (h z)
    have allU : ∀ z, View H (With S i) z → View H (Upto ops i) z := by
      rintro z (h | ⟨l, h | rfl, h2⟩)
      · exact .inl h
      · exact (allB z (.inr ⟨l, h, h2⟩)).mono fun l hl => .inr hl
      · exact .inr ⟨l, .inl rfl, h2⟩
    have back : ∀ z e, φ' z = some e → φ2 z = some e := fun z e h => back2 z e h (allU z (dom' z e h))
    have cget : ∀ z, View H (Upto ops i) z → cont H (i + 1) z = h1.get z := by
      intro z hz
      rw [getNew z hz]
      unfold cont
      rw [t1]
    have hlt : ∀ z, View H (Upto ops i) z → z < h1.next := by
      intro z hz
      rcases (viewUp z).1 hz with h | h
      · have h1' := ((sees z).1 h).1
        have : (H i).next ≤ h1.next := by rw [← n1]; exact hst.1
        omega
      · exact ((spanI z).1 h).2
    refine ⟨i + 1, φ', ?_⟩
    constructor
    · exact hdown
    · intro j hj hkj
      rcases hj with hj | rfl
      · have := I.m1 j hj hkj; omega
      · omega
    · exact .inr ⟨i, .inr rfl, hk, rfl⟩
    · exact dom'
    · exact fun z e h => E2.base z e (back z e h)
    · exact E2.size
    · intro D hD z hz hf hkz
      have hU := allU z (hz.mono hD.1)
      by_cases hDi : D i
      · rw [cget z hU] at hkz ⊢
        obtain ⟨e, g1, g2⟩ := E2.obj z (hlt z hU) hkz
        refine ⟨e, (Phi.on_some.1 (le2 z e g1)).2, g2.mono ?_⟩
        refine Phi.le_trans le2 (Phi.on_mono (Phi.le_refl _) fun y hy => hy.mono fun l hl => ?_)
        rcases hl with rfl | hl
        · exact hDi
        · exact hD.2 i l hDi hl
      · obtain ⟨z', hz', hne⟩ := (hf i (.inr rfl) hk3).resolve_left hDi
        obtain ⟨c1, c2, c3, c4, e', c5, c6⟩ := hob hk3 z' hz'
        have hwo := I.without T hcp his hi hready hD
        have hzw : View H (fun l => D l ∧ l ≠ i) z := hz.imp id fun ⟨l, g1, g2⟩ => ⟨l, ⟨g1, fun e => by subst e; exact hDi g1⟩, g2⟩
        have hzS : View H S z := hzw.mono hwo.1
        have hzi := ((sees z).1 (allB z hzS)).1
        have hzm := I.view_lt T hcp hwo.1 hzw
        have hc : cont H (i + 1) z = cont H m z := by
          unfold cont
          rw [t1, c1 z hne, (I.same T hcp his hk hi hready hnl hzi hzm).1]
        have hzi' := ((sees z').1 c2).1
        have hzm' := I.view_lt T hcp hcl.1 c2
        have hc' : cont H i z' = cont H m z' := by
          unfold cont
          rw [(I.same T hcp his hk hi hready hnl hzi' hzm').1]
        rw [hc'] at c3 c4
        rw [hc] at hkz ⊢
        obtain ⟨e, g1, g2⟩ := I.obj _ hwo z hzw (fits_without hi hf) hkz
        refine ⟨e, hle z e g1, ?_⟩
        have hbk : e'.blk ≠ e.blk := fun hb => by
          have := (I.apart z z' e e' g1 c5 hkz c3 hne hb.symm).2.1
          rw [c4] at this; cases this
        exact (g2.mono (Phi.on_mono hle fun y hy => hy.mono fun l hl => hl.1)).world (c6 _ hbk (I.base z e g1).2)
    · intro x y ex ey hx hy hkx hky hne hbb
      rw [cget x (allU x (dom' x ex hx))] at hkx ⊢
      rw [cget y (allU y (dom' y ey hy))] at hky ⊢
      exact E2.apart x y ex ey (back x ex hx) (back y ey hy) hkx hky hne hbb
    · intro z hz hkz hs
      have hU := allU z hz
      rw [cget z hU] at hkz hs ⊢
      rw [f1]
      exact E2.fam z (hlt z hU) hkz hs
    · exact tp1
    · exact tp2
    · exact tp3
    · exact tp4
    · exact old'
    · exact I.dom0
    · exact frame'
    · exact fresh'
    · exact below'
end
end Go.Ds
