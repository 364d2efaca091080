import Derived.Test.YtngmaccaldhjcaaDoorDsV
set_option linter.all false
set_option linter.unusedSimpArgs false
set_option linter.unnecessarySimpa false
set_option linter.unusedVariables false
set_option linter.unusedSectionVars false
set_option linter.unusedSectionVars false
set_option linter.unusedVariables false
namespace Go.Ds
variable [Inhabited Bound]

/-! ## A region whose order is drawn: facts of the lexical run -/
theorem hsOf_mem {P : Program} {ops : Array Oper} {j : Nat} {o : Oper} (ho : ops[j]? = some o) (hp : prepQ P ops o = none) : ∀ {i : Nat}, j < i → j ∈ hsOf P ops i
  | 0, h => by omega
  | i + 1, h => by
    simp only [hsOf]
    by_cases c : j = i
    · subst c
      simp only [ho, hp]
      exact List.mem_append_right _ (List.mem_singleton.2 rfl)
    · have ih := hsOf_mem ho hp (i := i) (by omega)
      split
      · split
        · exact ih
        · exact List.mem_append_left _ ih
      · exact ih

theorem exists_last (p : Nat → Prop) : ∀ N, (∀ j, j < N → ¬ p j) ∨ ∃ j, j < N ∧ p j ∧ ∀ j', j < j' → j' < N → ¬ p j'
  | 0 => .inl fun j h => by omega
  | N + 1 => by
    by_cases c : p N
    · exact .inr ⟨N, by omega, c, fun j' h1 h2 => by omega⟩
    · rcases exists_last p N with h | ⟨j, h1, h2, h3⟩
      · exact .inl fun j hj => by
          by_cases e : j = N
          · subst e; exact c
          · exact h j (by omega)
      · refine .inr ⟨j, by omega, h2, fun j' a b => ?_⟩
        by_cases e : j' = N
        · subst e; exact c
        · exact h3 j' a (by omega)

section
variable {P : Program} {call : Caller} {n : Nat} {ops : Array Oper} {E : Nat → Env} {H : Nat → AH} {V : Nat → Value} {K : Nat → Nat} {X : Nat → PI} (T : Lex P call n ops E H V K X)
include T

theorem Lex.op {i : Nat} (hi : i < ops.size) : ∃ o, ops[i]? = some o ∧ OpPrep P n true ops i o (X i) := ⟨ops[i], by simp [hi], T.prep i _ (by simp [hi])⟩

theorem Lex.before_iff {i j : Nat} (hi : i < ops.size) : before ops i j ↔ ∃ e ∈ edgesOf ops i, j = e ∨ before ops e j := by
  obtain ⟨o, ho, hO⟩ := T.op hi
  unfold before bOf
  rw [orBits_spec]
  constructor
  · rintro ⟨e, he, h⟩
    refine ⟨e, he, h.imp id fun h => ?_⟩
    rw [nthN_eq, bsOf_get ops (allBelow_spec (hO.below rfl) e he)] at h
    exact h
  · rintro ⟨e, he, h⟩
    refine ⟨e, he, h.imp id fun h => ?_⟩
    rw [nthN_eq, bsOf_get ops (allBelow_spec (hO.below rfl) e he)]
    exact h
theorem Lex.edge_lt {i e : Nat} (hi : i < ops.size) (he : e ∈ edgesOf ops i) : e < i := by
  obtain ⟨o, ho, hO⟩ := T.op hi
  exact allBelow_spec (hO.below rfl) e he
theorem Lex.before_lt {j : Nat} : ∀ (i : Nat), i < ops.size → before ops i j → j < i := by
  intro i
  induction i using Nat.strongRecOn with
  | _ i ih =>
    intro hi h
    obtain ⟨e, he, h⟩ := (T.before_iff hi).1 h
    have hlt := T.edge_lt hi he
    rcases h with rfl | h
    · exact hlt
    · have := ih e hlt (by omega) h; omega
theorem Lex.before_trans {j l : Nat} : ∀ (i : Nat), i < ops.size → before ops i j → before ops j l → before ops i l := by
  intro i
  induction i using Nat.strongRecOn with
  | _ i ih =>
    intro hi h h2
    obtain ⟨e, he, h⟩ := (T.before_iff hi).1 h
    have hlt := T.edge_lt hi he
    refine (T.before_iff hi).2 ⟨e, he, .inr ?_⟩
    rcases h with rfl | h
    · exact h2
    · exact ih e hlt (by omega) h h2
theorem Lex.down {S : Nat → Prop} (hS : ∀ i, S i → i < ops.size ∧ ∀ e ∈ edgesOf ops i, S e) {j : Nat} : ∀ (i : Nat), i < ops.size → (∀ e ∈ edgesOf ops i, S e) → before ops i j → S j := by
  intro i
  induction i using Nat.strongRecOn with
  | _ i ih =>
    intro hi he h
    obtain ⟨e, hee, h⟩ := (T.before_iff hi).1 h
    rcases h with rfl | h
    · exact he _ hee
    · exact ih e (T.edge_lt hi hee) (hS e (he e hee)).1 (hS e (he e hee)).2 h

theorem Lex.step (hcp : CallPres call) {i : Nat} (hi : i < ops.size) (hl : (H i).next ≤ LIM) : (H i).next ≤ (H (i + 1)).next ∧ (H (i + 1)).next ≤ LIM ∧ (H (i + 1)).hid = (H i).hid ∧ (H (i + 1)).low ≤ (H i).low ∧
    (K i ≠ 3 → ∀ z, z < (H i).next → T5.get (H (i + 1)).tr z = T5.get (H i).tr z ∧ T5.get (H (i + 1)).fams z = T5.get (H i).fams z) ∧ (K i < 2 → H (i + 1) = H i) ∧
    (∀ z, z < (H i).next → z < (H (i + 1)).low → T5.get (H (i + 1)).tr z = T5.get (H i).tr z) := by
  have idle : H (i + 1) = H i → K i < 2 → (H i).next ≤ (H (i + 1)).next ∧ (H (i + 1)).next ≤ LIM ∧ (H (i + 1)).hid = (H i).hid ∧ (H (i + 1)).low ≤ (H i).low ∧
    (K i ≠ 3 → ∀ z, z < (H i).next → T5.get (H (i + 1)).tr z = T5.get (H i).tr z ∧ T5.get (H (i + 1)).fams z = T5.get (H i).fams z) ∧ (K i < 2 → H (i + 1) = H i) ∧
    (∀ z, z < (H i).next → z < (H (i + 1)).low → T5.get (H (i + 1)).tr z = T5.get (H i).tr z) := by
    intro e _
    rw [e]
    exact ⟨Nat.le_refl _, hl, rfl, Nat.le_refl _, fun _ _ _ => ⟨rfl, rfl⟩, fun _ => rfl, fun _ _ _ => rfl⟩
  rcases T.kind i hi with ⟨k0, _, _, e⟩ | ⟨k1, _, e, _⟩ | ⟨hk, _, _, p, h1, mask, _, hm, hr, e, k2, k3, _⟩
  · exact idle e (by omega)
  · exact idle e (by omega)
  · have Pr := runH_pres hcp (h := ⟨(H i).tr, (H i).next, (H i).next, mask ++ (H i).hid, (H i).fams⟩) hl hr
    have pk : ∀ z, z < (H i).next → z < h1.low → T5.get h1.tr z = T5.get (H i).tr z := Pr.keep
    have pn : (H i).next ≤ h1.next := Pr.next
    rw [e]
    refine ⟨pn, Pr.lim, rfl, (low_min _ _).1, fun hne z hz => ?_, fun h => by omega, fun z hz hz2 => pk z hz (Nat.lt_of_lt_of_le hz2 (low_min _ _).2)⟩
    have h2 : K i = 2 := by omega
    have hlow := k2 h2
    refine ⟨pk z hz (by omega), ?_⟩
    have := (Pr.fams (H i).next (Nat.le_refl _) hlow (FamOk.self _)).2 z hz
    exact this

variable (hcp : CallPres call)
include hcp
theorem Lex.lims : ∀ i, i ≤ ops.size → (H i).next ≤ LIM
  | 0, _ => T.lim
  | i + 1, h => (T.step hcp (i := i) (by omega) (Lex.lims i (by omega))).2.1
theorem Lex.at_ {i : Nat} (hi : i < ops.size) : (H i).next ≤ (H (i + 1)).next ∧ (H (i + 1)).next ≤ LIM ∧ (H (i + 1)).hid = (H i).hid ∧ (H (i + 1)).low ≤ (H i).low ∧
    (K i ≠ 3 → ∀ z, z < (H i).next → T5.get (H (i + 1)).tr z = T5.get (H i).tr z ∧ T5.get (H (i + 1)).fams z = T5.get (H i).fams z) ∧ (K i < 2 → H (i + 1) = H i) ∧
    (∀ z, z < (H i).next → z < (H (i + 1)).low → T5.get (H (i + 1)).tr z = T5.get (H i).tr z) := T.step hcp hi (T.lims hcp i (by omega))
theorem Lex.next_le {i : Nat} : ∀ {j : Nat}, i ≤ j → j ≤ ops.size → (H i).next ≤ (H j).next
  | 0, h, _ => by rw [show i = 0 by omega]; exact Nat.le_refl _
  | j + 1, h, hj => by
    by_cases c : i = j + 1
    · rw [c]; exact Nat.le_refl _
    · exact Nat.le_trans (Lex.next_le (i := i) (j := j) (by omega) (by omega)) (T.at_ hcp (i := j) (by omega)).1
theorem Lex.low_le {i : Nat} : ∀ {j : Nat}, i ≤ j → j ≤ ops.size → (H j).low ≤ (H i).low
  | 0, h, _ => by rw [show i = 0 by omega]; exact Nat.le_refl _
  | j + 1, h, hj => by
    by_cases c : i = j + 1
    · rw [c]; exact Nat.le_refl _
    · exact Nat.le_trans (T.at_ hcp (i := j) (by omega)).2.2.2.1 (Lex.low_le (i := i) (j := j) (by omega) (by omega))
theorem Lex.hid : ∀ i, i ≤ ops.size → (H i).hid = (H 0).hid
  | 0, _ => rfl
  | i + 1, h => (T.at_ hcp (i := i) (by omega)).2.2.1.trans (Lex.hid i (by omega))
theorem Lex.same {i z : Nat} (hz : z < (H i).next) : ∀ {j : Nat}, i ≤ j → j ≤ ops.size → (∀ l, i ≤ l → l < j → K l ≠ 3) → T5.get (H j).tr z = T5.get (H i).tr z ∧ T5.get (H j).fams z = T5.get (H i).fams z
  | 0, h, _, _ => by rw [show i = 0 by omega]; exact ⟨rfl, rfl⟩
  | j + 1, h, hj, hk => by
    by_cases c : i = j + 1
    · rw [c]; exact ⟨rfl, rfl⟩
    · have ih := Lex.same hz (j := j) (by omega) (by omega) fun l a b => hk l a (by omega)
      have := (T.at_ hcp (i := j) (by omega)).2.2.2.2.1 (hk j (by omega) (by omega)) z (Nat.lt_of_lt_of_le hz (T.next_le hcp (i := i) (j := j) (by omega) (by omega)))
      exact ⟨this.1.trans ih.1, this.2.trans ih.2⟩
theorem Lex.keep {i z : Nat} (hz : z < (H i).next) : ∀ {j : Nat}, i ≤ j → j ≤ ops.size → z < (H j).low → T5.get (H j).tr z = T5.get (H i).tr z
  | 0, h, _, _ => by rw [show i = 0 by omega]
  | j + 1, h, hj, hl => by
    by_cases c : i = j + 1
    · rw [c]
    · have s := T.at_ hcp (i := j) (by omega)
      have ih := Lex.keep hz (j := j) (by omega) (by omega) (Nat.lt_of_lt_of_le hl s.2.2.2.1)
      exact (s.2.2.2.2.2.2 z (Nat.lt_of_lt_of_le hz (T.next_le hcp (i := i) (j := j) (by omega) (by omega))) hl).trans ih
theorem Lex.eqH {i : Nat} : ∀ {j : Nat}, i ≤ j → j ≤ ops.size → (∀ l, i ≤ l → l < j → K l < 2) → H j = H i
  | 0, h, _, _ => by rw [show i = 0 by omega]
  | j + 1, h, hj, hk => by
    by_cases c : i = j + 1
    · rw [c]
    · exact ((T.at_ hcp (i := j) (by omega)).2.2.2.2.2.1 (hk j (by omega) (by omega))).trans (Lex.eqH (j := j) (by omega) (by omega) fun l a b => hk l a (by omega))

def span (H : Nat → AH) (l z : Nat) : Prop := (H l).next ≤ z ∧ z < (H (l + 1)).next
theorem Lex.span_uniq {l l' z : Nat} (hl : l < ops.size) (hl' : l' < ops.size) (h : span H l z) (h' : span H l' z) : l = l' := by
  rcases Nat.lt_trichotomy l l' with c | c | c
  · have := T.next_le hcp (i := l + 1) (j := l') (by omega) (by omega); have := h.2; have := h'.1; omega
  · exact c
  · have := T.next_le hcp (i := l' + 1) (j := l) (by omega) (by omega); have := h'.2; have := h.1; omega
theorem Lex.span_kind {l z : Nat} (hl : l < ops.size) (h : span H l z) : 2 ≤ K l := by
  refine Nat.le_of_not_lt fun c => ?_
  have e := (T.at_ hcp hl).2.2.2.2.2.1 c
  have := h.1; have := h.2
  rw [e] at this
  omega
omit T hcp in
theorem span_exists {z : Nat} : ∀ {j : Nat}, (H 0).next ≤ z → z < (H j).next → ∃ l, l < j ∧ span H l z
  | 0, h1, h2 => by omega
  | j + 1, h1, h2 => by
    by_cases c : z < (H j).next
    · obtain ⟨l, a, b⟩ := span_exists h1 c
      exact ⟨l, by omega, b⟩
    · exact ⟨j, by omega, by omega, h2⟩

omit hcp in
theorem Lex.heap {i : Nat} (hi : i < ops.size) (hk : 2 ≤ K i) : ∃ o, ops[i]? = some o ∧ prepQ P ops o = none ∧ (X i).hide = unordered (bOf ops i) (hsOf P ops i) := by
  obtain ⟨o, ho, hO⟩ := T.op hi
  refine ⟨o, ho, ?_⟩
  rcases T.kind i hi with ⟨k0, _⟩ | ⟨k1, _⟩ | ⟨_, _, hpop, _⟩
  · omega
  · omega
  · rcases hO.body with ⟨p, _, hp, _⟩ | ⟨hp, p, _, _, _, hh, _⟩
    · rw [hpop] at hp; cases hp
    · exact ⟨hp, by rw [hh]; rfl⟩
omit hcp in
theorem Lex.hide_iff {i j : Nat} (hi : i < ops.size) (hk : 2 ≤ K i) (hj : j < i) (hkj : 2 ≤ K j) : j ∈ (X i).hide ↔ ¬ before ops i j := by
  obtain ⟨o, ho, hp, hh⟩ := T.heap hi hk
  obtain ⟨oj, hoj, hpj, _⟩ := T.heap (i := j) (by omega) hkj
  rw [hh, mem_unordered]
  unfold before
  constructor
  · rintro ⟨_, h⟩ h2; rw [h] at h2; cases h2
  · intro h
    refine ⟨hsOf_mem hoj hpj hj, ?_⟩
    cases hb : hasBit (bOf ops i) j with
    | true => exact absurd hb h
    | false => rfl
omit hcp in
theorem Lex.after_writer {i j : Nat} (hi : i < ops.size) (hk : 2 ≤ K i) (hj : j < i) (hkj : K j = 3) : before ops i j := by
  refine Classical.byContradiction fun h => ?_
  have := (T.hide_iff hi hk hj (by omega)).2 h
  rcases T.kind i hi with ⟨k0, _⟩ | ⟨k1, _⟩ | ⟨_, _, _, p, h1, mask, _, _, _, _, _, _, hw⟩
  · omega
  · omega
  · exact hw j this hj hkj
omit hcp in
theorem Lex.writer_or {i j : Nat} (hi : i < ops.size) (hk : K i = 3) (hj : j < i) (hkj : 2 ≤ K j) : before ops i j ∨ (j ∈ (X i).hide ∧ ∃ p, (X i).hop = some p ∧ p.isB = true) := by
  by_cases h : before ops i j
  · exact .inl h
  · have hjh := (T.hide_iff hi (by omega) hj hkj).2 h
    rcases T.kind i hi with ⟨k0, _⟩ | ⟨k1, _⟩ | ⟨_, _, _, p, h1, mask, hp, _, _, _, _, hw, _⟩
    · omega
    · omega
    · rcases hw hk with e | e
      · rw [e] at hjh; cases hjh
      · exact .inr ⟨hjh, p, hp, e⟩

def dstOf (ops : Array Oper) (j : Nat) : Option Tmp := (ops[j]?).bind (·.dst)
omit hcp in
theorem Lex.put_at (hn : n ≤ 512) {i t : Nat} (hi : i < ops.size) (ht : t < 512) : (E (i + 1)).at (slot t) = if dstOf ops i = some t then V i else (E i).at (slot t) := by
  obtain ⟨o, ho, hO⟩ := T.op hi
  rw [T.put i hi]
  have hd := hO.dst
  unfold dstOf
  rw [ho, Option.bind_some]
  cases hdd : o.dst with
  | none =>
    rw [hdd] at hd
    simp only [prepD, Option.some.injEq] at hd
    rw [← hd]
    simp [putE]
  | some d =>
    rw [hdd] at hd
    simp only [prepD] at hd
    obtain ⟨hlt, hd⟩ := bif_some hd
    simp only [Option.some.injEq] at hd
    rw [← hd]
    have hlt := blt_lt hlt
    simp only [putE, Env.at_put]
    by_cases c : d = t
    · subst c; simp
    · rw [if_neg (fun x => c (slot_inj (by omega) ht x)), if_neg (by simpa using c)]
omit hcp in
theorem Lex.at_none (hn : n ≤ 512) {t : Nat} (ht : t < 512) : ∀ {i : Nat}, i ≤ ops.size → (∀ j, j < i → dstOf ops j ≠ some t) → (E i).at (slot t) = (E 0).at (slot t)
  | 0, _, _ => rfl
  | i + 1, hi, h => by
    rw [T.put_at hn (i := i) (by omega) ht, if_neg (h i (by omega))]
    exact Lex.at_none hn ht (by omega) fun j hj => h j (by omega)
omit hcp in
theorem Lex.at_last (hn : n ≤ 512) {t j : Nat} (ht : t < 512) (hj : dstOf ops j = some t) : ∀ {i : Nat}, j < i → i ≤ ops.size → (∀ j', j < j' → j' < i → dstOf ops j' ≠ some t) → (E i).at (slot t) = V j
  | 0, h, _, _ => by omega
  | i + 1, h, hi, hl => by
    rw [T.put_at hn (i := i) (by omega) ht]
    by_cases c : j = i
    · subst c; rw [if_pos hj]
    · rw [if_neg (hl i (by omega) (by omega))]
      exact Lex.at_last hn ht hj (i := i) (by omega) (by omega) fun j' a b => hl j' a (by omega)
end
/-! ### A store beside loads -/
theorem asSome_heap {h h' : AH} {r : Option Value} {v : Value} (hr : asSome h r = some (v, h')) : h' = h := by
  unfold asSome at hr
  split at hr
  · simp only [Option.some.injEq, Prod.mk.injEq] at hr
    exact hr.2.symm
  · cases hr
def Zb (E : Nat → Env) (X : Nat → PI) (i z : Nat) : Prop := ∃ n a x os ad, (X i).hop = some (.storeB n a x os) ∧ ev (E i) a = .pointer (some ad) ∧ ad.block = z
def Rb (E : Nat → Env) (X : Nat → PI) (j r : Nat) : Prop := ∃ m b ad, (X j).hop = some (.load m b) ∧ ev (E j) b = .pointer (some ad) ∧ ad.block = r
theorem Zb.uniq {E : Nat → Env} {X : Nat → PI} {i z z' : Nat} (h : Zb E X i z) (h' : Zb E X i z') : z = z' := by
  obtain ⟨n, a, x, os, ad, h1, h2, h3⟩ := h
  obtain ⟨n', a', x', os', ad', h1', h2', h3'⟩ := h'
  rw [h1] at h1'
  cases h1'
  rw [h2] at h2'
  cases h2'
  rw [← h3, h3']
theorem besideF_some {h : AH} {x : Value} {vs : List Value} (hb : besideF h x vs = true) : ∃ ad, x = .pointer (some ad) ∧ (h.get ad.block).kind = 1 ∧ (h.get ad.block).slack = false ∧ vs.all (offB ad.block) = true := by
  unfold besideF at hb
  split at hb
  · rename_i ad
    simp only [Bool.and_eq_true] at hb
    refine ⟨ad, rfl, ?_, ?_, hb.2⟩
    · cases hq : h.get ad.block with
      | mk k a b c d e f g i => rw [hq] at hb; simp at hb; exact hb.1.1
    · cases hq : h.get ad.block with
      | mk k a b c d e f g i => rw [hq] at hb; simp at hb; exact hb.1.2
  · cases hb
theorem writeF_plain {h h' : AH} {a : Addr} {vs : List Value} (hs : (h.get a.block).slack = false) (hw : writeF h a vs = some h') : h'.next = h.next ∧ h'.fams = h.fams ∧ ∀ y, y ≠ a.block → T5.get h'.tr y = T5.get h.tr y := by
  unfold writeF at hw
  split at hw
  · rename_i cells t fam sl es c s p hob
    rw [hob] at hs
    simp only at hs
    subst hs
    obtain ⟨_, hw⟩ := bif_some hw
    simp only [cond_false, Option.some.injEq] at hw
    subst hw
    refine ⟨rfl, rfl, fun y hy => ?_⟩
    show T5.get (T5.set h.tr a.block _) y = _
    rw [T5.get_set' _ _ _ _, if_neg (Ne.symm hy)]
  · cases hw
section
variable {P : Program} {call : Caller} {n : Nat} {ops : Array Oper} {E : Nat → Env} {H : Nat → AH} {V : Nat → Value} {K : Nat → Nat} {X : Nat → PI} (T : Lex P call n ops E H V K X)
include T
theorem Lex.at_same (hn : n ≤ 512) {t : Nat} (ht : t < 512) : ∀ {m j : Nat}, j + m ≤ ops.size → noDst ops t m j = true → (E (j + m)).at (slot t) = (E j).at (slot t)
  | 0, j, _, _ => rfl
  | m + 1, j, hm, h => by
    have h' : noDst ops t m (j + 1) = true := by
      simp only [noDst, Bool.and_eq_true] at h
      exact h.2
    have ih := Lex.at_same hn ht (m := m) (j := j + 1) (by omega) h'
    rw [show j + (m + 1) = j + 1 + m by omega, ih, T.put_at hn (i := j) (by omega) ht]
    rw [if_neg]
    intro hd
    obtain ⟨o, ho, _⟩ := T.op (i := j) (by omega)
    unfold dstOf at hd
    rw [ho, Option.bind_some] at hd
    exact noDst_spec h j (Nat.le_refl _) (by omega) o ho hd
/-- What a store beside loads does, and where the loads look. -/
theorem Lex.bes (hn : n ≤ 512) {i : Nat} (hi : i < ops.size) (hk : K i = 3) {p : Hop} (hp : (X i).hop = some p) (hb : p.isB = true) :
    ∃ z, Zb E X i z ∧ (H (i + 1)).next = (H i).next ∧ (∀ y, y ≠ z → T5.get (H (i + 1)).tr y = T5.get (H i).tr y) ∧ (H (i + 1)).fams = (H i).fams ∧ ∀ j, j ∈ (X i).hide → j < i → 2 ≤ K j → K j = 2 ∧ ∃ r, Rb E X j r ∧ r ≠ z := by
  rcases T.kind i hi with ⟨k0, _⟩ | ⟨k1, _⟩ | ⟨_, _, hpop, p', h1, mask, hp', _, hr, hH, _, hw, hn3⟩
  · omega
  · omega
  rw [hp] at hp'
  cases hp'
  cases p with
  | storeB m x v os =>
    simp only [runH] at hr
    obtain ⟨hbf, hr⟩ := bif_some hr
    obtain ⟨ad, e1, e2, e3, e4⟩ := besideF_some hbf
    obtain ⟨_, hr⟩ := asUnit_some hr
    unfold storeF at hr
    rw [e1] at hr
    simp only at hr
    obtain ⟨_, hr⟩ := bif_some hr
    obtain ⟨w1, w2, w3⟩ := writeF_plain e3 hr
    refine ⟨ad.block, ⟨m, x, v, os, ad, hp, e1, rfl⟩, ?_, ?_, ?_, fun j hj hji hkj => ⟨by have := hn3 j hj hji; rcases T.kind j (by omega) with ⟨k0, _⟩ | ⟨k1, _⟩ | ⟨kk, _⟩ <;> omega, ?_⟩⟩
    · rw [hH]; exact w1
    · intro y hy; rw [hH]; exact w3 y hy
    · rw [hH]; exact w2
    · obtain ⟨o, ho, hO⟩ := T.op hi
      rcases hO.body with ⟨q, _, hq, _⟩ | ⟨_, q, hq1, _, hq2, hq3, _⟩
      · rw [hpop] at hq; cases hq
      · simp only [cond_true] at hq2 hq3
        rw [hp] at hq2
        simp only [Option.some.injEq] at hq2
        rcases besideH_cases ops i (unordered (bOf ops i) (hsOf P ops i)) q with c | ⟨m', x', v', os', c1, c2, c3⟩
        · rw [c] at hq2
          have := prepH_notB hq1
          rw [← hq2] at this
          cases this
        · rw [c2] at hq2
          cases hq2
          rw [← hq3] at c3
          obtain ⟨oj, ty, t, a1, a2, a3, a4, a5⟩ := othersOf_spec c3 j hj
          obtain ⟨oj', ho', hOj⟩ := T.op (i := j) (by omega)
          have : oj' = oj := by rw [a1] at ho'; exact (Option.some.inj ho').symm
          subst this
          rcases T.kind j (by omega) with ⟨k0, _⟩ | ⟨k1, _⟩ | ⟨_, _, hpopj, pj, _, _, hpj, _⟩
          · omega
          · omega
          rcases hOj.body with ⟨q', _, hq', _⟩ | ⟨_, q', hq1', _, hq2', _⟩
          · rw [hpopj] at hq'; cases hq'
          · have hld : ∃ nn, q' = .load nn (.s (slot t)) := by
              unfold prepH at hq1'
              rw [a2] at hq1'
              simp only [prepO, show Nat.blt t 512 = true from Nat.blt_eq ▸ a3, cond_true] at hq1'
              split at hq1'
              · rename_i nn aa _ haa
                simp only [Option.some.injEq] at hq1' haa
                subst haa
                exact ⟨nn, hq1'.symm⟩
              · cases hq1'
            obtain ⟨nn, rfl⟩ := hld
            have hX : (X j).hop = some (.load nn (.s (slot t))) := hq2'
            have hat := T.at_same hn a3 (m := i - j) (j := j) (by omega) a4
            rw [show j + (i - j) = i by omega] at hat
            have hall := List.all_eq_true.1 e4
            have hin : ev (E i) (.s (slot t)) ∈ evs (E i) os := by
              have : ∀ (l : List PO), PO.s (slot t) ∈ l → ev (E i) (.s (slot t)) ∈ evs (E i) l := by
                intro l
                induction l with
                | nil => intro h; cases h
                | cons y l ih =>
                  intro h
                  rcases List.mem_cons.1 h with rfl | h
                  · exact List.mem_cons_self
                  · exact List.mem_cons_of_mem _ (ih h)
              exact this os a5
            have hoff := hall _ hin
            have hev : ev (E i) (.s (slot t)) = ev (E j) (.s (slot t)) := hat
            rw [hev] at hoff
            unfold offB at hoff
            split at hoff
            · rename_i ad' hv
              refine ⟨ad'.block, ⟨nn, _, ad', hX, hv, rfl⟩, fun e => ?_⟩
              rw [e] at hoff
              simp at hoff
            · cases hoff
  | _ => cases hb
/-- A load leaves the heap. -/
theorem Lex.load_calm {j r : Nat} (hj : j < ops.size) (hk : 2 ≤ K j) (hr : Rb E X j r) : (H (j + 1)).next = (H j).next ∧ (H (j + 1)).tr = (H j).tr ∧ (H (j + 1)).fams = (H j).fams := by
  obtain ⟨m, b, ad, h1, _⟩ := hr
  rcases T.kind j hj with ⟨k0, _⟩ | ⟨k1, _⟩ | ⟨_, _, hpop, p', h2, mask, hp', _, hr, hH, _⟩
  · omega
  · omega
  rw [h1] at hp'
  cases hp'
  simp only [runH] at hr
  have := asSome_heap hr
  rw [hH, this]
  exact ⟨rfl, rfl, rfl⟩
end
end Go.Ds
