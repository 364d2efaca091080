import Derived.Test.YtngmaccaldhjcaaDoorDsW
set_option linter.all false
set_option linter.unusedSimpArgs false
set_option linter.unnecessarySimpa false
set_option linter.unusedVariables false
set_option linter.unusedSectionVars false
set_option linter.unusedSectionVars false
set_option linter.unusedSectionVars false
set_option linter.unusedVariables false
namespace Go.Ds
variable [Inhabited Bound]

/-! ## A region whose order is drawn: what holds when some of it is done -/
open Classical in
noncomputable def Phi.on (φ : Phi) (p : Nat → Prop) : Phi := fun z => if p z then φ z else none
theorem Phi.on_some {φ : Phi} {p : Nat → Prop} {z : Nat} {e : FE} : φ.on p z = some e ↔ p z ∧ φ z = some e := by
  unfold Phi.on
  by_cases c : p z
  · rw [if_pos c]; exact ⟨fun h => ⟨c, h⟩, fun h => h.2⟩
  · rw [if_neg c]; exact ⟨fun h => (by cases h), fun h => absurd h.1 c⟩
theorem Phi.on_mono {φ ψ : Phi} {p q : Nat → Prop} (hle : φ.le ψ) (h : ∀ z, p z → q z) : (φ.on p).le (ψ.on q) := fun z e he => by
  rw [Phi.on_some] at he ⊢
  exact ⟨h z he.1, hle z e he.2⟩
theorem Phi.on_le {φ : Phi} {p : Nat → Prop} : (φ.on p).le φ := fun z e he => (Phi.on_some.1 he).2

def View (H : Nat → AH) (D : Nat → Prop) (z : Nat) : Prop := z < (H 0).next ∨ ∃ l, D l ∧ span H l z
theorem View.mono {H : Nat → AH} {D D' : Nat → Prop} (h : ∀ l, D l → D' l) {z : Nat} (v : View H D z) : View H D' z := v.imp id fun ⟨l, a, b⟩ => ⟨l, h l a, b⟩
def Upto (ops : Array Oper) (i l : Nat) : Prop := l = i ∨ before ops i l
def Closed (ops : Array Oper) (S D : Nat → Prop) : Prop := (∀ l, D l → S l) ∧ ∀ j l, D j → before ops j l → D l
/-- What was written is known, or lies elsewhere. -/
def Fits (E : Nat → Env) (K : Nat → Nat) (X : Nat → PI) (S D : Nat → Prop) (z : Nat) : Prop := ∀ k, S k → K k = 3 → D k ∨ ∃ z', Zb E X k z' ∧ z ≠ z'
def cont (H : Nat → AH) (m z : Nat) : Ob := bif inSpans (H 0).hid z then dead else T5.get (H m).tr z

structure Inv (n : Nat) (ops : Array Oper) (E : Nat → Env) (H : Nat → AH) (V : Nat → Value) (K : Nat → Nat) (X : Nat → PI) (B : Nat) (φ0 : Phi) (w0 : World) (S : Nat → Prop) (m : Nat) (φ : Phi) (w : World) (a : Act) : Prop where
  down : ∀ i, S i → i < ops.size ∧ ∀ e ∈ edgesOf ops i, S e
  m1 : ∀ j, S j → 2 ≤ K j → j < m
  m2 : m = 0 ∨ ∃ j, S j ∧ 2 ≤ K j ∧ m = j + 1
  dom : ∀ z e, φ z = some e → View H S z
  base : ∀ z e, φ z = some e → B ≤ e.blk ∧ e.blk < w.heap.size
  size : B ≤ w.heap.size
  obj : ∀ D, Closed ops S D → ∀ z, View H D z → Fits E K X S D z → (cont H m z).kind ≠ 0 → ∃ e, φ z = some e ∧ ObRel (φ.on (View H D)) (cont H m z) e w
  apart : ∀ i j ei ej, φ i = some ei → φ j = some ej → (cont H m i).kind ≠ 0 → (cont H m j).kind ≠ 0 → i ≠ j → ei.blk = ej.blk → (cont H m i).slack = true ∧ (cont H m j).slack = true ∧ (cont H m i).fam = (cont H m j).fam
  fam : ∀ z, View H S z → (cont H m z).kind ≠ 0 → (cont H m z).slack = true → (cont H m z).fam ≤ z ∧ (z, (cont H m z).cells.length) ∈ T5.get (H m).fams (cont H m z).fam
  tmp0 : ∀ t, t < 512 → (∀ j, S j → dstOf ops j ≠ some t) → VRel (φ.on (View H fun _ => False)) ((E 0).at (slot t)) (a.tmps.getD t undef)
  tmp1 : ∀ t, t < 512 → ∀ j, S j → dstOf ops j = some t → (∀ j', S j' → j < j' → dstOf ops j' ≠ some t) → VRel (φ.on (View H (Upto ops j))) (V j) (a.tmps.getD t undef)
  tsize : n ≤ a.tmps.size
  defs : a.defers = []
  old : ∀ z, z < (H 0).next → φ z = φ0 z
  dom0 : ∀ z e, φ0 z = some e → z < (H 0).next
  frame : ∀ k, k < w0.heap.size → (∀ z e, φ0 z = some e → e.blk = k → z < (H ops.size).low) → w.heap[k]? = w0.heap[k]?
  fresh : ∀ z e, φ z = some e → φ0 z = none → w0.heap.size ≤ e.blk ∨ ∃ j e0, φ0 j = some e0 ∧ e0.blk = e.blk ∧ (H ops.size).low ≤ j
  below : RowKit.Below B w0 w

theorem get_cont {h : AH} (z : Nat) : h.get z = bif inSpans h.hid z then dead else T5.get h.tr z := AH.get_eq h z

section
variable {P : Program} {call : Caller} {n : Nat} {ops : Array Oper} {E : Nat → Env} {H : Nat → AH} {V : Nat → Value} {K : Nat → Nat} {X : Nat → PI} (T : Lex P call n ops E H V K X) (hcp : CallPres call) (hn : n ≤ 512)
  {B : Nat} {φ0 : Phi} {w0 : World} {S : Nat → Prop} {m : Nat} {φ : Phi} {w : World} {a : Act}

theorem Inv.init {P : Program} {n : Nat} {ops : Array Oper} {E : Nat → Env} {H : Nat → AH} {V : Nat → Value} {K : Nat → Nat} {X : Nat → PI} {B : Nat} {φ0 : Phi} {w0 : World} {a : Act} (R : ERel φ0 n (E 0) a) (M : Emb φ0 (H 0) B w0) :
    Inv n ops E H V K X B φ0 w0 (fun _ => False) 0 φ0 w0 a where
  down := fun i h => h.elim
  m1 := fun j h => h.elim
  m2 := .inl rfl
  dom := fun z e h => .inl (M.dom z e h)
  base := M.base
  size := M.size
  obj := fun D hD z hz _ hk => by
    have hlt : z < (H 0).next := hz.resolve_right fun ⟨l, h, _⟩ => hD.1 l h
    have hg : (H 0).get z = cont H 0 z := AH.get_eq _ _
    obtain ⟨e, h1, h2⟩ := M.obj z hlt (by rw [hg]; exact hk)
    refine ⟨e, h1, ?_⟩
    rw [hg] at h2
    exact h2.mono fun z e h => Phi.on_some.2 ⟨.inl (M.dom z e h), h⟩
  apart := fun i j ei ej hi hj hki hkj => by
    have hg : ∀ z, (H 0).get z = cont H 0 z := fun z => AH.get_eq _ _
    rw [← hg] at hki hkj
    rw [← hg, ← hg]
    exact M.apart i j ei ej hi hj hki hkj
  fam := fun z hz hk hs => by
    have hlt : z < (H 0).next := hz.resolve_right fun ⟨l, h, _⟩ => h
    have hg : (H 0).get z = cont H 0 z := AH.get_eq _ _
    rw [← hg] at hk hs ⊢
    exact M.fam z hlt hk hs
  tmp0 := fun t ht _ => (R.at_ t ht).mono fun z e h => Phi.on_some.2 ⟨.inl (M.dom z e h), h⟩
  tmp1 := fun t ht j hj => hj.elim
  tsize := R.size
  defs := R.defs
  old := fun _ _ => rfl
  dom0 := M.dom
  frame := fun _ _ _ => rfl
  fresh := fun z e h1 h2 => by rw [h1] at h2; cases h2
  below := RowKit.Below.refl _ _

variable (I : Inv n ops E H V K X B φ0 w0 S m φ w a)
include T hcp I

theorem Inv.m_le : m ≤ ops.size := by
  rcases I.m2 with h | ⟨j, h1, _, h2⟩
  · omega
  · have := (I.down j h1).1; omega
/-- What is seen was made before the mark. -/
theorem Inv.view_lt {D : Nat → Prop} (hD : ∀ l, D l → S l) {z : Nat} (hz : View H D z) : z < (H m).next := by
  have hm := I.m_le T hcp
  rcases hz with h | ⟨l, h1, h2⟩
  · exact Nat.lt_of_lt_of_le h (T.next_le hcp (Nat.zero_le _) hm)
  · have hl := (I.down l (hD l h1)).1
    have := I.m1 l (hD l h1) (T.span_kind hcp hl h2)
    exact Nat.lt_of_lt_of_le h2.2 (T.next_le hcp (i := l + 1) (j := m) (by omega) hm)

/-- The temporaries that an operation looks at, when it is ready. -/
theorem Inv.reads (hn : n ≤ 512) {i : Nat} {o : Oper} (ho : ops[i]? = some o) (hi : ¬ S i) (hready : ∀ e ∈ edgesOf ops i, S e) {t : Nat} (ht : t < 512) (hlook : t ∈ o.looksAt ops) :
    VRel (φ.on (View H (before ops i))) ((E i).at (slot t)) (a.tmps.getD t undef) := by
  have his : i < ops.size := (Array.getElem?_eq_some_iff.1 ho).1
  have later : ∀ j, S j → i < j → dstOf ops j ≠ some t := by
    intro j hj hij hd
    have hjs := (I.down j hj).1
    obtain ⟨oj, hoj, hOj⟩ := T.op hjs
    have hnb : ¬ before ops j i := fun hb => hi (T.down I.down j hjs (I.down j hj).2 hb)
    have hap := hOj.apart rfl i o hij ho (by
      cases hb : hasBit (bOf ops j) i with
      | false => rfl
      | true => exact absurd hb hnb)
    have hdd : oj.dst = some t := by simpa [dstOf, hoj] using hd
    exact (Oper.apart_spec hap).2.2 t hdd hlook
  have earlier : ∀ j, j < i → dstOf ops j = some t → before ops i j := by
    intro j hj hd
    refine Classical.byContradiction fun hnb => ?_
    obtain ⟨o', ho', hO⟩ := T.op his
    have : o' = o := by rw [ho] at ho'; exact (Option.some.inj ho').symm
    subst this
    obtain ⟨oj, hoj, _⟩ := T.op (i := j) (by omega)
    have hap := hO.apart rfl j oj hj hoj (by
      cases hb : hasBit (bOf ops i) j with
      | false => rfl
      | true => exact absurd hb hnb)
    have hdd : oj.dst = some t := by simpa [dstOf, hoj] using hd
    exact (Oper.apart_spec hap).1 t hdd hlook
  rcases exists_last (fun j => dstOf ops j = some t) i with hnone | ⟨j, hj, hd, hlast⟩
  · rw [T.at_none hn ht (by omega) hnone]
    refine (I.tmp0 t ht fun j hj => ?_).mono (Phi.on_mono (Phi.le_refl _) fun z hz => hz.mono fun _ h => h.elim)
    rcases Nat.lt_trichotomy j i with c | c | c
    · exact hnone j c
    · subst c; exact absurd hj hi
    · exact later j hj c
  · rw [T.at_last hn ht hd hj (by omega) hlast]
    have hb := earlier j hj hd
    have hSj := T.down I.down i his hready hb
    refine (I.tmp1 t ht j hSj hd fun j' h1 h2 => ?_).mono (Phi.on_mono (Phi.le_refl _) fun z hz => hz.mono fun l hl => ?_)
    · rcases Nat.lt_trichotomy j' i with c | c | c
      · exact hlast j' h2 c
      · subst c; exact absurd h1 hi
      · exact later j' h1 c
    · rcases hl with rfl | hl
      · exact hb
      · exact T.before_trans i his hb hl

/-- Of what is ready, all that it waits for is done. -/
theorem Inv.closed {i : Nat} (his : i < ops.size) (hready : ∀ e ∈ edgesOf ops i, S e) : Closed ops S (before ops i) :=
  ⟨fun l h => T.down I.down i his hready h, fun j l h1 h2 => T.before_trans i his h1 h2⟩
theorem Inv.fit {i : Nat} (his : i < ops.size) (hk : 2 ≤ K i) (hnl : ∀ k, S k → K k = 3 → k < i) (z : Nat) : Fits E K X S (before ops i) z :=
  fun k h1 h2 => .inl (T.after_writer his hk (hnl k h1 h2) h2)

theorem Inv.same {i : Nat} (his : i < ops.size) (hk : 2 ≤ K i) (hi : ¬ S i) (hready : ∀ e ∈ edgesOf ops i, S e) (hnl : ∀ k, S k → K k = 3 → k < i) {z : Nat} (hz : z < (H i).next) (hzm : z < (H m).next) :
    T5.get (H i).tr z = T5.get (H m).tr z ∧ T5.get (H i).fams z = T5.get (H m).fams z := by
  have hm := I.m_le T hcp
  rcases Nat.le_total m i with c | c
  · refine T.same hcp hzm c (by omega) fun l h1 h2 h3 => ?_
    have := I.m1 l (T.down I.down i his hready (T.after_writer his hk h2 h3)) (by omega)
    omega
  · refine ((T.same hcp hz c hm fun l h1 h2 h3 => ?_).imp Eq.symm Eq.symm)
    have hSl : S l := by
      rcases I.m2 with h | ⟨j, hj1, hj2, hj3⟩
      · omega
      · have hjs := (I.down j hj1).1
        by_cases e : l = j
        · subst e; exact hj1
        · exact T.down I.down j hjs (I.down j hj1).2 (T.after_writer hjs hj2 (by omega) h3)
    have := hnl l hSl h3
    omega

/-- What an operation on the heap sees. -/
theorem Inv.sees {i : Nat} (his : i < ops.size) (hk : 2 ≤ K i) {mask : List (Nat × Nat)} (hmask : ∀ z, inSpans mask z = true ↔ ∃ j ∈ (X i).hide, j < i ∧ 2 ≤ K j ∧ (H j).next ≤ z ∧ z < (H (j + 1)).next) (z : Nat) :
    View H (before ops i) z ↔ z < (H i).next ∧ inSpans mask z = false := by
  constructor
  · rintro (h | ⟨l, h1, h2⟩)
    · refine ⟨Nat.lt_of_lt_of_le h (T.next_le hcp (Nat.zero_le _) (by omega)), ?_⟩
      cases hb : inSpans mask z with
      | false => rfl
      | true =>
        obtain ⟨j, _, hj, _, h3, _⟩ := (hmask z).1 hb
        have := T.next_le hcp (i := 0) (j := j) (by omega) (by omega)
        omega
    · have hl := T.before_lt i his h1
      refine ⟨Nat.lt_of_lt_of_le h2.2 (T.next_le hcp (i := l + 1) (j := i) (by omega) (by omega)), ?_⟩
      cases hb : inSpans mask z with
      | false => rfl
      | true =>
        obtain ⟨j, hj, hji, hkj, h3, h4⟩ := (hmask z).1 hb
        have e : l = j := T.span_uniq hcp (by omega) (by omega) h2 ⟨h3, h4⟩
        subst e
        exact absurd h1 ((T.hide_iff his hk hji hkj).1 hj)
  · rintro ⟨h1, h2⟩
    by_cases c : z < (H 0).next
    · exact .inl c
    · obtain ⟨l, hl, hs⟩ := span_exists (H := H) (j := i) (by omega) h1
      refine .inr ⟨l, Classical.byContradiction fun hb => ?_, hs⟩
      have hkl := T.span_kind hcp (l := l) (by omega) hs
      have := (hmask z).2 ⟨l, (T.hide_iff his hk hl hkl).2 hb, hl, hkl, hs.1, hs.2⟩
      rw [this] at h2; cases h2

theorem Inv.emb {i : Nat} (his : i < ops.size) (hk : 2 ≤ K i) (hi : ¬ S i) (hready : ∀ e ∈ edgesOf ops i, S e) (hnl : ∀ k, S k → K k = 3 → k < i) {mask : List (Nat × Nat)} (hmask : ∀ z, inSpans mask z = true ↔ ∃ j ∈ (X i).hide, j < i ∧ 2 ≤ K j ∧ (H j).next ≤ z ∧ z < (H (j + 1)).next) :
    Emb (φ.on (View H (before ops i))) ⟨(H i).tr, (H i).next, (H i).next, mask ++ (H i).hid, (H i).fams⟩ B w := by
  have hcl := I.closed T hcp his hready
  have sees := I.sees T hcp his hk hmask
  have hhid := T.hid hcp i (by omega)
  have hget : ∀ z, View H (before ops i) z → (⟨(H i).tr, (H i).next, (H i).next, mask ++ (H i).hid, (H i).fams⟩ : AH).get z = cont H m z := by
    intro z hz
    obtain ⟨h1, h2⟩ := (sees z).1 hz
    rw [get_cont, inSpans_append]
    simp only
    rw [h2, Bool.false_or, hhid, (I.same T hcp his hk hi hready hnl h1 (I.view_lt T hcp hcl.1 hz)).1]
    rfl
  have halive : ∀ z, z < (H i).next → ((⟨(H i).tr, (H i).next, (H i).next, mask ++ (H i).hid, (H i).fams⟩ : AH).get z).kind ≠ 0 → View H (before ops i) z := by
    intro z hz hkz
    refine (sees z).2 ⟨hz, ?_⟩
    cases hb : inSpans mask z with
    | false => rfl
    | true =>
      rw [get_cont, inSpans_append] at hkz
      simp only at hkz
      rw [hb] at hkz
      exact absurd rfl hkz
  constructor
  · intro z e h
    exact ((sees z).1 (Phi.on_some.1 h).1).1
  · intro z e h
    exact I.base z e (Phi.on_some.1 h).2
  · intro z hz hkz
    have hv := halive z hz hkz
    rw [hget z hv] at hkz ⊢
    obtain ⟨e, h1, h2⟩ := I.obj _ hcl z hv (I.fit T hcp his hk hnl z) hkz
    exact ⟨e, Phi.on_some.2 ⟨hv, h1⟩, h2⟩
  · intro x y ex ey hx hy hkx hky hne hbb
    obtain ⟨vx, hx⟩ := Phi.on_some.1 hx
    obtain ⟨vy, hy⟩ := Phi.on_some.1 hy
    rw [hget x vx] at hkx ⊢
    rw [hget y vy] at hky ⊢
    exact I.apart x y ex ey hx hy hkx hky hne hbb
  · intro z hz hkz hs
    have hv := halive z hz hkz
    rw [hget z hv] at hkz hs ⊢
    obtain ⟨f1, f2⟩ := I.fam z (hv.mono hcl.1) hkz hs
    refine ⟨f1, ?_⟩
    have hzm := I.view_lt T hcp hcl.1 hv
    show _ ∈ T5.get (H i).fams _
    rw [(I.same T hcp his hk hi hready hnl (z := (cont H m z).fam) (by have : z < (H i).next := hz; omega) (by omega)).2]
    exact f2
  · exact T.lims hcp i (by omega)
  · exact I.size
end
end Go.Ds
