import Derived.Test.YtngmaccaldhjcaaDoorDsH
set_option linter.all false
set_option linter.unusedSimpArgs false
set_option linter.unnecessarySimpa false
set_option linter.unusedVariables false
set_option linter.unusedSectionVars false
set_option linter.unusedSectionVars false
set_option linter.unusedVariables false
namespace Go.Ds
variable [Inhabited Bound]

/-! ## The heap of the evaluator in a world -/
theorem AH.get_eq (h : AH) (i : Nat) : h.get i = bif inSpans h.hid i then dead else T5.get h.tr i := by
  unfold AH.get; split <;> rename_i e
  · rw [e]; rfl
  · rfl
theorem AH.get_set (h : AH) (i j : Nat) (x : Ob) (hi : i < LIM) (hj : j < LIM) : (h.set i x).get j = bif inSpans h.hid j then dead else if i = j then x else T5.get h.tr j := by
  rw [AH.get_eq]; simp only [AH.set, T5.get_set _ _ _ _ hi hj]

structure MERel (φ : Phi) (a b : MapEntry) : Prop where
  key : VRel φ a.key b.key
  val : VRel φ a.val b.val
  born : a.born = b.born
def EsRel (φ : Phi) (l l' : List MapEntry) : Prop := l.length = l'.length ∧ ∀ (i : Nat) v v', l[i]? = some v → l'[i]? = some v' → MERel φ v v'
theorem MERel.mono {φ ψ : Phi} (hle : φ.le ψ) {a b : MapEntry} (h : MERel φ a b) : MERel ψ a b := ⟨h.key.mono hle, h.val.mono hle, h.born⟩
theorem EsRel.mono {φ ψ : Phi} (hle : φ.le ψ) {a b : List MapEntry} (h : EsRel φ a b) : EsRel ψ a b := ⟨h.1, fun i v v' x y => (h.2 i v v' x y).mono hle⟩

structure CellsRel (φ : Phi) (o : Ob) (e : FE) (w : World) : Prop where
  ex : ∃ c fr, w.heap[e.blk]? = some (.cells c o.elem fr) ∧ c.size = e.room ∧ (∀ k, fr.1 ≤ k → k < fr.2 → e.room ≤ k) ∧ o.cells.length ≤ e.room ∧
    ∀ (k : Nat) v, o.cells[k]? = some v → ∃ v', c[k]? = some v' ∧ VRel φ v v'
  full : o.slack = false → o.cells.length = e.room
/-- A row that is only read: of some of its cells nothing is known. -/
def SeenRel (φ : Phi) (o : Ob) (e : FE) (w : World) : Prop :=
  ∃ c t fr, w.heap[e.blk]? = some (.cells c t fr) ∧ ∀ (k : Nat) v, o.cells[k]? = some v → isJ v = true ∨ ∃ v', c[k]? = some v' ∧ VRel φ v v'
def ObRel (φ : Phi) (o : Ob) (e : FE) (w : World) : Prop :=
  (o.kind = 1 ∧ CellsRel φ o e w) ∨
  (o.kind = 2 ∧ o.slack = false ∧ ∃ es : Array MapEntry, w.heap[e.blk]? = some (.map es o.clock) ∧ EsRel φ o.ents es.toList) ∨
  (o.kind = 3 ∧ o.slack = false ∧ w.heap[e.blk]? = some (.stringIter o.str o.pos)) ∨
  (o.kind = 4 ∧ (o.slack = false ∧ (o.pos = 0 ∨ o.pos = e.blk + 1)) ∧ SeenRel φ o e w)
theorem CellsRel.mono {φ ψ : Phi} (hle : φ.le ψ) {o : Ob} {e : FE} {w : World} (h : CellsRel φ o e w) : CellsRel ψ o e w := by
  obtain ⟨⟨c, fr, h1, h2, h3, h4, h5⟩, h6⟩ := h
  exact ⟨⟨c, fr, h1, h2, h3, h4, fun k v x => let ⟨v', a, b⟩ := h5 k v x; ⟨v', a, b.mono hle⟩⟩, h6⟩
theorem ObRel.mono {φ ψ : Phi} (hle : φ.le ψ) {o : Ob} {e : FE} {w : World} (h : ObRel φ o e w) : ObRel ψ o e w := by
  rcases h with ⟨a, b⟩ | ⟨a, s, es, b, c⟩ | h | ⟨a, s, c, t, fr, h1, h2⟩
  · exact .inl ⟨a, b.mono hle⟩
  · exact .inr (.inl ⟨a, s, es, b, c.mono hle⟩)
  · exact .inr (.inr (.inl h))
  · exact .inr (.inr (.inr ⟨a, s, c, t, fr, h1, fun k v x => (h2 k v x).imp id fun ⟨v', y, z⟩ => ⟨v', y, z.mono hle⟩⟩))
/-- Of the world the block alone matters. -/
theorem ObRel.world {φ : Phi} {o : Ob} {e : FE} {w w' : World} (h : ObRel φ o e w) (hw : w'.heap[e.blk]? = w.heap[e.blk]?) : ObRel φ o e w' := by
  unfold ObRel at *
  rcases h with ⟨a, ⟨c, fr, h1, h2⟩, h3⟩ | ⟨a, s, es, b, c⟩ | ⟨a, s, h⟩ | ⟨a, s, c, t, fr, h1, h2⟩
  · exact .inl ⟨a, ⟨c, fr, by rw [hw]; exact h1, h2⟩, h3⟩
  · exact .inr (.inl ⟨a, s, es, by rw [hw]; exact b, c⟩)
  · exact .inr (.inr (.inl ⟨a, s, by rw [hw]; exact h⟩))
  · exact .inr (.inr (.inr ⟨a, s, c, t, fr, by rw [hw]; exact h1, h2⟩))

structure Emb (φ : Phi) (h : AH) (B : Nat) (w : World) : Prop where
  dom : ∀ i e, φ i = some e → i < h.next
  base : ∀ i e, φ i = some e → B ≤ e.blk ∧ e.blk < w.heap.size
  obj : ∀ i, i < h.next → (h.get i).kind ≠ 0 → ∃ e, φ i = some e ∧ ObRel φ (h.get i) e w
  apart : ∀ i j ei ej, φ i = some ei → φ j = some ej → (h.get i).kind ≠ 0 → (h.get j).kind ≠ 0 → i ≠ j → ei.blk = ej.blk → (h.get i).slack = true ∧ (h.get j).slack = true ∧ (h.get i).fam = (h.get j).fam
  fam : ∀ i, i < h.next → (h.get i).kind ≠ 0 → (h.get i).slack = true → (h.get i).fam ≤ i ∧ (i, (h.get i).cells.length) ∈ T5.get h.fams (h.get i).fam
  lim : h.next ≤ LIM
  size : B ≤ w.heap.size

structure Ext (B : Nat) (φ : Phi) (h : AH) (w : World) (φ' : Phi) (h' : AH) (w' : World) : Prop where
  le : φ.le φ'
  old : ∀ i, i < h.next → φ' i = φ i
  next : h.next ≤ h'.next
  hid : h'.hid = h.hid
  low : h'.low ≤ h.low
  keep : ∀ i, i < h.next → i < h'.low → T5.get h'.tr i = T5.get h.tr i
  frame : ∀ k, k < w.heap.size → (∀ i e, φ i = some e → e.blk = k → i < h'.low) → w'.heap[k]? = w.heap[k]?
  fresh : ∀ i e, φ' i = some e → φ i = none → w.heap.size ≤ e.blk ∨ ∃ j e0, φ j = some e0 ∧ e0.blk = e.blk ∧ h'.low ≤ j
  below : RowKit.Below B w w'

theorem Ext.refl (B : Nat) (φ : Phi) (h : AH) (w : World) : Ext B φ h w φ h w :=
  ⟨Phi.le_refl φ, fun _ _ => rfl, Nat.le_refl _, rfl, Nat.le_refl _, fun _ _ _ => rfl, fun _ _ _ => rfl, fun i e a b => (by rw [a] at b; cases b), RowKit.Below.refl _ _⟩
theorem Ext.trans {B : Nat} {φ φ1 φ2 : Phi} {h h1 h2 : AH} {w w1 w2 : World} (a : Ext B φ h w φ1 h1 w1) (b : Ext B φ1 h1 w1 φ2 h2 w2) : Ext B φ h w φ2 h2 w2 where
  le := Phi.le_trans a.le b.le
  old := fun i hi => (b.old i (Nat.lt_of_lt_of_le hi a.next)).trans (a.old i hi)
  next := Nat.le_trans a.next b.next
  hid := b.hid.trans a.hid
  low := Nat.le_trans b.low a.low
  keep := fun i hi hl => (b.keep i (Nat.lt_of_lt_of_le hi a.next) hl).trans (a.keep i hi (Nat.lt_of_lt_of_le hl b.low))
  frame := fun k hk hc => by
    have e1 := a.frame k hk (fun i e x y => Nat.lt_of_lt_of_le (hc i e x y) b.low)
    refine (b.frame k (Nat.lt_of_lt_of_le hk a.below.size) (fun i e x y => ?_)).trans e1
    cases hq : φ i with
    | some e' =>
      have : e' = e := by have := a.le i e' hq; rw [x] at this; exact (Option.some.inj this).symm
      subst this
      exact hc i _ hq y
    | none =>
      rcases a.fresh i e x hq with hf | ⟨j, e0, h1', h2', h3'⟩
      · omega
      · have := hc j e0 h1' (h2'.trans y)
        have := b.low
        omega
  fresh := fun i e x y => by
    cases hq : φ1 i with
    | some e' =>
      have : e' = e := by have := b.le i e' hq; rw [x] at this; exact (Option.some.inj this).symm
      subst this
      rcases a.fresh i _ hq y with hf | ⟨j, e0, h1', h2', h3'⟩
      · exact .inl hf
      · exact .inr ⟨j, e0, h1', h2', Nat.le_trans b.low h3'⟩
    | none =>
      rcases b.fresh i e x hq with hf | ⟨j, e0, h1', h2', h3'⟩
      · exact .inl (Nat.le_trans a.below.size hf)
      · cases hj : φ j with
        | some e1 =>
          have : e1 = e0 := by have := a.le j e1 hj; rw [h1'] at this; exact (Option.some.inj this).symm
          subst this
          exact .inr ⟨j, _, hj, h2', h3'⟩
        | none =>
          rcases a.fresh j e0 h1' hj with hf | ⟨j', e1, g1, g2, g3⟩
          · exact .inl (by omega)
          · exact .inr ⟨j', e1, g1, g2.trans h2', Nat.le_trans b.low g3⟩
  below := a.below.trans b.below

/-- The heap is the same but for some objects that are dead now. -/
structure Less (h h' : AH) : Prop where
  next : h'.next = h.next
  hid : h'.hid = h.hid
  low : h'.low ≤ h.low
  tr : ∀ i, i < LIM → T5.get h'.tr i = T5.get h.tr i ∨ T5.get h'.tr i = dead
  keep : ∀ i, i < LIM → i < h'.low → T5.get h'.tr i = T5.get h.tr i
theorem Less.refl (h : AH) : Less h h := ⟨rfl, rfl, Nat.le_refl _, fun _ _ => .inl rfl, fun _ _ _ => rfl⟩
theorem low_set (i low : Nat) : (bif Nat.blt i low then i else low) ≤ low ∧ (bif Nat.blt i low then i else low) ≤ i := by
  cases hb : Nat.blt i low with
  | true => have := blt_lt hb; exact ⟨by simp; omega, by simp⟩
  | false =>
    have : ¬ i < low := fun hlt => by rw [← Nat.blt_eq] at hlt; rw [hb] at hlt; cases hlt
    exact ⟨by simp, by simp; omega⟩
theorem Less.kill {h h' : AH} (l : Less h h') (i : Nat) : Less h (h'.set i dead) where
  next := l.next
  hid := l.hid
  low := Nat.le_trans (low_set i h'.low).1 l.low
  tr := fun j hj => by
    rw [show (h'.set i dead).tr = T5.set h'.tr i dead from rfl, T5.get_set' _ _ _ _]
    by_cases e : i = j
    · rw [if_pos e]; exact .inr rfl
    · rw [if_neg e]; exact l.tr j hj
  keep := fun j hj hl => by
    show T5.get (T5.set h'.tr i dead) j = _
    rw [T5.get_set' _ _ _ _]
    have hl' : j < (bif Nat.blt i h'.low then i else h'.low) := hl
    have := low_set i h'.low
    rw [if_neg (by omega)]
    exact l.keep j hj (by omega)

theorem killGo_less (keep off : Nat) : ∀ (ms : List (Nat × Nat)) (h h' : AH), Less h h' → Less h (killGo keep off ms h') ∧ (killGo keep off ms h').fams = h'.fams
  | [], h, h', l => ⟨l, rfl⟩
  | (i, n) :: ms, h, h', l => by
    simp only [killGo]
    cases hb : (Nat.blt off n && !Nat.beq i keep) with
    | true =>
      exact killGo_less keep off ms h _ (l.kill i)
    | false => exact killGo_less keep off ms h _ l
theorem killGo_dead' (keep off : Nat) : ∀ (ms : List (Nat × Nat)) (h : AH) (j : Nat), j < LIM → T5.get h.tr j = dead → T5.get (killGo keep off ms h).tr j = dead
  | [], h, j, _, e => e
  | (i, n) :: ms, h, j, hj, e => by
    simp only [killGo]
    cases hb : (Nat.blt off n && !Nat.beq i keep) with
    | true =>
      refine killGo_dead' keep off ms _ j hj ?_
      show T5.get (T5.set h.tr i dead) j = dead
      rw [T5.get_set' _ _ _ _]
      split <;> first | rfl | exact e
    | false => exact killGo_dead' keep off ms _ j hj e
theorem killGo_dead (keep off : Nat) (ms : List (Nat × Nat)) : ∀ (h : AH) (j n : Nat), j < LIM → (j, n) ∈ ms → off < n → j ≠ keep → T5.get (killGo keep off ms h).tr j = dead := by
  induction ms with
  | nil => intro h j n _ hm; cases hm
  | cons x ms ih =>
    intro h j n hj hm hn hk
    obtain ⟨i, m⟩ := x
    rw [killGo]
    rcases List.mem_cons.1 hm with e | hm'
    · simp only [Prod.mk.injEq] at e
      obtain ⟨rfl, rfl⟩ := e
      have h1 : Nat.blt off n = true := by rw [Nat.blt_eq]; exact hn
      have h2 : Nat.beq j keep = false := by
        cases hq : Nat.beq j keep
        · rfl
        · exact absurd (beq_eq hq) hk
      have hc : (Nat.blt off n && !Nat.beq j keep) = true := by rw [h1, h2]; rfl
      rw [hc, cond_true]
      have e : T5.get (h.set j dead).tr j = dead := by
        rw [show (h.set j dead).tr = T5.set h.tr j dead from rfl, T5.get_set _ _ _ _ hj hj, if_pos rfl]
      exact killGo_dead' keep off ms _ j hj e
    · cases (Nat.blt off m && !Nat.beq i keep) with
      | true => rw [cond_true]; exact ih _ j n hj hm' hn hk
      | false => rw [cond_false]; exact ih _ j n hj hm' hn hk

theorem Less.get {h h' : AH} (l : Less h h') (i : Nat) (hi : i < LIM) : h'.get i = h.get i ∨ h'.get i = dead := by
  rw [AH.get_eq, AH.get_eq, l.hid]
  cases inSpans h.hid i with
  | true => exact .inl rfl
  | false => exact l.tr i hi

/-- Killing in a family: what the heap is then. -/
theorem killF_emb {φ : Phi} {h : AH} {B : Nat} {w : World} (E : Emb φ h B w) (f keep off : Nat) (hf : f < LIM) :
    Emb φ (killF h f keep off) B w ∧ Less h (killF h f keep off) ∧
    (∀ j, j < h.next → ((killF h f keep off).get j).kind ≠ 0 → (killF h f keep off).get j = h.get j ∧ ((h.get j).slack = true → (h.get j).fam = f → j ≠ keep → (h.get j).cells.length ≤ off)) := by
  have hl := killGo_less keep off (T5.get h.fams f) h h (Less.refl h)
  have L : Less h (killF h f keep off) := ⟨hl.1.next, hl.1.hid, hl.1.low, hl.1.tr, hl.1.keep⟩
  have live : ∀ j, j < LIM → ((killF h f keep off).get j).kind ≠ 0 → (killF h f keep off).get j = h.get j := by
    intro j hj hk
    rcases L.get j hj with e | e
    · exact e
    · rw [e] at hk; exact absurd rfl hk
  have short : ∀ j, j < h.next → ((killF h f keep off).get j).kind ≠ 0 → (h.get j).slack = true → (h.get j).fam = f → j ≠ keep → (h.get j).cells.length ≤ off := by
    intro j hj hk hs hfam hne
    have hj' : j < LIM := Nat.lt_of_lt_of_le hj E.lim
    have e := live j hj' hk
    have hk' : (h.get j).kind ≠ 0 := by rw [← e]; exact hk
    obtain ⟨_, hm⟩ := E.fam j hj hk' hs
    rw [hfam] at hm
    refine Nat.le_of_not_lt fun hlt => ?_
    have hd := killGo_dead keep off _ h j _ hj' hm hlt hne
    apply hk
    rw [AH.get_eq]
    have : T5.get (killF h f keep off).tr j = dead := hd
    rw [this]
    cases inSpans (killF h f keep off).hid j <;> rfl
  refine ⟨⟨?_, E.base, ?_, ?_, ?_, ?_, E.size⟩, L, fun j hj hk => ⟨live j (Nat.lt_of_lt_of_le hj E.lim) hk, short j hj hk⟩⟩
  · intro i e hi
    rw [L.next]; exact E.dom i e hi
  · intro i hi hk
    rw [L.next] at hi
    have e := live i (Nat.lt_of_lt_of_le hi E.lim) hk
    rw [e] at hk ⊢
    exact E.obj i hi hk
  · intro i j ei ej hi hj hki hkj hne hb
    have li := Nat.lt_of_lt_of_le (E.dom i ei hi) E.lim
    have lj := Nat.lt_of_lt_of_le (E.dom j ej hj) E.lim
    have e1 := live i li hki
    have e2 := live j lj hkj
    rw [e1] at hki ⊢
    rw [e2] at hkj ⊢
    exact E.apart i j ei ej hi hj hki hkj hne hb
  · intro i hi hk hs
    rw [L.next] at hi
    have li := Nat.lt_of_lt_of_le hi E.lim
    have e := live i li hk
    have sh := short i hi hk
    rw [e] at hk hs ⊢
    obtain ⟨h1, h2⟩ := E.fam i hi hk hs
    refine ⟨h1, ?_⟩
    show _ ∈ T5.get (T5.set _ f _) _
    rw [T5.get_set _ _ _ _ hf (Nat.lt_of_le_of_lt h1 (Nat.lt_of_lt_of_le hi E.lim))]
    by_cases ef : f = (h.get i).fam
    · rw [if_pos ef]
      subst ef
      refine List.mem_filter.2 ⟨h2, ?_⟩
      by_cases hk2 : i = keep
      · subst hk2; simp
      · have := sh hs rfl hk2
        simp [this]
    · rw [if_neg ef, hl.2]; exact h2
  · rw [L.next]; exact E.lim
end Go.Ds
