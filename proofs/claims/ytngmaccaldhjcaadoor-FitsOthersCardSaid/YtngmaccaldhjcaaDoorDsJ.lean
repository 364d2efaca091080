import Derived.Test.YtngmaccaldhjcaaDoorDsI
set_option linter.all false
set_option linter.unusedSimpArgs false
set_option linter.unnecessarySimpa false
set_option linter.unusedVariables false
set_option linter.unusedSectionVars false
set_option linter.unusedSectionVars false
set_option linter.unusedVariables false
namespace Go.Ds
variable [Inhabited Bound]

/-! ## Lists -/
theorem lenN_eq {α : Type} : ∀ l : List α, lenN l = l.length
  | [] => rfl
  | _ :: l => by simp [lenN, lenN_eq l]
theorem dropN_eq {α : Type} : ∀ (n : Nat) (l : List α), dropN n l = l.drop n
  | 0, l => rfl
  | n + 1, [] => rfl
  | n + 1, x :: l => by simp [dropN, dropN_eq n l]
theorem takeN_eq {α : Type} : ∀ {n : Nat} {l r : List α}, takeN n l = some r → r = l.take n ∧ n ≤ l.length
  | 0, l, r, h => by simp only [takeN, Option.some.injEq] at h; subst h; simp
  | n + 1, [], r, h => by simp [takeN] at h
  | n + 1, x :: l, r, h => by
    simp only [takeN] at h
    split at h
    · rename_i r' h'
      simp only [Option.some.injEq] at h
      subst h
      obtain ⟨h1, h2⟩ := takeN_eq h'
      subst h1
      exact ⟨by simp, by simpa using h2⟩
    · cases h
theorem splice_len : ∀ (off : Nat) (l new : List Value), off + new.length ≤ l.length → (splice off l new).length = l.length
  | 0, l, new, h => by simp [splice, dropN_eq, lenN_eq]; omega
  | off + 1, [], new, h => by simp at h
  | off + 1, x :: l, new, h => by simp [splice]; exact splice_len off l new (by simp at h; omega)
theorem splice_get : ∀ (off : Nat) (l new : List Value), off + new.length ≤ l.length → ∀ k, (splice off l new)[k]? = if off ≤ k ∧ k < off + new.length then new[k - off]? else l[k]?
  | 0, l, new, h, k => by
    simp only [splice, dropN_eq, lenN_eq, Nat.zero_le, true_and, Nat.zero_add, Nat.sub_zero]
    rw [List.getElem?_append]
    split
    · rfl
    · rename_i hk; rw [List.getElem?_drop]; congr 1; omega
  | off + 1, [], new, h, k => by simp at h
  | off + 1, x :: l, new, h, k => by
    cases k with
    | zero => simp [splice]
    | succ k =>
      simp only [splice, List.getElem?_cons_succ]
      rw [splice_get off l new (by simp at h; omega) k]
      by_cases c : off ≤ k ∧ k < off + new.length
      · rw [if_pos c, if_pos (by omega)]; congr 1; omega
      · rw [if_neg c, if_neg (by omega)]

/-! ## Worlds -/
theorem setCells_heap_other (b : Nat) : ∀ (vs : List Value) (o : Nat) (w : World) (k : Nat), k ≠ b → (w.setCells b o vs).heap[k]? = w.heap[k]?
  | [], _, _, _, _ => rfl
  | v :: vs, o, w, k, h => by
    rw [World.setCells, setCells_heap_other b vs _ _ k h]
    exact RowKit.Below.heap_setCell w ⟨b, o, none⟩ v k h
theorem setCells_same (b : Nat) : ∀ (vs : List Value) (o : Nat) (w : World), (w.setCells b o vs).heap.size = w.heap.size ∧ (w.setCells b o vs).os = w.os ∧ (w.setCells b o vs).tape = w.tape ∧ (w.setCells b o vs).output = w.output
  | [], _, _ => ⟨rfl, rfl, rfl, rfl⟩
  | v :: vs, o, w => by
    rw [World.setCells]
    have := setCells_same b vs (o + 1) (w.setCell ⟨b, o, none⟩ v)
    refine ⟨this.1.trans ?_, this.2.1, this.2.2.1, this.2.2.2⟩
    simp
theorem setCells_heap_at (b : Nat) : ∀ (vs : List Value) (o : Nat) (w : World) (c : Array Value) (t : TypeId) (fr : Nat × Nat), w.heap[b]? = some (.cells c t fr) → o + vs.length ≤ c.size →
    ∃ c', (w.setCells b o vs).heap[b]? = some (.cells c' t fr) ∧ c'.size = c.size ∧ ∀ k : Nat, c'[k]? = if o ≤ k ∧ k < o + vs.length then vs[k - o]? else c[k]?
  | [], o, w, c, t, fr, h, _ => ⟨c, h, rfl, fun k => by rw [if_neg (by simp)]⟩
  | v :: vs, o, w, c, t, fr, h, hl => by
    have h1 : (w.setCell ⟨b, o, none⟩ v).heap[b]? = some (.cells (c.setIfInBounds o v) t fr) := by
      simp [World.setCell, Array.getElem?_modify, h]
    obtain ⟨c', g1, g2, g3⟩ := setCells_heap_at b vs (o + 1) _ _ t fr h1 (by simp at hl ⊢; omega)
    refine ⟨c', g1, by simpa using g2, fun k => ?_⟩
    rw [g3 k]
    simp only [List.length_cons] at hl ⊢
    by_cases e : o = k
    · subst e
      rw [if_neg (by omega), if_pos (by omega)]
      simp [show o < c.size by omega]
    · by_cases c1 : o + 1 ≤ k ∧ k < o + 1 + vs.length
      · rw [if_pos c1, if_pos (by omega), show k - o = (k - (o + 1)) + 1 by omega]
        simp
      · rw [if_neg c1, if_neg (by omega)]
        simp [Array.getElem?_setIfInBounds, e]
theorem below_setCells {B : Nat} {b : Nat} (hb : B ≤ b) (vs : List Value) (o : Nat) (w : World) : RowKit.Below B w (w.setCells b o vs) := by
  obtain ⟨h1, h2, h3, h4⟩ := setCells_same b vs o w
  exact ⟨h2, h3, h4, by rw [h1]; exact Nat.le_refl _, fun k hk => setCells_heap_other b vs o w k (by omega)⟩

/-! ## New memory -/
def Phi.add (φ : Phi) (i : Nat) (e : FE) : Phi := fun j => if j = i then some e else φ j
theorem Phi.add_same (φ : Phi) (i : Nat) (e : FE) : φ.add i e i = some e := by simp [Phi.add]
theorem Phi.add_le {φ : Phi} {i : Nat} {e : FE} (h : φ i = none) : φ.le (φ.add i e) := by
  intro j f hj
  unfold Phi.add
  split
  · rename_i hq; subst hq; rw [h] at hj; cases hj
  · exact hj

theorem Emb.fresh {φ : Phi} {h : AH} {B : Nat} {w : World} (E : Emb φ h B w) {i : Nat} (hi : h.next ≤ i) : φ i = none := by
  cases hq : φ i with
  | none => rfl
  | some e => exact absurd (E.dom i e hq) (by omega)

theorem heap_alloc_old (w : World) (O : Obj) {k : Nat} (h : k < w.heap.size) : (w.alloc O).heap[k]? = w.heap[k]? := RowKit.Below.heap_alloc w O k h
theorem heap_alloc_new (w : World) (O : Obj) : (w.alloc O).heap[w.heap.size]? = some O := by
  show (w.heap.push O)[w.heap.size]? = some O
  simp

theorem emb_push {φ : Phi} {h : AH} {B : Nat} {w : World} (E : Emb φ h B w) (hn : h.next < LIM) (o : Ob) (O : Obj) (room : Nat) (h' : AH)
    (htr : h'.tr = T5.set h.tr h.next o) (hnext : h'.next = h.next + 1) (hlow : h'.low ≤ h.low) (hhid : h'.hid = h.hid)
    (hf : ∀ i, i < h.next → (h.get i).kind ≠ 0 → (h.get i).slack = true → (i, (h.get i).cells.length) ∈ T5.get h'.fams (h.get i).fam)
    (ho : o.slack = true → o.fam ≤ h.next ∧ (h.next, o.cells.length) ∈ T5.get h'.fams o.fam)
    (hr : ObRel (φ.add h.next ⟨w.heap.size, room⟩) o ⟨w.heap.size, room⟩ (w.alloc O)) :
    Emb (φ.add h.next ⟨w.heap.size, room⟩) h' B (w.alloc O) ∧ Ext B φ h w (φ.add h.next ⟨w.heap.size, room⟩) h' (w.alloc O) := by
  have hfr : φ h.next = none := E.fresh (Nat.le_refl _)
  have hle := Phi.add_le (e := ⟨w.heap.size, room⟩) hfr
  have old : ∀ i, i < h.next → h'.get i = h.get i := by
    intro i hi
    rw [AH.get_eq, AH.get_eq, hhid, htr, T5.get_set _ _ _ _ hn (by omega), if_neg (by omega)]
  have new : (h'.get h.next).kind ≠ 0 → h'.get h.next = o := by
    rw [AH.get_eq, htr, T5.get_set _ _ _ _ hn hn, if_pos rfl]
    cases inSpans h'.hid h.next with
    | true => intro h; exact absurd rfl h
    | false => intro _; rfl
  have oldφ : ∀ i, i ≠ h.next → (φ.add h.next ⟨w.heap.size, room⟩) i = φ i := fun i hi => by simp [Phi.add, hi]
  refine ⟨⟨?_, ?_, ?_, ?_, ?_, by omega, by have := E.size; simp; omega⟩, ⟨hle, fun i hi => oldφ i (by omega), by omega, hhid, hlow, ?_, ?_, ?_, ?_⟩⟩
  · intro i e hi
    by_cases c : i = h.next
    · omega
    · rw [oldφ i c] at hi; have := E.dom i e hi; omega
  · intro i e hi
    by_cases c : i = h.next
    · subst c
      rw [Phi.add_same] at hi
      cases hi
      exact ⟨E.size, by simp⟩
    · rw [oldφ i c] at hi
      have := E.base i e hi
      exact ⟨this.1, by simp; omega⟩
  · intro i hi hk
    by_cases c : i = h.next
    · subst c
      rw [new hk]
      exact ⟨_, Phi.add_same _ _ _, hr⟩
    · have hlt : i < h.next := by omega
      rw [old i hlt] at hk ⊢
      obtain ⟨e, h1, h2⟩ := E.obj i hlt hk
      exact ⟨e, hle _ _ h1, (h2.world (heap_alloc_old w O (E.base i e h1).2)).mono hle⟩
  · intro i j ei ej hi hj hki hkj hne hb
    by_cases c : i = h.next
    · have cj : j ≠ h.next := fun x => hne (c.trans x.symm)
      subst c
      rw [Phi.add_same] at hi
      cases hi
      rw [oldφ j cj] at hj
      have := (E.base j ej hj).2
      simp at hb; omega
    · by_cases cj : j = h.next
      · subst cj
        rw [Phi.add_same] at hj
        cases hj
        rw [oldφ i c] at hi
        have := (E.base i ei hi).2
        simp at hb; omega
      · rw [oldφ i c] at hi
        rw [oldφ j cj] at hj
        rw [old i (E.dom i ei hi)] at hki ⊢
        rw [old j (E.dom j ej hj)] at hkj ⊢
        exact E.apart i j ei ej hi hj hki hkj hne hb
  · intro i hi hk hs
    by_cases c : i = h.next
    · subst c
      rw [new hk] at hs ⊢
      exact ho hs
    · have hlt : i < h.next := by omega
      rw [old i hlt] at hk hs ⊢
      exact ⟨by have := (E.fam i hlt hk hs).1; omega, hf i hlt hk hs⟩
  · intro i hi _
    rw [htr, T5.get_set _ _ _ _ hn (by omega), if_neg (by omega)]
  · intro k hk _
    exact heap_alloc_old w O hk
  · intro i e hi hnone
    by_cases c : i = h.next
    · subst c
      rw [Phi.add_same] at hi
      cases hi
      exact .inl (Nat.le_refl _)
    · rw [oldφ i c, hnone] at hi; cases hi
  · exact (RowKit.Below.refl _ _).alloc E.size O

/-- The plain case. -/
theorem emb_push_plain {φ : Phi} {h : AH} {B : Nat} {w : World} (E : Emb φ h B w) (hn : h.next < LIM) (o : Ob) (O : Obj) (room : Nat) (hs : o.slack = false)
    (hr : ObRel (φ.add h.next ⟨w.heap.size, room⟩) o ⟨w.heap.size, room⟩ (w.alloc O)) :
    Emb (φ.add h.next ⟨w.heap.size, room⟩) (h.push o) B (w.alloc O) ∧ Ext B φ h w (φ.add h.next ⟨w.heap.size, room⟩) (h.push o) (w.alloc O) :=
  emb_push E hn o O room (h.push o) rfl rfl (Nat.le_refl _) rfl (fun i hi hk hs => (E.fam i hi hk hs).2) (fun h => by rw [hs] at h; cases h) hr

theorem Emb.drew {φ : Phi} {h : AH} {B : Nat} {w : World} (E : Emb φ h B w) : Emb φ h B w.drew := ⟨E.dom, E.base, fun i hi hk => let ⟨e, h1, h2⟩ := E.obj i hi hk; ⟨e, h1, h2.world rfl⟩, E.apart, E.fam, E.lim, E.size⟩
theorem Ext.drew {B : Nat} {φ : Phi} {h : AH} {w : World} : Ext B φ h w φ h w.drew :=
  ⟨Phi.le_refl φ, fun _ _ => rfl, Nat.le_refl _, rfl, Nat.le_refl _, fun _ _ _ => rfl, fun _ _ _ => rfl, fun i e a b => (by rw [a] at b; cases b), (RowKit.Below.refl _ _).drew⟩
theorem Less.ext {B : Nat} {φ : Phi} {h h' : AH} {w : World} (L : Less h h') (hl : h.next ≤ LIM) : Ext B φ h w φ h' w :=
  ⟨Phi.le_refl φ, fun _ _ => rfl, by rw [L.next]; exact Nat.le_refl _, L.hid, L.low, fun i hi hlo => L.keep i (by omega) hlo, fun _ _ _ => rfl, fun i e a b => (by rw [a] at b; cases b), RowKit.Below.refl _ _⟩

/-! ## Writing -/
theorem emb_write {φ : Phi} {h : AH} {B : Nat} {w : World} (E : Emb φ h B w) {i : Nat} (hi : i < h.next) {e : FE} (he : φ i = some e) {o : Ob} (ho : h.get i = o) (hk : o.kind = 1)
    {off : Nat} {vs vs' : List Value} (hfit : off + vs.length ≤ o.cells.length) (hv : LRel φ vs vs')
    (hothers : ∀ j ej, j ≠ i → φ j = some ej → (h.get j).kind ≠ 0 → ej.blk = e.blk → (h.get j).cells.length ≤ off ∧ (h.get j).slack = true)
    (o' : Ob) (ho' : o' = { o with cells := splice off o.cells vs }) :
    Emb φ (h.set i o') B (w.setCells e.blk off vs') ∧ Ext B φ h w φ (h.set i o') (w.setCells e.blk off vs') := by
  have hi' : i < LIM := Nat.lt_of_lt_of_le hi E.lim
  have hko : (h.get i).kind ≠ 0 := by rw [ho, hk]; decide
  obtain ⟨e2, he2, hrel⟩ := E.obj i hi hko
  have : e2 = e := by rw [he] at he2; exact (Option.some.inj he2).symm
  subst this
  rw [ho] at hrel
  have hrel1 : CellsRel φ o e2 w := by
    rcases hrel with ⟨_, x⟩ | ⟨x, _⟩ | ⟨x, _⟩ | ⟨x, _⟩
    · exact x
    · rw [hk] at x; cases x
    · rw [hk] at x; cases x
    · rw [hk] at x; cases x
  obtain ⟨⟨c, fr, hc1, hc2, hc3, hc4, hc5⟩, hfull⟩ := hrel1
  have hlen : vs.length = vs'.length := hv.1
  have hsp : (splice off o.cells vs).length = o.cells.length := splice_len off o.cells vs hfit
  obtain ⟨c', g1, g2, g3⟩ := setCells_heap_at e2.blk vs' off w c o.elem fr hc1 (by omega)
  obtain ⟨s1, s2, s3, s4⟩ := setCells_same e2.blk vs' off w
  have hb := E.base i e2 he
  have getj : ∀ j, j < LIM → j ≠ i → (h.set i o').get j = h.get j := by
    intro j hj hne
    rw [AH.get_set _ _ _ _ hi' hj, AH.get_eq, if_neg (fun x => hne x.symm)]
  have geti : ((h.set i o').get i).kind ≠ 0 → (h.set i o').get i = o' := by
    rw [AH.get_set _ _ _ _ hi' hi', if_pos rfl]
    cases inSpans h.hid i with
    | true => intro h; exact absurd rfl h
    | false => intro _; rfl
  have hslack : o'.slack = o.slack ∧ o'.fam = o.fam ∧ o'.kind = 1 ∧ o'.elem = o.elem ∧ o'.cells = splice off o.cells vs := by subst ho'; exact ⟨rfl, rfl, hk, rfl, rfl⟩
  refine ⟨⟨E.dom, fun j ej hj => by rw [s1]; exact E.base j ej hj, ?_, ?_, ?_, E.lim, by rw [s1]; exact E.size⟩, ⟨Phi.le_refl φ, fun _ _ => rfl, Nat.le_refl _, rfl, (low_set i h.low).1, ?_, ?_, fun j ej a b => (by rw [a] at b; cases b), below_setCells hb.1 vs' off w⟩⟩
  · intro j hj hkj
    by_cases cj : j = i
    · subst cj
      rw [geti hkj]
      refine ⟨e2, he, .inl ⟨hslack.2.2.1, ⟨c', fr, by rw [hslack.2.2.2.1]; exact g1, by omega, hc3, by rw [hslack.2.2.2.2]; omega, ?_⟩, fun hs => ?_⟩⟩
      · intro k v hkv
        rw [hslack.2.2.2.2, splice_get off o.cells vs hfit k] at hkv
        rw [g3 k]
        by_cases cc : off ≤ k ∧ k < off + vs.length
        · rw [if_pos cc] at hkv
          rw [if_pos (by omega)]
          exact hv.get hkv
        · rw [if_neg cc] at hkv
          rw [if_neg (by omega)]
          exact hc5 k v hkv
      · rw [hslack.2.2.2.2, hsp]
        exact hfull (by rw [← hslack.1]; exact hs)
    · have hj' : j < LIM := Nat.lt_of_lt_of_le hj E.lim
      rw [getj j hj' cj] at hkj ⊢
      obtain ⟨ej, hej, hrj⟩ := E.obj j hj hkj
      refine ⟨ej, hej, ?_⟩
      by_cases cb : ej.blk = e2.blk
      · obtain ⟨hsh, hsl⟩ := hothers j ej cj hej hkj cb
        rcases hrj with ⟨k1, ⟨cj', frj, q1, q2, q3, q4, q5⟩, q6⟩ | ⟨k1, k2, _⟩ | ⟨k1, k2, _⟩ | ⟨k1, ⟨k2, _⟩, _⟩
        · rw [cb] at q1
          rw [hc1] at q1
          simp only [Option.some.injEq, Obj.cells.injEq] at q1
          obtain ⟨x1, x2, x3⟩ := q1
          subst x1; subst x3
          refine .inl ⟨k1, ⟨c', fr, by rw [cb, ← x2]; exact g1, by omega, q3, q4, fun k v hkv => ?_⟩, fun hs => by rw [hsl] at hs; cases hs⟩
          have hkl : k < (h.get j).cells.length := (List.getElem?_eq_some_iff.1 hkv).1
          rw [g3 k, if_neg (by omega)]
          exact q5 k v hkv
        · rw [hsl] at k2; cases k2
        · rw [hsl] at k2; cases k2
        · rw [hsl] at k2; cases k2
      · exact hrj.world (setCells_heap_other e2.blk vs' off w ej.blk cb)
  · intro j l ej el hj hl hkj hkl hne hbb
    have lj := Nat.lt_of_lt_of_le (E.dom j ej hj) E.lim
    have ll := Nat.lt_of_lt_of_le (E.dom l el hl) E.lim
    have key : ∀ j, j < LIM → ((h.set i o').get j).kind ≠ 0 → (h.get j).kind ≠ 0 ∧ ((h.set i o').get j).slack = (h.get j).slack ∧ ((h.set i o').get j).fam = (h.get j).fam := by
      intro j hj hkj
      by_cases cj : j = i
      · subst cj
        rw [geti hkj, ho]
        exact ⟨by rw [hk]; decide, hslack.1, hslack.2.1⟩
      · rw [getj j hj cj] at hkj ⊢
        exact ⟨hkj, rfl, rfl⟩
    obtain ⟨a1, a2, a3⟩ := key j lj hkj
    obtain ⟨b1, b2, b3⟩ := key l ll hkl
    rw [a2, a3, b2, b3]
    exact E.apart j l ej el hj hl a1 b1 hne hbb
  · intro j hj hkj hs
    by_cases cj : j = i
    · subst cj
      rw [geti hkj] at hs ⊢
      rw [hslack.2.1, hslack.2.2.2.2, hsp]
      have := E.fam j hj hko
      rw [ho] at this
      exact this (by rw [← hslack.1]; exact hs)
    · rw [getj j (Nat.lt_of_lt_of_le hj E.lim) cj] at hkj hs ⊢
      exact E.fam j hj hkj hs
  · intro j hj hlo
    have hlo' : j < (bif Nat.blt i h.low then i else h.low) := hlo
    have := low_set i h.low
    show T5.get (T5.set h.tr i o') j = _
    rw [T5.get_set _ _ _ _ hi' (Nat.lt_of_lt_of_le hj E.lim), if_neg (by omega)]
  · intro k _ hcond
    refine setCells_heap_other e2.blk vs' off w k (fun x => ?_)
    have h1 : i < (bif Nat.blt i h.low then i else h.low) := hcond i e2 he x.symm
    have := low_set i h.low
    omega
end Go.Ds
