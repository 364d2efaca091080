import Derived.Test.YtngmaccaldhjcaaDoorDsJ
set_option linter.all false
set_option linter.unusedSimpArgs false
set_option linter.unnecessarySimpa false
set_option linter.unusedVariables false
set_option linter.unusedSectionVars false
set_option linter.unusedSectionVars false
set_option linter.unusedVariables false
namespace Go.Ds
variable [Inhabited Bound]

/-- What an operation does to the heap: whatever comes behind. -/
def HStep (P : Program) (B : Nat) (φ : Phi) (h : AH) (o : Oper) (ρ : Operand → Value) (w : World) (v : Value) (h' : AH) : Prop :=
  ∀ (a : Act) (K : Act → World → Prop) (Q : Exit → Act → World → Prop),
    (∀ φ' v' w', VRel φ' v v' → Emb φ' h' B w' → Ext B φ h w φ' h' w' → K (a.put o.dst v') w') → o.upon P a K Q ((execOp ρ o).run P w)

/-- A computation of a value on the heap. -/
def HGives (P : Program) (B : Nat) (φ : Phi) (h : AH) (w : World) (s : Sem Value) (v : Value) (h' : AH) : Prop :=
  ∃ φ' v' w', s.run P w = .ok v' w' ∧ VRel φ' v v' ∧ Emb φ' h' B w' ∧ Ext B φ h w φ' h' w'
def UGives (P : Program) (B : Nat) (φ : Phi) (h : AH) (w : World) (s : Sem Unit) (h' : AH) : Prop :=
  ∃ φ' w', s.run P w = .ok () w' ∧ Emb φ' h' B w' ∧ Ext B φ h w φ' h' w'
theorem HGives.step {P : Program} {B : Nat} {φ : Phi} {h h' : AH} {o : Oper} {ρ : Operand → Value} {w : World} {v : Value} {s : Sem Value} (g : HGives P B φ h w s v h')
    (he : execOp ρ o = (do pure (.value (← s)))) : HStep P B φ h o ρ w v h' := by
  obtain ⟨φ', v', w', hr, hv, hE, hX⟩ := g
  intro a K Q hK
  rw [he]
  simp only [Sem.run_bind, hr, Result.andThen_ok, Sem.run_pure, Oper.upon]
  exact hK φ' v' w' hv hE hX
theorem UGives.step {P : Program} {B : Nat} {φ : Phi} {h h' : AH} {o : Oper} {ρ : Operand → Value} {w : World} {s : Sem Unit} (g : UGives P B φ h w s h')
    (he : execOp ρ o = (do s; pure .skip)) : HStep P B φ h o ρ w undef h' := by
  obtain ⟨φ', w', hr, hE, hX⟩ := g
  intro a K Q hK
  rw [he]
  simp only [Sem.run_bind, hr, Result.andThen_ok, Sem.run_pure, Oper.upon]
  exact hK φ' undef w' VRel.undef hE hX

/-! ### Cells -/
theorem cellsOf_eq (v : Value) : cellsOf v = v.cells.toList := by cases v <;> rfl
theorem oneCell_rel {φ : Phi} {v v' : Value} (h : VRel φ v v') (hc : cellV v = true) : v'.oneCell' = true := by
  cases h <;> first | rfl | cases hc
theorem oneCells_rel {φ : Phi} : ∀ {l l' : List Value}, LRel φ l l' → l.all cellV = true → ∀ v ∈ l', v.oneCell' = true
  | [], l', h, _ => by rw [h.nil_inv]; simp
  | x :: l, l', h, hc => by
    obtain ⟨x', l'', rfl, hx, hl⟩ := h.cons_inv
    simp only [List.all_cons, Bool.and_eq_true] at hc
    intro v hv
    rcases List.mem_cons.1 hv with e | e
    · subst e; exact oneCell_rel hx hc.1
    · exact oneCells_rel hl hc.2 v e

theorem cells_new {φ : Phi} {w : World} {l : List Value} {c : Array Value} (hl : LRel φ l c.toList) (t : TypeId) (fam : Nat) (sl : Bool) (e : FE) (he : e = ⟨w.heap.size, c.size⟩) (hfull : sl = false → l.length = c.size) :
    ObRel φ ⟨1, l, t, fam, sl, [], 0, ByteArray.empty, 0⟩ e (w.alloc (.cells c t)) := by
  subst he
  refine .inl ⟨rfl, ⟨c, (0, 0), heap_alloc_new w _, rfl, fun k h1 h2 => by omega, by have := hl.1; simp at this; simp [this], fun k v hk => ?_⟩, fun hs => hfull hs⟩
  obtain ⟨v', h1, h2⟩ := hl.get hk
  exact ⟨v', by simpa using h1, h2⟩

/-- New cells. -/
theorem newRow_gives {P : Program} {B : Nat} {φ : Phi} {h : AH} {w : World} (E : Emb φ h B w) {l : List Value} {c : Array Value} (hl : LRel φ l c.toList) (t : TypeId) (hn : h.next < LIM) :
    ∃ φ', (newRow t c).run P w = .ok ⟨w.heap.size, 0, none⟩ (w.alloc (.cells c t)) ∧ φ' h.next = some ⟨w.heap.size, c.size⟩ ∧ Emb φ' (h.push (cellsOb l t)) B (w.alloc (.cells c t)) ∧ Ext B φ h w φ' (h.push (cellsOb l t)) (w.alloc (.cells c t)) := by
  have hfr : φ h.next = none := E.fresh (Nat.le_refl _)
  have hle := Phi.add_le (e := ⟨w.heap.size, c.size⟩) hfr
  have hlen : l.length = c.size := by have := hl.1; simpa using this
  have := emb_push_plain E hn (cellsOb l t) (.cells c t) c.size rfl (cells_new (hl.mono hle) t 0 false _ rfl (fun _ => hlen))
  exact ⟨_, by simp only [newRow, Sem.run_bind, run_newObj, Result.andThen_ok, Sem.run_pure]; rfl, Phi.add_same _ _ _, this.1, this.2⟩

theorem pushF_some {h : AH} {o : Ob} {f : Nat → Value} {v : Value} {h' : AH} (hp : pushF h o f = some (v, h')) : h.next < LIM ∧ v = f h.next ∧ h' = h.push o := by
  unfold pushF at hp
  cases hb : Nat.blt h.next LIM with
  | false => rw [hb] at hp; cases hp
  | true =>
    rw [hb] at hp
    simp only [cond_true, Option.some.injEq, Prod.mk.injEq] at hp
    exact ⟨blt_lt hb, hp.1.symm, hp.2.symm⟩

theorem newVar_gives {P : Program} {B : Nat} {φ : Phi} {h h' : AH} {w : World} (E : Emb φ h B w) {z z' v : Value} (hz : LRel φ z.cells.toList z'.cells.toList) (t : TypeId) (hp : pushF h (cellsOb z.cells.toList t) ptrTo = some (v, h')) :
    HGives P B φ h w (do pure (.pointer (some (← newVar t z')))) v h' := by
  obtain ⟨hn, rfl, rfl⟩ := pushF_some hp
  obtain ⟨φ', h1, h2, h3, h4⟩ := newRow_gives (P := P) E hz t hn
  exact ⟨φ', _, _, by simp only [newVar, Sem.run_bind, h1, Result.andThen_ok, Sem.run_pure], .ptr _ _ 0 h2, h3, h4⟩

/-- A row of cells is there. -/
theorem readN_rel {φ : Phi} {h : AH} {B : Nat} {w : World} (E : Emb φ h B w) {a : Nat} {off : Nat} {e : FE} (he : φ a = some e) {n : Nat} {l : List Value} (hr : readN h ⟨a, off, none⟩ n = some l) :
    ∃ l', LRel φ l l' ∧ l.length = n ∧ (∀ (j : Nat) v', l'[j]? = some v' → w.cell? ⟨e.blk, off + j, none⟩ = some v') := by
  unfold readN at hr
  split at hr
  · rename_i cells t fam sl es c s p hob
    dsimp only at hob
    have hk : (h.get a).kind ≠ 0 := by rw [hob]; exact Nat.one_ne_zero
    obtain ⟨e2, he2, hrel⟩ := E.obj a (E.dom a e he) hk
    have : e2 = e := by rw [he] at he2; exact (Option.some.inj he2).symm
    subst this
    rw [hob] at hrel
    rcases hrel with ⟨_, ⟨cs, fr, q1, q2, q3, q4, q5⟩, _⟩ | ⟨x, _⟩ | ⟨x, _⟩ | ⟨x, _⟩
    · obtain ⟨h1, h2⟩ := takeN_eq hr
      rw [dropN_eq] at h1 h2
      dsimp only at h1 h2 q5 q4
      have hlen : l.length = n := by rw [h1, List.length_take]; omega
      have hdl : n ≤ cells.length - off := by simpa using h2
      refine ⟨(cs.toList.drop off).take n, ⟨?_, ?_⟩, hlen, ?_⟩
      · have : cells.length ≤ cs.size := by omega
        simp [hlen]; omega
      · intro i v v' a1 a2
        rw [h1] at a1
        rw [List.getElem?_take] at a1 a2
        split at a1
        · rename_i hi
          rw [if_pos hi] at a2
          rw [List.getElem?_drop] at a1 a2
          obtain ⟨v2, b1, b2⟩ := q5 _ _ a1
          have : cs.toList[off + i]? = cs[off + i]? := by simp
          rw [this, b1] at a2
          cases a2
          exact b2
        · cases a1
      · intro j v' hj
        rw [List.getElem?_take] at hj
        split at hj
        · rw [List.getElem?_drop] at hj
          simp only [World.cell?, q1]
          simpa using hj
        · cases hj
    · cases x
    · cases x
    · cases x
  · rename_i cells t fam sl es c s p hob
    dsimp only at hob
    have hk : (h.get a).kind ≠ 0 := by rw [hob]; exact Nat.succ_ne_zero _
    obtain ⟨e2, he2, hrel⟩ := E.obj a (E.dom a e he) hk
    have : e2 = e := by rw [he] at he2; exact (Option.some.inj he2).symm
    subst this
    rw [hob] at hrel
    rcases hrel with ⟨x, _⟩ | ⟨x, _⟩ | ⟨x, _⟩ | ⟨_, _, cs, t', fr, q1, q5⟩
    · cases x
    · cases x
    · cases x
    · dsimp only at q5
      unfold known at hr
      split at hr
      · rename_i l1 hl1
        cases hj : l1.any isJ with
        | true => rw [hj] at hr; cases hr
        | false =>
          rw [hj] at hr
          simp only [cond_false, Option.some.injEq] at hr
          subst hr
          obtain ⟨h1, h2⟩ := takeN_eq hl1
          rw [dropN_eq] at h1 h2
          have hlen : l1.length = n := by rw [h1, List.length_take]; omega
          have key : ∀ (i : Nat) v, l1[i]? = some v → ∃ v', cs[off + i]? = some v' ∧ VRel φ v v' := by
            intro i v hi
            have hm := List.mem_of_getElem? hi
            rw [List.any_eq_false] at hj
            have hnj := hj v hm
            rw [h1, List.getElem?_take] at hi
            split at hi
            · rw [List.getElem?_drop] at hi
              rcases q5 _ _ hi with q | q
              · exact absurd q hnj
              · exact q
            · cases hi
          have hsz : n = 0 ∨ off + n ≤ cs.size := by
            by_cases c0 : n = 0
            · exact .inl c0
            · have hlt : n - 1 < l1.length := by omega
              obtain ⟨v', b1, _⟩ := key (n - 1) l1[n - 1] (List.getElem?_eq_getElem hlt)
              have := (Array.getElem?_eq_some_iff.1 b1).1
              exact .inr (by omega)
          refine ⟨(cs.toList.drop off).take n, ⟨?_, ?_⟩, hlen, ?_⟩
          · simp [hlen]; omega
          · intro i v v' a1 a2
            obtain ⟨v2, b1, b2⟩ := key i v a1
            rw [List.getElem?_take] at a2
            split at a2
            · rw [List.getElem?_drop] at a2
              have : cs.toList[off + i]? = cs[off + i]? := by simp
              rw [this, b1] at a2
              cases a2
              exact b2
            · cases a2
          · intro j v' hj
            rw [List.getElem?_take] at hj
            split at hj
            · rw [List.getElem?_drop] at hj
              simp only [World.cell?, q1]
              simpa using hj
            · cases hj
      · cases hr
  · cases hr

theorem loadF_gives {P : Program} {B : Nat} {φ : Phi} {h : AH} {w : World} (E : Emb φ h B w) {n : Option Nat} {x x' v : Value} (hx : VRel φ x x') (hl : loadF n h x = some v) {t : TypeId} (ht : aggOf P t = some n) :
    ∃ v', VRel φ v v' ∧ (do loadVar t (← Instr.sureAddr x') : Sem Value).run P w = .ok v' w := by
  unfold loadF at hl
  split at hl
  · rename_i a
    cases hx with
    | ptr a e off hφ =>
      split at hl
      · rename_i m
        simp only [Option.map_eq_some_iff] at hl
        obtain ⟨l, hr, rfl⟩ := hl
        obtain ⟨l', h1, h2, h3⟩ := readN_rel E hφ hr
        refine ⟨.agg l'.toArray, LRel.agg (by simpa using h1), ?_⟩
        have hlen : l'.length = m := by rw [← h1.1]; exact h2
        have hload := run_loadCells_list (P := P) w ⟨e.blk, off, none⟩ l' (fun j v hj => by rw [add_none]; exact h3 j v hj)
        rw [hlen] at hload
        unfold aggOf at ht
        split at ht
        · rename_i fs hu
          simp only [Option.map_eq_some_iff, Option.some.injEq] at ht
          obtain ⟨i, hi, rfl⟩ := ht
          simp [Instr.sureAddr, loadVar, isAgg, run_underlying hu, run_sizeOf' hi, hload]
        · rename_i k el hu
          simp only [Option.map_eq_some_iff, Option.some.injEq] at ht
          obtain ⟨i, hi, rfl⟩ := ht
          simp [Instr.sureAddr, loadVar, isAgg, run_underlying hu, run_sizeOf' hi, hload]
        · cases ht
        · cases ht
      · split at hl
        · rename_i v0 hr
          simp only [Option.some.injEq] at hl
          subst hl
          obtain ⟨l', h1, h2, h3⟩ := readN_rel E hφ hr
          obtain ⟨v', l'', rfl, hv, _⟩ := h1.cons_inv
          have hc := h3 0 v' rfl
          refine ⟨v', hv, ?_⟩
          have hagg : (isAgg t).run P w = .ok false w := by
            unfold aggOf at ht
            split at ht
            · simp at ht
            · simp at ht
            · rename_i d d1 d2 hu
              simp only [isAgg, Sem.run_bind, run_underlying hu, Result.andThen_ok]
              cases d <;> first | rfl | (exact absurd rfl (d1 _)) | (exact absurd rfl (d2 _ _))
            · cases ht
          simp only [Nat.add_zero] at hc
          simp [Instr.sureAddr, loadVar, hagg, hc]
        · cases hl
  · cases hl

theorem writeF_gives {P : Program} {B : Nat} {φ : Phi} {h h' : AH} {w : World} (E : Emb φ h B w) {a off : Nat} {e : FE} (he : φ a = some e) {vs vs' : List Value} (hv : LRel φ vs vs') (h1 : ∀ v ∈ vs', v.oneCell' = true)
    (hw : writeF h ⟨a, off, none⟩ vs = some h') :
    (storeCells ⟨e.blk, off, none⟩ vs').run P w = .ok () (w.setCells e.blk off vs') ∧ Emb φ h' B (w.setCells e.blk off vs') ∧ Ext B φ h w φ h' (w.setCells e.blk off vs') := by
  unfold writeF at hw
  split at hw
  · rename_i cells t fam sl es c s p hob
    dsimp only at hob hw
    cases hb : (Nat.ble (off + lenN vs) (lenN cells) && Nat.blt a h.next) with
    | false => rw [hb] at hw; cases hw
    | true =>
      rw [hb] at hw
      simp only [Bool.and_eq_true] at hb
      have hfit : off + vs.length ≤ cells.length := by have := ble_le hb.1; rwa [lenN_eq, lenN_eq] at this
      have hlt := blt_lt hb.2
      have hk : (h.get a).kind ≠ 0 := by rw [hob]; exact Nat.one_ne_zero
      have hst : (storeCells ⟨e.blk, off, none⟩ vs').run P w = .ok () (w.setCells e.blk off vs') := by
        obtain ⟨e2, he2, hrel⟩ := E.obj a hlt hk
        have : e2 = e := by rw [he] at he2; exact (Option.some.inj he2).symm
        subst this
        rw [hob] at hrel
        rcases hrel with ⟨_, ⟨cs, fr, q1, q2, q3, q4, q5⟩, _⟩ | ⟨x, _⟩ | ⟨x, _⟩ | ⟨x, _⟩
        · dsimp only at q4
          have hl := hv.1
          have := run_storeCells_cells (P := P) e2.blk off vs' 0 w (fun j hj => by
              simp only [World.cell?, q1, Nat.add_zero]
              simp [show off + j < cs.size by omega]) (fun j hj => by
              simp only [World.frozen?, q1, Nat.add_zero]
              rw [Bool.and_eq_false_iff, decide_eq_false_iff_not, decide_eq_false_iff_not]
              by_cases c1 : fr.1 ≤ off + j
              · exact .inr (fun c2 => by have := q3 _ c1 c2; omega)
              · exact .inl c1) h1
          simpa using this
        · cases x
        · cases x
        · cases x
      refine ⟨hst, ?_⟩
      cases sl with
      | false =>
        simp only [cond_true, cond_false, Option.some.injEq] at hw
        subst hw
        refine emb_write E hlt he hob rfl hfit hv (fun j ej hne hj hkj hbk => ?_) _ rfl
        have := (E.apart a j e ej he hj hk hkj (fun x => hne x.symm) hbk.symm).1
        rw [hob] at this
        cases this
      | true =>
        simp only [cond_true, Option.some.injEq] at hw
        subst hw
        have hfam := Nat.lt_of_le_of_lt (E.fam a hlt hk (by rw [hob])).1 (Nat.lt_of_lt_of_le hlt E.lim)
        rw [hob] at hfam
        obtain ⟨E2, L, hsh⟩ := killF_emb E fam a off hfam
        have hlt2 : a < (killF h fam a off).next := by rw [L.next]; exact hlt
        have X1 : Ext B φ h w φ (killF h fam a off) w := L.ext E.lim
        have a32 : a < LIM := Nat.lt_of_lt_of_le hlt E.lim
        rcases L.get a a32 with ha | ha
        · have hob2 : (killF h fam a off).get a = ⟨1, cells, t, fam, true, es, c, s, p⟩ := ha.trans hob
          obtain ⟨E3, X3⟩ := emb_write E2 hlt2 he hob2 rfl hfit hv (fun j ej hne hj hkj hbk => by
            have lj := E.dom j ej hj
            obtain ⟨g1, g2⟩ := hsh j lj hkj
            rw [g1] at hkj ⊢
            obtain ⟨b1, b2, b3⟩ := E.apart a j e ej he hj hk hkj (fun x => hne x.symm) hbk.symm
            rw [hob] at b3
            exact ⟨g2 b2 b3.symm hne, b2⟩) _ rfl
          exact ⟨E3, X1.trans X3⟩
        · -- the block itself is never killed
          exfalso
          have hd : T5.get (killF h fam a off).tr a = T5.get h.tr a := by
            have : ∀ (ms : List (Nat × Nat)) (h0 : AH), T5.get (killGo a off ms h0).tr a = T5.get h0.tr a := by
              intro ms
              induction ms with
              | nil => intro h0; rfl
              | cons x ms ih =>
                intro h0
                obtain ⟨i, n⟩ := x
                rw [killGo]
                cases hq : (Nat.blt off n && !Nat.beq i a) with
                | false => rw [cond_false]; exact ih h0
                | true =>
                  rw [cond_true, ih]
                  simp only [Bool.and_eq_true, Bool.not_eq_true'] at hq
                  have hne := beq_ne hq.2
                  rw [show (h0.set i dead).tr = T5.set h0.tr i dead from rfl, T5.get_set' _ _ _ _, if_neg hne]
            exact this _ h
          have hob3 : (killF h fam a off).get a = h.get a := by
            rw [AH.get_eq, AH.get_eq, L.hid, hd]
          rw [hob3] at ha
          rw [ha] at hk
          exact hk rfl
  · cases hw

theorem storeF_gives {P : Program} {B : Nat} {φ : Phi} {h h' : AH} {w : World} (E : Emb φ h B w) {x v x' v' : Value} (hx : VRel φ x x') (hv : VRel φ v v') {t : TypeId} {i : TypeInfo} (hi : P.info? t = some i) (hs : storeF i.size h x v = some h') :
    UGives P B φ h w (Instr.storeAt t x' v') h' := by
  unfold storeF at hs
  split at hs
  · cases hx with
    | ptr a e off hφ =>
      cases hb : (Nat.beq (lenN (cellsOf v)) i.size && (cellsOf v).all cellV) with
      | false => rw [hb] at hs; cases hs
      | true =>
        rw [hb] at hs
        simp only [cond_true] at hs
        simp only [Bool.and_eq_true] at hb
        rw [cellsOf_eq] at hb hs
        have hc := cells_rel hv
        have hsz : v'.cells.size = i.size := by
          have h1 := hc.1
          have h2 := beq_eq hb.1
          rw [lenN_eq] at h2
          simp at h1 h2
          omega
        obtain ⟨g1, g2, g3⟩ := writeF_gives (P := P) E hφ hc (oneCells_rel hc hb.2) hs
        exact ⟨φ, _, by simp [Instr.storeAt, Instr.sureAddr, storeVar, run_sizeOf' hi, hsz, g1], g2, g3⟩
  · cases hs

/-! ### Rows of equal cells -/
theorem repeatN_length (z : List Value) : ∀ n, (repeatN z n).length = n * z.length
  | 0 => by simp [repeatN]
  | n + 1 => by simp [repeatN, repeatN_length z n, Nat.succ_mul, Nat.add_comm]
theorem repeatN_get (z : List Value) (hz : 0 < z.length) : ∀ (n k : Nat), k < n * z.length → (repeatN z n)[k]? = z[k % z.length]?
  | 0, k, h => by omega
  | n + 1, k, h => by
    simp only [repeatN]
    rw [List.getElem?_append]
    split
    · rename_i hk; rw [Nat.mod_eq_of_lt hk]
    · rename_i hk
      rw [repeatN_get z hz n (k - z.length) (by rw [Nat.succ_mul] at h; omega)]
      congr 1
      rw [Nat.mod_eq_sub_mod (by omega : k ≥ z.length)]
theorem range_repeat (z : Array Value) (hz : 0 < z.size) (n : Nat) : ((Array.range (n * z.size)).map fun i => z[i % z.size]!) = (repeatN z.toList n).toArray := by
  apply Array.ext
  · simp [repeatN_length]
  · intro i h1 h2
    have hi : i < n * z.size := by simpa using h1
    have hm : i % z.size < z.size := Nat.mod_lt _ hz
    have := repeatN_get z.toList (by simpa using hz) n i (by simpa using hi)
    simp only [Array.length_toList] at this
    simp only [Array.getElem_map, Array.getElem_range, List.getElem_toArray]
    rw [List.getElem?_eq_getElem (by simpa [repeatN_length] using hi)] at this
    rw [List.getElem?_eq_getElem (by simpa using hm)] at this
    simp only [Option.some.injEq] at this
    rw [this]
    simp [hm]
theorem repeatN_rel {φ : Phi} {z z' : List Value} (h : LRel φ z z') : ∀ n, LRel φ (repeatN z n) (repeatN z' n)
  | 0 => LRel.nil
  | n + 1 => h.append (repeatN_rel h n)

theorem zeroOf_some {P : Program} {t : TypeId} {sz bytes : Nat} {z : Array Value} (h : zeroOf P t = some (sz, bytes, z)) :
    ∃ i zv, P.info? t = some i ∧ i.zero = some zv ∧ i.size = sz ∧ i.bytes = bytes ∧ zv.cells = z ∧ z.size = sz ∧ 0 < sz ∧ (∀ φ, LRel φ z.toList z.toList) := by
  unfold zeroOf at h
  split at h
  · rename_i i hi
    split at h
    · rename_i zv hz
      cases hb : (plainC zv && Nat.beq zv.cells.size i.size && Nat.blt 0 i.size) with
      | false => rw [hb] at h; cases h
      | true =>
        rw [hb] at h
        simp only [cond_true, Option.some.injEq, Prod.mk.injEq] at h
        simp only [Bool.and_eq_true] at hb
        obtain ⟨h1, h2, h3⟩ := h
        subst h3
        exact ⟨i, zv, hi, hz, h1, h2, rfl, by rw [← h1]; exact beq_eq hb.1.2, by rw [← h1]; exact blt_lt hb.2, fun φ => plainC_cells hb.1.1⟩
    · cases h
  · cases h

theorem bsliceF_gives {P : Program} {B : Nat} {φ : Phi} {h h' : AH} {w : World} (E : Emb φ h B w) {el : TypeId} {sz bytes : Nat} {z : Array Value} (hz : zeroOf P el = some (sz, bytes, z)) {len : Nat} (hlen : len * sz ≤ 16777216)
    {l l' : List (Nat × Value)} (hl : PRel φ l l') {v : Value} (hb : bsliceF el sz len (repeatN z.toList len).toArray h l = some (v, h')) {t : TypeId} (ht : P.underlying t = some (.slice el)) :
    HGives P B φ h w (Instr.buildSlice t len l'.toArray) v h' := by
  obtain ⟨i, zv, hi, hzv, h1, h2, h3, h4, h5, h6⟩ := zeroOf_some hz
  unfold bsliceF at hb
  split at hb
  · rename_i cs hcs
    obtain ⟨hn, rfl, rfl⟩ := pushF_some hb
    obtain ⟨cs', hcs', hrel⟩ := fill_rel (φ := φ) _ hl (by simpa using repeatN_rel (h6 φ) len) hcs
    obtain ⟨φ', g1, g2, g3, g4⟩ := newRow_gives (P := P) E hrel el hn
    have hr : (Array.range (len * sz)).map (fun x => (if len * sz = 0 then #[] else z)[x % (if len * sz = 0 then (#[] : Array Value) else z).size]!) = (repeatN z.toList len).toArray := by
      by_cases c : len * sz = 0
      · have : len = 0 := by
          rcases Nat.mul_eq_zero.1 c with x | x
          · exact x
          · omega
        subst this
        simp [repeatN]
      · simp only [if_neg c]
        rw [← h4]
        exact range_repeat z (by omega) len
    refine ⟨φ', .slice (some ⟨w.heap.size, 0, none⟩) len len, _, ?_, .slc _ _ 0 len len g2 ?_ (Nat.le_refl _), g3, g4⟩
    · simp only [Instr.buildSlice, Sem.run_bind, run_underlying ht, Result.andThen_ok, run_sizeOf' hi, h1]
      rw [if_neg (by omega)]
      by_cases c : len * sz = 0
      · rw [if_pos c]
        simp only [if_pos c] at hr
        simp only [Sem.run_bind, Sem.run_pure, Result.andThen_ok, hr, hcs', g1]
      · rw [if_neg c]
        simp only [if_neg c] at hr
        simp only [Sem.run_bind, run_zeroValue hi hzv, Result.andThen_ok, Sem.run_pure, h3, hr, hcs', g1]
    · have : len * 1 ≤ len * sz := Nat.mul_le_mul_left _ h5
      unfold OPEN; omega
  · cases hb

theorem mksliceF_gives {P : Program} {B : Nat} {φ : Phi} {h h' : AH} {w : World} (E : Emb φ h B w) {el : TypeId} {sz bytes : Nat} {z : Array Value} (hz : zeroOf P el = some (sz, bytes, z)) {l c l' c' v : Value} (hl : VRel φ l l') (hc : VRel φ c c')
    (hb : mksliceF el bytes z.toList h l c = some (v, h')) {t : TypeId} (ht : P.underlying t = some (.slice el)) :
    HGives P B φ h w (Instr.makeSlice t l' c') v h' := by
  obtain ⟨i, zv, hi, hzv, h1, h2, h3, h4, h5, h6⟩ := zeroOf_some hz
  unfold mksliceF at hb
  split at hb
  · rename_i nl nc e1 e2
    cases hq : (Nat.ble nl nc && Nat.ble (nc * Nat.succ bytes) 1073741824) with
    | false => rw [hq] at hb; cases hb
    | true =>
      rw [hq] at hb
      simp only [cond_true] at hb
      simp only [Bool.and_eq_true] at hq
      obtain ⟨hn, rfl, rfl⟩ := pushF_some hb
      obtain ⟨k1, rfl⟩ := asNat_int e1
      obtain ⟨k2, rfl⟩ := asNat_int e2
      have := hl.int_inv
      subst this
      have := hc.int_inv
      subst this
      have hle := ble_le hq.1
      have hbd := ble_le hq.2
      have hbd2 : nc * bytes + nc ≤ 1073741824 := by rw [Nat.mul_succ] at hbd; exact hbd
      have hrep := repeatN_rel (h6 φ) nc
      obtain ⟨φ', g1, g2, g3, g4⟩ := newRow_gives (P := P) (c := (repeatN z.toList nc).toArray) E (by simpa using hrep) el hn
      refine ⟨φ', .slice (some ⟨w.heap.size, 0, none⟩) nl nc, _, ?_, .slc _ _ 0 nl nc g2 (by unfold OPEN; omega) hle, g3, g4⟩
      have w1 : IntKind.i64.wrap (nl : Int) = nl := wrap_i64 _ (by omega) (by omega)
      have w2 : IntKind.i64.wrap (nc : Int) = nc := wrap_i64 _ (by omega) (by omega)
      have hti : (typeInfo el).run P w = .ok i w := by simp [typeInfo, hi]
      have hbyt : ((bytes : Int) * (nc : Int)) = ((nc * bytes : Nat) : Int) := by rw [Int.natCast_mul, Int.mul_comm]
      have t1 : (decide ((nc : Int) < 0) || decide ((bytes : Int) * (nc : Int) > 2 ^ 48) || decide ((nl : Int) < 0) || decide ((nl : Int) > (nc : Int))) = false := by
        have p : (2 : Int) ^ 48 = 281474976710656 := by decide
        rw [hbyt, p]
        simp only [Bool.or_eq_false_iff, decide_eq_false_iff_not]
        refine ⟨⟨⟨by omega, by omega⟩, by omega⟩, by omega⟩
      have hr : (Array.range (nc * sz)).map (fun x => (if nc * sz = 0 then #[] else z)[x % (if nc * sz = 0 then (#[] : Array Value) else z).size]!) = (repeatN z.toList nc).toArray := by
        by_cases c : nc * sz = 0
        · have : nc = 0 := by
            rcases Nat.mul_eq_zero.1 c with x | x
            · exact x
            · omega
          subst this
          simp [repeatN]
        · simp only [if_neg c]
          rw [← h4]
          exact range_repeat z (by omega) nc
      simp only [Instr.makeSlice, Sem.run_bind, run_underlying ht, Result.andThen_ok, asInt, asIntOf, Sem.run_pure, hti, w1, w2, h2]
      simp only [Bool.or_assoc] at t1 ⊢
      simp only [t1, Bool.false_eq_true, if_false, Sem.run_bind, run_askRoom, Result.andThen_ok, run_sizeOf' hi, h1, Int.toNat_natCast]
      by_cases c : nc * sz = 0
      · rw [if_pos c]
        simp only [if_pos c] at hr
        simp only [Sem.run_bind, Sem.run_pure, Result.andThen_ok, hr, g1]
      · rw [if_neg c]
        simp only [if_neg c] at hr
        simp only [Sem.run_bind, run_zeroValue hi hzv, Result.andThen_ok, Sem.run_pure, h3, hr, g1]
  · cases hb
end Go.Ds
