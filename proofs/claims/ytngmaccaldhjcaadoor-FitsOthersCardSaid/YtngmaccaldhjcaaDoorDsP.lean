import Derived.Test.YtngmaccaldhjcaaDoorDsO
set_option linter.all false
set_option linter.unusedSimpArgs false
set_option linter.unnecessarySimpa false
set_option linter.unusedVariables false
set_option linter.unusedSectionVars false
set_option linter.unusedSectionVars false
set_option linter.unusedVariables false
namespace Go.Ds
variable [Inhabited Bound]

theorem findE_at {key : Nat} {k : Value} (hk : keyOk key k = true) : ∀ {es : List MapEntry} {i j : Nat} {v : Value}, findE key k es i = some (some (j, v)) → ∃ m e, j = i + m ∧ es[m]? = some e ∧ e.key = k
  | [], i, j, v, h => by simp [findE] at h
  | e :: es, i, j, v, h => by
    simp only [findE] at h
    cases hq : keyEq key k e.key with
    | none => rw [hq] at h; cases h
    | some b =>
      rw [hq] at h
      cases b with
      | true =>
        simp only [Option.some.injEq, Prod.mk.injEq] at h
        exact ⟨0, e, h.1.symm, rfl, (keyEq_true hq hk).symm⟩
      | false =>
        obtain ⟨m, e', h1, h2, h3⟩ := findE_at hk h
        exact ⟨m + 1, e', by omega, by simpa using h2, h3⟩

theorem setE_eq (k v : Value) : ∀ (l : List MapEntry) (i : Nat), setE k v l i = l.modify i fun e => { e with key := k, val := v }
  | [], i => by cases i <;> rfl
  | e :: l, 0 => rfl
  | e :: l, i + 1 => by simp only [setE, setE_eq k v l i, List.modify_succ_cons]

theorem setE_rel {φ : Phi} {k v k' v' : Value} (hk : VRel φ k k') (hv : VRel φ v v') : ∀ {l l' : List MapEntry} (i : Nat), EsRel φ l l' → EsRel φ (l.modify i fun e => { e with key := k, val := v }) (l'.modify i fun e => { e with key := k', val := v' }) := by
  intro l l' i h
  refine ⟨by simp [h.1], fun j a a' h1 h2 => ?_⟩
  rw [List.getElem?_modify] at h1 h2
  have hlen := h.1
  cases hj : l[j]? with
  | none => rw [hj] at h1; simp at h1
  | some x =>
    cases hj' : l'[j]? with
    | none => rw [hj'] at h2; simp at h2
    | some x' =>
      rw [hj] at h1; rw [hj'] at h2
      have := h.2 j x x' hj hj'
      simp only [Option.map_eq_map, Option.map_some, Option.some.injEq] at h1 h2
      subst h1; subst h2
      by_cases hc : i = j
      · simp only [if_pos hc]; exact ⟨hk, hv, this.born⟩
      · simp only [if_neg hc]; exact this

theorem sameInts_self : ∀ (l : List Value), allInts l = true → ∀ m, ((l.zip l).all fun (x, y) => Instr.sameBits (m + 1) x y) = true
  | [], _, _ => rfl
  | x :: l, h, m => by
    simp only [allInts] at h
    split at h
    · simp only [List.zip_cons_cons, List.all_cons, sameInts_self l h m, Bool.and_true]
      simp [Instr.sameBits]
    · cases h

theorem keyOk_same {key : Nat} {k : Value} (h : keyOk key k = true) : Instr.sameBits 10000 k k = true := by
  rw [show (10000 : Nat) = 9998 + 1 + 1 from rfl]
  unfold keyOk at h
  split at h
  · split at h
    · simp [Instr.sameBits]
    · cases h
  · split at h
    · simp [Instr.sameBits, MapKept.bytes_beq]
    · cases h
  · split at h
    · simp only [Bool.and_eq_true] at h
      unfold Instr.sameBits
      simp only [beq_self_eq_true, Bool.true_and]
      exact sameInts_self _ h.2 9998
    · cases h

theorem EsRel.push {φ : Phi} {l l' : List MapEntry} (h : EsRel φ l l') {x x' : MapEntry} (hx : MERel φ x x') : EsRel φ (l ++ [x]) (l' ++ [x']) := by
  refine ⟨by simp [h.1], fun j a a' h1 h2 => ?_⟩
  have hlen := h.1
  by_cases hj : j < l.length
  · rw [List.getElem?_append_left hj] at h1
    rw [List.getElem?_append_left (by omega)] at h2
    exact h.2 j a a' h1 h2
  · rw [List.getElem?_append_right (by omega)] at h1 h2
    rw [← hlen] at h2
    cases hz : j - l.length with
    | zero => rw [hz] at h1 h2; simp at h1 h2; subst h1; subst h2; exact hx
    | succ n => rw [hz] at h1; simp at h1

theorem updF_gives {P : Program} {B : Nat} {φ : Phi} {h h' : AH} {w : World} (E : Emb φ h B w) {m k m' k' v v' : Value} (hm : VRel φ m m') (hk : VRel φ k k') (hv : VRel φ v v') {t kt et : TypeId} (ht : P.underlying t = some (.map kt et)) {key : Nat} (hkt : keyOf P kt = some key)
    (hl : updF key h m k v = some h') : UGives P B φ h w (Instr.mapUpdate t m' k' v') h' := by
  unfold updF at hl
  split at hl
  · rename_i r
    split at hl
    · rename_i cells0 t0 fam0 sl0 es c st p hob
      cases hn : Nat.blt r h.next with
      | false => rw [hn] at hl; cases hl
      | true =>
        rw [hn] at hl
        simp only [cond_true] at hl
        cases hko : keyOk key k with
        | false => rw [hko] at hl; cases hl
        | true =>
          rw [hko] at hl
          simp only [cond_true] at hl
          have hkk := keyOk_rel hk hko
          subst hkk
          have hes : entsF h (.map (some r)) = some es := by simp only [entsF, hob]
          rcases entsF_rel E hm hes with ⟨x, _⟩ | ⟨r0, e, es', c0, hr0, hφ, rfl, hw, hrel, hkind, hsl, _, hc⟩
          · cases x
          · cases hr0
            have hcc : c = c0 := by rw [hob] at hc; exact hc
            subst hcc
            have hki : (h.get r).kind ≠ 0 := by rw [hkind]; decide
            have hrun : ∀ (o : Obj), (setObj e.blk o).run P w = .ok () { w with heap := w.heap.setIfInBounds e.blk o } := fun o => MapKept.run_setObj_map o hw
            have hset : ∀ (o : Obj), ({ w with heap := w.heap.setIfInBounds e.blk o } : World).heap[e.blk]? = some o := fun o => (MapKept.heap_set hw).1
            have hoth : ∀ (o : Obj) k, k ≠ e.blk → ({ w with heap := w.heap.setIfInBounds e.blk o } : World).heap[k]? = w.heap[k]? := fun o k hk => (MapKept.heap_set hw).2 k hk
            have fin : ∀ (l : List MapEntry) (l' : Array MapEntry) (c' : Nat), EsRel φ l l'.toList → h' = h.set r (mapOb l c') → (Instr.mapUpdate t (.map (some e.blk)) k' v').run P w = .ok () { w with heap := w.heap.setIfInBounds e.blk (.map l' c') } → UGives P B φ h w (Instr.mapUpdate t (.map (some e.blk)) k' v') h' := by
              intro l l' c' h1 h2 h3
              subst h2
              have := emb_replace E (blt_lt hn) hφ hki hsl (mapOb l c') rfl (w' := { w with heap := w.heap.setIfInBounds e.blk (.map l' c') }) (.inr (.inl ⟨rfl, rfl, l', hset _, h1⟩)) (fun k hk => hoth _ k hk) (by simp) rfl rfl rfl
              exact ⟨φ, _, h3, this.1, this.2⟩
            cases hf : findE key k' es 0 with
            | none => rw [hf] at hl; cases hl
            | some x =>
              rw [hf] at hl
              obtain ⟨x', h1, h2⟩ := find_run (w := w) hkt hrel hf hko
              cases x with
              | none =>
                cases x' with
                | some y => exact h2.elim
                | none =>
                  simp only [Option.some.injEq] at hl
                  refine fin (es ++ [{ key := k', val := v, born := c }]) (es'.push { key := k', val := v', born := c }) (c + 1) ?_ hl.symm ?_
                  · rw [Array.toList_push]; exact hrel.push ⟨hk, hv, rfl⟩
                  · simp only [Instr.mapUpdate, Sem.run_bind, run_underlying ht, Result.andThen_ok, MapKept.run_getObj_map hw, run_checkKey_ok hkt hko false, h1, hrun]
              | some y =>
                obtain ⟨j, u⟩ := y
                cases x' with
                | none => exact h2.elim
                | some y' =>
                  obtain ⟨j', u'⟩ := y'
                  obtain ⟨rfl, hu⟩ := h2
                  simp only [Option.some.injEq] at hl
                  obtain ⟨m0, e0, hj, he0, hek⟩ := findE_at hko hf
                  rw [Nat.zero_add] at hj
                  subst hj
                  have hget : ∃ e1, es'[j]? = some e1 ∧ e1.key = k' := by
                    have hlt := (List.getElem?_eq_some_iff.1 he0).1
                    have hlen := hrel.1
                    have hlt' : j < es'.toList.length := by omega
                    refine ⟨es'[j]'(by simpa using hlt'), by simp [show j < es'.size by simpa using hlt'], ?_⟩
                    have := (hrel.2 j e0 (es'[j]'(by simpa using hlt')) he0 (by simp [show j < es'.size by simpa using hlt'])).key
                    rw [hek] at this
                    exact keyOk_rel this hko
                  obtain ⟨e1, he1, hk1⟩ := hget
                  refine fin (setE k' v es j) (es'.modify j fun e => { e with key := k', val := v' }) c ?_ hl.symm ?_
                  · rw [setE_eq, Array.toList_modify]; exact setE_rel hk hv j hrel
                  · have hst : (Instr.keyThatStays k' k').run P w = .ok k' w := by simp [Instr.keyThatStays, keyOk_same hko]
                    simp only [Instr.mapUpdate, Sem.run_bind, run_underlying ht, Result.andThen_ok, MapKept.run_getObj_map hw, run_checkKey_ok hkt hko false, h1, he1, Option.map_some, Option.getD_some, hk1, hst, hrun]
    · cases hl
  · cases hl

theorem mkmap_gives {P : Program} {B : Nat} {φ : Phi} {h h' : AH} {w : World} (E : Emb φ h B w) {v : Value} (t : TypeId) (hp : pushF h (mapOb [] 0) (fun id => .map (some id)) = some (v, h')) : HGives P B φ h w (Instr.makeMap t none) v h' := by
  obtain ⟨hn, rfl, rfl⟩ := pushF_some hp
  obtain ⟨E2, X2⟩ := emb_push_plain E hn (mapOb [] 0) (.map #[] 0) 0 rfl (.inr (.inl ⟨rfl, rfl, #[], heap_alloc_new w _, ⟨rfl, fun i v v' a => by cases i <;> cases a⟩⟩))
  exact ⟨_, .map (some w.heap.size), _, by simp [Instr.makeMap], .map _ _ (Phi.add_same _ _ _), E2, X2⟩

theorem lenMF_gives {P : Program} {B : Nat} {φ : Phi} {h : AH} {w : World} (E : Emb φ h B w) {m m' v : Value} (hm : VRel φ m m') {t kt et : TypeId} (ht : P.underlying t = some (.map kt et)) (ty : TypeId) (hl : lenMF h m = some v) {ts : Array TypeId} (h0 : ts[0]? = some t) :
    ∃ v', VRel φ v v' ∧ (Builtin.len_ ts ty #[m']).run P w = .ok v' w := by
  unfold lenMF at hl
  cases hes : entsF h m with
  | none => rw [hes] at hl; cases hl
  | some es =>
    rw [hes] at hl
    simp only [Option.some.injEq] at hl
    subst hl
    rcases entsF_rel E hm hes with ⟨rfl, rfl, rfl⟩ | ⟨r, e, es', c, rfl, hφ, rfl, hw, hrel, _⟩
    · exact ⟨_, .int _ _, by simp only [Builtin.len_, h0, List.getElem?_toArray, List.getElem?_cons_zero, Sem.run_bind, run_underlying ht, Result.andThen_ok, Sem.run_pure]; rfl⟩
    · refine ⟨_, .int _ _, ?_⟩
      simp only [Builtin.len_, h0, List.getElem?_toArray, List.getElem?_cons_zero, Sem.run_bind, run_underlying ht, Result.andThen_ok, Sem.run_pure, MapKept.run_getObj_map hw]
      have := hrel.1
      rw [lenN_eq, this]
      simp [goInt]

theorem rangeSF_gives {P : Program} {B : Nat} {φ : Phi} {h h' : AH} {w : World} (E : Emb φ h B w) {x x' v : Value} (hx : VRel φ x x') {t : TypeId} (ht : P.underlying t = some .string) (hl : rangeSF h x = some (v, h')) : HGives P B φ h w (Instr.range t x') v h' := by
  unfold rangeSF at hl
  split at hl
  · rename_i s
    cases hx
    obtain ⟨hn, rfl, rfl⟩ := pushF_some hl
    obtain ⟨E2, X2⟩ := emb_push_plain E hn (iterOb s 0) (.stringIter s 0) 0 rfl (.inr (.inr (.inl ⟨rfl, rfl, heap_alloc_new w _⟩)))
    refine ⟨_, .pointer (some ⟨w.heap.size, 0, none⟩), _, ?_, .ptr _ _ 0 (Phi.add_same _ _ _), E2, X2⟩
    simp only [Instr.range, Sem.run_bind, run_underlying ht, Result.andThen_ok, Sem.run_pure, run_newObj]
    rfl
  · cases hl

theorem nextF_gives {P : Program} {B : Nat} {φ : Phi} {h h' : AH} {w : World} (E : Emb φ h B w) {x x' v : Value} (hx : VRel φ x x') (ty : TypeId) (hl : nextF h x = some (v, h')) : HGives P B φ h w (Instr.next x' true ty) v h' := by
  unfold nextF at hl
  split at hl
  · rename_i r
    split at hl
    · rename_i cells0 t0 fam0 sl0 es c s pos hob
      cases hn : Nat.blt r h.next with
      | false => rw [hn] at hl; cases hl
      | true =>
        rw [hn] at hl
        simp only [cond_true] at hl
        cases hx with
        | ptr _ e _ hφ =>
          have hk : (h.get r).kind ≠ 0 := by rw [hob]; exact (by decide : (3 : Nat) ≠ 0)
          obtain ⟨e2, he2, hrel⟩ := E.obj r (E.dom r e hφ) hk
          have : e2 = e := by rw [hφ] at he2; exact (Option.some.inj he2).symm
          subst this
          rw [hob] at hrel
          rcases hrel with ⟨x, _⟩ | ⟨x, _⟩ | ⟨_, hsl, hb⟩ | ⟨x, _⟩
          · cases x
          · cases x
          · have hget : (getObj e2.blk).run P w = .ok (.stringIter s pos) w := by simp [getObj, Sem.run, hb]
            cases hp : Nat.blt pos s.size with
            | false =>
              rw [hp] at hl
              simp only [cond_false, Option.some.injEq, Prod.mk.injEq] at hl
              obtain ⟨rfl, rfl⟩ := hl
              have hp' : ¬ pos < s.size := by
                intro hc
                have : Nat.blt pos s.size = true := by simpa [Nat.blt_eq] using hc
                rw [hp] at this; cases this
              refine ⟨φ, .tuple #[.bool false], w, ?_, LRel.tuple (LRel.cons (.bool _) LRel.nil), E, Ext.refl _ _ _ _⟩
              simp only [Instr.next, Sem.run_bind, hget, Result.andThen_ok, if_neg hp', Sem.run_pure]
            | true =>
              rw [hp] at hl
              simp only [cond_true, Option.some.injEq, Prod.mk.injEq] at hl
              obtain ⟨rfl, rfl⟩ := hl
              have hp' := blt_lt hp
              have hset : (setObj e2.blk (.stringIter s (pos + (Utf8.decode s pos).2))).run P w = .ok () { w with heap := w.heap.setIfInBounds e2.blk (.stringIter s (pos + (Utf8.decode s pos).2)) } := by simp [setObj, Sem.run, hb]
              have hb1 := (MapKept.heap_set (w := w) (o' := .stringIter s (pos + (Utf8.decode s pos).2)) hb)
              have := emb_replace E (blt_lt hn) hφ hk (by rw [hob]; exact hsl) (iterOb s (pos + (Utf8.decode s pos).2)) rfl (w' := { w with heap := w.heap.setIfInBounds e2.blk (.stringIter s (pos + (Utf8.decode s pos).2)) }) (.inr (.inr (.inl ⟨rfl, rfl, hb1.1⟩))) (fun k hk => hb1.2 k hk) (by simp) rfl rfl rfl
              refine ⟨φ, .tuple #[.bool true, .int .i64 pos, .int .i32 (Utf8.decode s pos).1], _, ?_, ?_, this.1, this.2⟩
              rotate_left
              · exact LRel.tuple (LRel.cons (.bool true) (LRel.cons (.int .i64 pos) (LRel.cons (.int .i32 (Utf8.decode s pos).1) LRel.nil)))
              · simp only [Instr.next, Sem.run_bind, hget, Result.andThen_ok, if_pos hp', hset, Sem.run_pure]
                rfl
          · cases x
    · cases hl
  · cases hl

theorem freeze_new (w : World) (c : Array Value) (t : TypeId) : (w.alloc (.cells c t)).freeze ⟨w.heap.size, c.size, none⟩ 1 = w.alloc (.cells c t (c.size, c.size + 1)) := by
  unfold World.freeze World.alloc
  simp only [Nat.one_ne_zero, if_false]
  congr 1
  apply Array.ext
  · simp
  · intro i h1 h2
    simp only [Array.getElem_modify, Array.getElem_push]
    by_cases hi : i < w.heap.size
    · simp [hi, show ¬ w.heap.size = i by omega]
    · have : i = w.heap.size := by simp at h2; omega
      subst this
      simp

theorem bytesF_gives {P : Program} {B : Nat} {φ : Phi} {h h' : AH} {w : World} (E : Emb φ h B w) {x x' v : Value} (hx : VRel φ x x') (t : TypeId) (hl : bytesF t h x = some (v, h')) : ∃ s, x' = .string s ∧ HGives P B φ h w (Conv.stringToBytes t s) v h' := by
  unfold bytesF at hl
  split at hl
  · rename_i s
    cases hx
    refine ⟨s, rfl, ?_⟩
    cases h0 : Nat.beq s.size 0 with
    | true => rw [h0] at hl; cases hl
    | false =>
      rw [h0] at hl
      simp only [cond_false] at hl
      unfold appNew at hl
      cases hb : Nat.blt h.next LIM with
      | false => rw [hb] at hl; cases hl
      | true =>
        rw [hb] at hl
        simp only [cond_true, Option.some.injEq, Prod.mk.injEq] at hl
        obtain ⟨rfl, rfl⟩ := hl
        have hn := blt_lt hb
        let cap := (Question.appendCap s.size 0 t).cut (w.tape w.drawn (.appendCap s.size 0 t))
        have hcap : s.size ≤ cap := by simp only [cap, Question.cut]; omega
        let c : Array Value := (s.data.map fun b => Value.int .u8 b.toNat) ++ Array.replicate (cap - s.size) (.int .u8 0)
        have hds : s.data.size = s.size := rfl
        have hc : c.size = cap := by simp only [c, Array.size_append, Array.size_map, Array.size_replicate, hds]; omega
        have hl : (s.toList.map byteV).length = s.size := by rw [byte_string]; simp [hds]
        have hob : ObRel (φ.add h.next ⟨w.drew.heap.size, cap⟩) (slackOb (s.toList.map byteV) t h.next) ⟨w.drew.heap.size, cap⟩ (w.drew.alloc (.cells c t (c.size, c.size + 1))) := by
          refine .inl ⟨rfl, ⟨c, (c.size, c.size + 1), heap_alloc_new _ _, hc, fun k h1 h2 => by rw [hc] at h1; exact h1, by show (s.toList.map byteV).length ≤ cap; omega, ?_⟩, fun hs => by cases hs⟩
          intro k v hk
          have hk : (s.toList.map byteV)[k]? = some v := hk
          rw [byte_string] at hk
          refine ⟨v, ?_, ?_⟩
          · have hlt : k < (s.data.map fun b => Value.int .u8 b.toNat).size := by
              have := (List.getElem?_eq_some_iff.1 hk).1
              simpa using this
            simp only [c]
            rw [Array.getElem?_append_left hlt, ← Array.getElem?_toList, Array.toList_map]
            exact hk
          · simp only [List.getElem?_map, Option.map_eq_some_iff] at hk
            obtain ⟨b, _, rfl⟩ := hk
            exact .int _ _
        obtain ⟨E2, X2⟩ := emb_push E.drew hn (slackOb (s.toList.map byteV) t h.next) (.cells c t (c.size, c.size + 1)) cap ((h.push (slackOb (s.toList.map byteV) t h.next)).setFam h.next [(h.next, lenN (s.toList.map byteV))]) rfl rfl (Nat.le_refl _) rfl
          (fun j hj hkj hs => by
            obtain ⟨f1, f2⟩ := E.fam j hj hkj hs
            show _ ∈ T5.get (T5.set h.fams h.next _) _
            rw [T5.get_set _ _ _ _ hn (by omega), if_neg (by omega)]
            exact f2)
          (fun _ => ⟨Nat.le_refl _, by
            show _ ∈ T5.get (T5.set h.fams h.next _) h.next
            rw [T5.get_set _ _ _ _ hn hn, if_pos rfl, lenN_eq]
            exact List.mem_singleton.2 rfl⟩) hob
        refine ⟨_, .slice (some ⟨w.heap.size, 0, none⟩) s.size cap, _, ?_, ?_, E2, Ext.drew.trans X2⟩
        · have hch : (choose (.appendCap s.size 0 t)).run P w = .ok cap w.drew := rfl
          have hnew : (newRow t c).run P w.drew = .ok ⟨w.heap.size, 0, none⟩ (w.drew.alloc (.cells c t)) := by simp only [newRow, Sem.run_bind, run_newObj, Result.andThen_ok, Sem.run_pure]; rfl
          have hmark : (markStringish ⟨w.heap.size, 0, none⟩).run P (w.drew.alloc (.cells c t)) = .ok () (w.drew.alloc (.cells c t (c.size, c.size + 1))) := by
            have hsh : (w.drew.alloc (.cells c t)).shape? w.heap.size = some (t, c.size) := by
              unfold World.shape?
              have := heap_alloc_new w.drew (.cells c t)
              rw [show w.drew.heap.size = w.heap.size from rfl] at this
              rw [this]
            simp only [markStringish, Sem.run_bind, run_shape, hsh, Result.andThen_ok, run_freeze]
            exact congrArg (Result.ok ()) (freeze_new w.drew c t)
          simp only [Conv.stringToBytes, Sem.run_bind, hch, Result.andThen_ok]
          rw [show ((s.data.map fun b => Value.int .u8 b.toNat) ++ Array.replicate (cap - s.size) (.int .u8 0)) = c from rfl]
          simp only [hnew, Result.andThen_ok, hmark, Sem.run_pure]
        · exact .sopen _ _ 0 0 _ _ 1 (Phi.add_same _ _ _) hcap (.inr ⟨rfl, by simp⟩)
  · cases hl
end Go.Ds
