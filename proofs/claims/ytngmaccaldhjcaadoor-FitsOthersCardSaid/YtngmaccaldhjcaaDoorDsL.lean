import Derived.Test.YtngmaccaldhjcaaDoorDsK
set_option linter.all false
set_option linter.unusedSimpArgs false
set_option linter.unnecessarySimpa false
set_option linter.unusedVariables false
set_option linter.unusedSectionVars false
set_option linter.unusedSectionVars false
set_option linter.unusedVariables false
namespace Go.Ds
variable [Inhabited Bound]

/-! ## append -/
theorem growBy_le (m : Nat) : ∀ (r c : Nat), c ≤ 2 * m + 192 → Builtin.growBy m r c ≤ 2 * m + 192
  | 0, c, h => h
  | r + 1, c, h => by
    unfold Builtin.growBy
    split
    · exact h
    · refine growBy_le m r _ ?_; omega
theorem nextcap_le {need cap : Nat} (h : cap < need) : Builtin.nextslicecap need cap ≤ 2 * need + 192 := by
  unfold Builtin.nextslicecap
  split
  · omega
  · split
    · omega
    · exact growBy_le need 4 cap (by omega)

theorem zeroCells_size (z : Array Value) (n : Nat) : (Builtin.zeroCells z n).size = n * z.size := by simp [Builtin.zeroCells]

/-- What an append reads of its source. -/
structure Source (P : Program) (w : World) (sz n : Nat) (x' : Value) (new' : Array Value) : Prop where
  len : Builtin.lenOf x' = (pure n : Sem Nat)
  read : ∀ w1 : World, w1.heap = w.heap → (Builtin.firstCells sz n x').run P w1 = .ok new' w1
  size : new'.size = n * sz

theorem cell_heap {w w1 : World} (h : w1.heap = w.heap) (a : Addr) : w1.cell? a = w.cell? a := by simp [World.cell?, h]

theorem byte_string (s : ByteArray) : s.toList.map byteV = (s.data.toList.map fun b => Value.int .u8 b.toNat) := by
  rw [ByteArray.toList_eq]; rfl

theorem source_rel {P : Program} {B : Nat} {φ : Phi} {h : AH} {w : World} (E : Emb φ h B w) {x x' : Value} (hx : VRel φ x x') {sz n : Nat} {new : List Value} (hn : lenF x = some n) (hf : firstF h sz n x = some new) (hpos : n ≠ 0)
    (hs : ∀ s, x = .string s → sz = 1) : ∃ new' : Array Value, LRel φ new new'.toList ∧ Source P w sz n x' new' := by
  unfold firstF at hf
  split at hf
  · rename_i a l c
    simp only [lenF, Option.some.injEq] at hn
    subst hn
    have key : ∀ (b off : Nat) (e : FE) (c' : Nat), a = ⟨b, off, none⟩ → φ b = some e → x' = .slice (some ⟨e.blk, off, none⟩) l c' → ∃ new' : Array Value, LRel φ new new'.toList ∧ Source P w sz l x' new' := by
      intro b off e c' ha he hx'
      subst ha
      subst hx'
      obtain ⟨l', h1, h2, h3⟩ := readN_rel E he hf
      refine ⟨l'.toArray, by simpa using h1, ⟨rfl, fun w1 hw1 => ?_, ?_⟩⟩
      · have := run_loadCells_list (P := P) w1 ⟨e.blk, off, none⟩ l' (fun j v hj => by rw [add_none, cell_heap hw1]; exact h3 j v hj)
        have hl : l'.length = l * sz := by rw [← h1.1]; exact h2
        rw [hl] at this
        exact this
      · have := h1.1; simp; omega
    cases hx with
    | sdead a a' => omega
    | slc b e off _ _ he hc hl => exact key b off e c rfl he rfl
    | sopen b e off off' _ c' sz' he hl hr =>
      rcases hr with ⟨h0, _⟩ | ⟨h0, _⟩
      · omega
      · subst h0; exact key b _ e c' rfl he rfl
  · cases hx
    simp only [lenF, Option.some.injEq] at hn
    omega
  · rename_i s
    cases hx
    simp only [lenF, Option.some.injEq] at hn
    subst hn
    obtain ⟨h1, h2⟩ := takeN_eq hf
    have hsz := hs s rfl
    subst hsz
    have hnew : new = s.data.toList.map fun b => Value.int .u8 b.toNat := by
      rw [h1, byte_string, List.take_of_length_le]
      simp
    refine ⟨s.data.map fun b => .int .u8 b.toNat, ?_, ⟨rfl, fun w1 _ => ?_, by simp⟩⟩
    · rw [hnew]
      simp only [Array.toList_map]
      have : ∀ l : List UInt8, LRel φ (l.map fun b => Value.int .u8 b.toNat) (l.map fun b => Value.int .u8 b.toNat) := by
        intro l
        induction l with
        | nil => exact LRel.nil
        | cons b l ih => exact LRel.cons (.int _ _) ih
      exact this _
    · simp only [Builtin.firstCells, Sem.run_pure]
      congr 2
      simp [ByteArray.extract, ByteArray.copySlice]
  · cases hf

section
variable {P : Program} {w : World} {T0 T1 e ty : TypeId} {d1 : TypeDesc} {i : TypeInfo} {sz n : Nat} {x' : Value} {new' : Array Value}

theorem append_in (ht : P.underlying T0 = some (.slice e)) (ht1 : P.underlying T1 = some d1) (hd : ∀ k, d1 ≠ .int k) (hi : P.info? e = some i) (hsz : i.size = sz) (S : Source P w sz n x' new')
    {b off sLen c : Nat} (hle : sLen + n ≤ c) {w2 : World} (hst : (storeCells ⟨b, off + sLen * sz, none⟩ new'.toList).run P w = .ok () w2) :
    (Builtin.append_ #[T0, T1] ty #[.slice (some ⟨b, off, none⟩) sLen c, x']).run P w = .ok (.slice (some ⟨b, off, none⟩) (sLen + n) c) w2 := by
  have hz : (match d1 with | .int _ => true | _ => false) = false := by cases d1 <;> first | rfl | exact absurd rfl (hd _)
  have hr := S.read w rfl
  simp only [Builtin.append_, Sem.run_bind, List.getElem?_toArray, List.getElem?_cons_zero, List.getElem?_cons_succ, run_underlying ht, Result.andThen_ok, run_sizeOf' hi, hsz, run_underlying ht1, Sem.run_pure, hz,
    Bool.false_eq_true, if_false, S.len]
  rw [if_pos hle]
  simp only [Bool.not_false, if_true, Sem.run_bind, hr, Result.andThen_ok, add_none, hst, Sem.run_pure]

theorem append_new (ht : P.underlying T0 = some (.slice e)) (ht1 : P.underlying T1 = some d1) (hd : ∀ k, d1 ≠ .int k) (hi : P.info? e = some i) (hsz : i.size = sz) {z : Value} (hz0 : i.zero = some z) (hzs : z.cells.size = sz) (S : Source P w sz n x' new')
    {base : Option Addr} {sLen c : Nat} (hgt : ¬ sLen + n ≤ c) (hbd : (sLen + n) * (i.bytes + 1) ≤ 1073741824) {old' : Array Value} (hold : (Builtin.firstCells sz sLen (.slice base sLen c)).run P w.drew = .ok old' w.drew) (hos : old'.size = sLen * sz) :
    ∃ (cap : Nat) (rest : Array Value), sLen + n ≤ cap ∧ (old' ++ new' ++ rest).size = cap * sz ∧
      (Builtin.append_ #[T0, T1] ty #[.slice base sLen c, x']).run P w = .ok (.slice (some ⟨w.heap.size, 0, none⟩) (sLen + n) cap) (w.drew.alloc (.cells (old' ++ new' ++ rest) e)) := by
  have hz : (match d1 with | .int _ => true | _ => false) = false := by cases d1 <;> first | rfl | exact absurd rfl (hd _)
  have hr := S.read w.drew rfl
  have hti : (typeInfo e).run P w = .ok i w := by simp [typeInfo, hi]
  have hti2 : (typeInfo e).run P w.drew = .ok i w.drew := by simp [typeInfo, hi]
  have hcap := nextcap_le (need := sLen + n) (cap := c) (by omega)
  have hmul : Builtin.nextslicecap (sLen + n) c * i.bytes ≤ 281474976710656 := by
    have h1 : Builtin.nextslicecap (sLen + n) c * i.bytes ≤ (2 * (sLen + n) + 192) * i.bytes := Nat.mul_le_mul_right _ hcap
    have h2 : (2 * (sLen + n) + 192) * i.bytes = 2 * ((sLen + n) * i.bytes) + 192 * i.bytes := by rw [Nat.add_mul, Nat.mul_assoc]
    have h3 : (sLen + n) * i.bytes + (sLen + n) ≤ 1073741824 := by rw [Nat.mul_succ] at hbd; exact hbd
    have h4 : 1 * i.bytes ≤ (sLen + n) * i.bytes := Nat.mul_le_mul_right _ (by omega)
    omega
  have hneed : sLen + n ≤ 1073741824 := by
    have : (sLen + n) * 1 ≤ (sLen + n) * (i.bytes + 1) := Nat.mul_le_mul_left _ (by omega)
    omega
  have c1 : ¬ (((sLen + n : Nat) : Int) > IntKind.i64.max ∧ ((false = true) ∨ i.bytes = 0)) := by
    have : IntKind.i64.max = 9223372036854775807 := by decide
    rw [this]; omega
  have c2 : ¬ (Builtin.nextslicecap (sLen + n) c * i.bytes > 2 ^ 48) := by
    have p : (2 : Nat) ^ 48 = 281474976710656 := by decide
    rw [p]; omega
  refine ⟨(Question.appendCap (sLen + n) c e).cut (w.tape w.drawn (.appendCap (sLen + n) c e)), Builtin.zeroCells z.cells ((Question.appendCap (sLen + n) c e).cut (w.tape w.drawn (.appendCap (sLen + n) c e)) - (sLen + n)), ?_, ?_, ?_⟩
  · simp only [Question.cut]; omega
  · have h1 : sLen + n ≤ (Question.appendCap (sLen + n) c e).cut (w.tape w.drawn (.appendCap (sLen + n) c e)) := by simp only [Question.cut]; omega
    simp only [Array.size_append, zeroCells_size, hzs, hos, S.size]
    rw [← Nat.add_mul, ← Nat.add_mul]
    congr 1; omega
  · simp only [Builtin.append_, Sem.run_bind, List.getElem?_toArray, List.getElem?_cons_zero, List.getElem?_cons_succ, run_underlying ht, Result.andThen_ok, run_sizeOf' hi, hsz, run_underlying ht1, Sem.run_pure, hz,
      Bool.false_eq_true, if_false, S.len]
    rw [if_neg hgt]
    simp only [Sem.run_bind, hti, Result.andThen_ok, Bool.not_false, if_true]
    have c1' : ¬ (((sLen + n : Nat) : Int) > IntKind.i64.max ∧ (False ∨ i.bytes = 0)) := by
      intro hq; exact c1 ⟨hq.1, hq.2.imp (fun f => f.elim) id⟩
    simp only [false_or, Bool.false_eq_true] at c1' ⊢
    rw [if_neg c1', ]
    simp only [Sem.run_bind, hti, Result.andThen_ok]
    rw [if_neg c2]
    simp only [Sem.run_bind, run_choose, Question.forced, Bool.false_eq_true, if_false, Result.andThen_ok]
    have ew : ({ w with drawn := w.drawn + 1 } : World) = w.drew := rfl
    simp only [ew, hti2, Result.andThen_ok, run_askRoom, hold, hr, Sem.run_bind, run_zeroValue hi hz0, newRow, run_newObj, Sem.run_pure]
    rfl
end

/-- A second abstract row over the cells of an old one. -/
theorem emb_inplace {φ : Phi} {h : AH} {B : Nat} {w : World} (E : Emb φ h B w) (hn : h.next < LIM) {i : Nat} {e : FE} (he : φ i = some e) {c : Array Value} {el : TypeId} {fr : Nat × Nat}
    (hc1 : w.heap[e.blk]? = some (.cells c el fr)) (hc2 : c.size = e.room) (hc3 : ∀ k, fr.1 ≤ k → k < fr.2 → e.room ≤ k)
    {pre vs vs' : List Value} (hpre : ∀ (k : Nat) v, pre[k]? = some v → ∃ v', c[k]? = some v' ∧ VRel φ v v') (hfit : pre.length + vs.length ≤ e.room) (hv : LRel φ vs vs') {f : Nat} (hf : f < h.next)
    (hothers : ∀ j ej, φ j = some ej → (h.get j).kind ≠ 0 → ej.blk = e.blk → (h.get j).cells.length ≤ pre.length ∧ (h.get j).slack = true ∧ (h.get j).fam = f)
    (h' : AH) (htr : h'.tr = T5.set h.tr h.next (slackOb (pre ++ vs) el f)) (hnext : h'.next = h.next + 1) (hlow : h'.low ≤ h.low) (hlow2 : h'.low ≤ i) (hhid : h'.hid = h.hid)
    (hfam : ∀ i, i < h.next → (h.get i).kind ≠ 0 → (h.get i).slack = true → (i, (h.get i).cells.length) ∈ T5.get h'.fams (h.get i).fam)
    (hfam2 : (h.next, (pre ++ vs).length) ∈ T5.get h'.fams f) :
    Emb (φ.add h.next e) h' B (w.setCells e.blk pre.length vs') ∧ Ext B φ h w (φ.add h.next e) h' (w.setCells e.blk pre.length vs') := by
  have hfr : φ h.next = none := E.fresh (Nat.le_refl _)
  have hle := Phi.add_le (e := e) hfr
  have hlen : vs.length = vs'.length := hv.1
  obtain ⟨c', g1, g2, g3⟩ := setCells_heap_at e.blk vs' pre.length w c el fr hc1 (by omega)
  obtain ⟨s1, s2, s3, s4⟩ := setCells_same e.blk vs' pre.length w
  have hb := E.base i e he
  have old : ∀ j, j < h.next → h'.get j = h.get j := by
    intro j hj
    rw [AH.get_eq, AH.get_eq, hhid, htr, T5.get_set _ _ _ _ hn (by omega), if_neg (by omega)]
  have new : (h'.get h.next).kind ≠ 0 → h'.get h.next = slackOb (pre ++ vs) el f := by
    rw [AH.get_eq, htr, T5.get_set _ _ _ _ hn hn, if_pos rfl]
    cases inSpans h'.hid h.next with
    | true => intro h; exact absurd rfl h
    | false => intro _; rfl
  have oldφ : ∀ j, j ≠ h.next → (φ.add h.next e) j = φ j := fun j hj => by simp [Phi.add, hj]
  refine ⟨⟨?_, ?_, ?_, ?_, ?_, by omega, by rw [s1]; exact E.size⟩, ⟨hle, fun j hj => oldφ j (by omega), by omega, hhid, hlow, ?_, ?_, ?_, below_setCells hb.1 vs' pre.length w⟩⟩
  · intro j ej hj
    by_cases cj : j = h.next
    · omega
    · rw [oldφ j cj] at hj; have := E.dom j ej hj; omega
  · intro j ej hj
    rw [s1]
    by_cases cj : j = h.next
    · subst cj
      rw [Phi.add_same] at hj
      cases hj
      exact hb
    · rw [oldφ j cj] at hj; exact E.base j ej hj
  · intro j hj hkj
    by_cases cj : j = h.next
    · subst cj
      rw [new hkj]
      refine ⟨e, Phi.add_same _ _ _, .inl ⟨rfl, ⟨c', fr, g1, by omega, hc3, by simp [slackOb]; omega, fun k v hk => ?_⟩, fun hs => by cases hs⟩⟩
      have hk' : (pre ++ vs)[k]? = some v := hk
      rw [List.getElem?_append] at hk'
      rw [g3 k]
      by_cases ck : k < pre.length
      · rw [if_pos ck] at hk'
        rw [if_neg (by omega)]
        obtain ⟨v', a1, a2⟩ := hpre k v hk'
        exact ⟨v', a1, a2.mono hle⟩
      · rw [if_neg ck] at hk'
        have hkl : k - pre.length < vs.length := (List.getElem?_eq_some_iff.1 hk').1
        rw [if_pos (by omega)]
        obtain ⟨v', a1, a2⟩ := hv.get hk'
        exact ⟨v', a1, a2.mono hle⟩
    · have hlt : j < h.next := by omega
      rw [old j hlt] at hkj ⊢
      obtain ⟨ej, hej, hrj⟩ := E.obj j hlt hkj
      refine ⟨ej, hle _ _ hej, ?_⟩
      by_cases cb : ej.blk = e.blk
      · obtain ⟨hsh, hsl, _⟩ := hothers j ej hej hkj cb
        rcases hrj with ⟨k1, ⟨cj', frj, q1, q2, q3, q4, q5⟩, q6⟩ | ⟨k1, k2, _⟩ | ⟨k1, k2, _⟩ | ⟨k1, ⟨k2, _⟩, _⟩
        · rw [cb, hc1] at q1
          simp only [Option.some.injEq, Obj.cells.injEq] at q1
          obtain ⟨x1, x2, x3⟩ := q1
          subst x1; subst x3
          refine .inl ⟨k1, ⟨c', fr, by rw [cb, ← x2]; exact g1, by omega, q3, q4, fun k v hkv => ?_⟩, fun hs => by rw [hsl] at hs; cases hs⟩
          have hkl : k < (h.get j).cells.length := (List.getElem?_eq_some_iff.1 hkv).1
          rw [g3 k, if_neg (by omega)]
          obtain ⟨v', a1, a2⟩ := q5 k v hkv
          exact ⟨v', a1, a2.mono hle⟩
        · rw [hsl] at k2; cases k2
        · rw [hsl] at k2; cases k2
        · rw [hsl] at k2; cases k2
      · exact (hrj.world (setCells_heap_other e.blk vs' pre.length w ej.blk cb)).mono hle
  · intro j l ej el' hj hl hkj hkl hne hbb
    by_cases cj : j = h.next
    · have cl : l ≠ h.next := fun x => hne (cj.trans x.symm)
      subst cj
      rw [Phi.add_same] at hj
      cases hj
      rw [oldφ l cl] at hl
      have hlt := E.dom l el' hl
      rw [old l hlt] at hkl ⊢
      rw [new hkj]
      obtain ⟨_, a2, a3⟩ := hothers l el' hl hkl hbb.symm
      exact ⟨rfl, a2, a3.symm⟩
    · rw [oldφ j cj] at hj
      have hltj := E.dom j ej hj
      by_cases cl : l = h.next
      · subst cl
        rw [Phi.add_same] at hl
        cases hl
        rw [old j hltj] at hkj ⊢
        rw [new hkl]
        obtain ⟨_, a2, a3⟩ := hothers j ej hj hkj hbb
        exact ⟨a2, rfl, a3⟩
      · rw [oldφ l cl] at hl
        have hltl := E.dom l el' hl
        rw [old j hltj] at hkj ⊢
        rw [old l hltl] at hkl ⊢
        exact E.apart j l ej el' hj hl hkj hkl hne hbb
  · intro j hj hkj hs
    by_cases cj : j = h.next
    · subst cj
      rw [new hkj]
      exact ⟨by show f ≤ h.next; omega, hfam2⟩
    · have hlt : j < h.next := by omega
      rw [old j hlt] at hkj hs ⊢
      exact ⟨by have := (E.fam j hlt hkj hs).1; omega, hfam j hlt hkj hs⟩
  · intro j hj _
    rw [htr, T5.get_set _ _ _ _ hn (by have := E.lim; omega), if_neg (by omega)]
  · intro k _ hcond
    refine setCells_heap_other e.blk vs' pre.length w k (fun x => ?_)
    have := hcond i e he x.symm
    omega
  · intro j ej hj hnone
    by_cases cj : j = h.next
    · subst cj
      rw [Phi.add_same] at hj
      cases hj
      exact .inr ⟨i, _, he, rfl, hlow2⟩
    · rw [oldφ j cj, hnone] at hj; cases hj

section
variable {P : Program} {B : Nat} {φ : Phi} {h : AH} {w : World} {T0 T1 e ty : TypeId} {d1 : TypeDesc} {sz bytes n : Nat} {z : Array Value} {x' : Value} {new' : Array Value}

theorem appIn_gives (E : Emb φ h B w) (ht : P.underlying T0 = some (.slice e)) (ht1 : P.underlying T1 = some d1) (hd : ∀ k, d1 ≠ .int k) (hz : zeroOf P e = some (sz, bytes, z)) {new : List Value} (hnew : LRel φ new new'.toList) (S : Source P w sz n x' new')
    {a off : Nat} {fe : FE} (he : φ a = some fe) {sLen sCap c : Nat} (hle : sLen + n ≤ c) {v : Value} {h' : AH} (ha : appIn h ⟨a, off, none⟩ (off + sLen * sz) (sLen + n) sCap new = some (v, h'))
    (hv : VRel φ (.slice (some ⟨a, off, none⟩) (sLen + n) sCap) (.slice (some ⟨fe.blk, off, none⟩) (sLen + n) c)) :
    HGives P B φ h w (Builtin.append_ #[T0, T1] ty #[.slice (some ⟨fe.blk, off, none⟩) sLen c, x']) v h' := by
  obtain ⟨i, zv, hi, hzv, h1, h2, h3, h4, h5, h6⟩ := zeroOf_some hz
  unfold appIn at ha
  cases hcv : new.all cellV with
  | false => rw [hcv] at ha; cases ha
  | true =>
    rw [hcv] at ha
    simp only [cond_true] at ha
    split at ha
    · rename_i h2' hw
      simp only [Option.some.injEq, Prod.mk.injEq] at ha
      obtain ⟨rfl, rfl⟩ := ha
      obtain ⟨g1, g2, g3⟩ := writeF_gives (P := P) E he hnew (oneCells_rel hnew hcv) hw
      exact ⟨φ, _, _, append_in ht ht1 hd hi h1 S hle g1, hv, g2, g3⟩
    · cases ha

theorem slack_new {w : World} {l : List Value} {c : Array Value} {room : Nat} (hl : ∀ (k : Nat) v, l[k]? = some v → ∃ v', c[k]? = some v' ∧ VRel φ v v') (hlen : l.length ≤ c.size) (t : TypeId) (f : Nat) (hroom : room = c.size) :
    ObRel φ (slackOb l t f) ⟨w.heap.size, room⟩ (w.alloc (.cells c t)) :=
  .inl ⟨rfl, ⟨c, (0, 0), heap_alloc_new w _, hroom.symm, fun k h1 h2 => by omega, by show l.length ≤ room; omega, hl⟩, fun hs => by cases hs⟩

theorem appNew_gives (E : Emb φ h B w) (ht : P.underlying T0 = some (.slice e)) (ht1 : P.underlying T1 = some d1) (hd : ∀ k, d1 ≠ .int k) (hz : zeroOf P e = some (sz, bytes, z)) {old new : List Value} {old' : Array Value} (hold : LRel φ old old'.toList) (hnew : LRel φ new new'.toList) (S : Source P w sz n x' new')
    {base : Option Addr} {sLen c : Nat} (hgt : ¬ sLen + n ≤ c) (hbd : (sLen + n) * (bytes + 1) ≤ 1073741824) (hread : (Builtin.firstCells sz sLen (.slice base sLen c)).run P w.drew = .ok old' w.drew) (hos : old'.size = sLen * sz)
    {v : Value} {h' : AH} (ha : appNew h e sz (sLen + n) (old ++ new) = some (v, h')) :
    HGives P B φ h w (Builtin.append_ #[T0, T1] ty #[.slice base sLen c, x']) v h' := by
  obtain ⟨i, zv, hi, hzv, h1, h2, h3, h4, h5, h6⟩ := zeroOf_some hz
  subst h2
  unfold appNew at ha
  cases hb : Nat.blt h.next LIM with
  | false => rw [hb] at ha; cases ha
  | true =>
    rw [hb] at ha
    simp only [cond_true, Option.some.injEq, Prod.mk.injEq] at ha
    obtain ⟨rfl, rfl⟩ := ha
    have hn := blt_lt hb
    obtain ⟨cap, rest, k1, k2, k3⟩ := append_new (ty := ty) ht ht1 hd hi h1 hzv (by rw [h3]; exact h4) S hgt hbd hread hos
    have hfr : φ h.next = none := E.fresh (Nat.le_refl _)
    have hle := Phi.add_le (e := ⟨w.drew.heap.size, cap * sz⟩) hfr
    have hon := (hold.append hnew)
    have hob : ObRel (φ.add h.next ⟨w.drew.heap.size, cap * sz⟩) (slackOb (old ++ new) e h.next) ⟨w.drew.heap.size, cap * sz⟩ (w.drew.alloc (.cells (old' ++ new' ++ rest) e)) := by
      refine slack_new ?_ ?_ e h.next k2.symm
      · intro k v hk
        obtain ⟨v', a1, a2⟩ := hon.get hk
        have a1' : (old' ++ new')[k]? = some v' := by rw [← Array.getElem?_toList, Array.toList_append]; exact a1
        have hlt : k < (old' ++ new').size := (Array.getElem?_eq_some_iff.1 a1').1
        exact ⟨v', by rw [Array.getElem?_append_left hlt]; exact a1', a2.mono hle⟩
      · have := hon.1; simp at this ⊢; omega
    obtain ⟨E2, X2⟩ := emb_push E.drew hn (slackOb (old ++ new) e h.next) (.cells (old' ++ new' ++ rest) e) (cap * sz) ((h.push (slackOb (old ++ new) e h.next)).setFam h.next [(h.next, lenN (old ++ new))]) rfl rfl (Nat.le_refl _) rfl
      (fun j hj hkj hs => by
        obtain ⟨f1, f2⟩ := E.fam j hj hkj hs
        show _ ∈ T5.get (T5.set h.fams h.next _) _
        rw [T5.get_set _ _ _ _ hn (by omega), if_neg (by omega)]
        exact f2)
      (fun _ => ⟨Nat.le_refl _, by
        show _ ∈ T5.get (T5.set h.fams h.next _) h.next
        rw [T5.get_set _ _ _ _ hn hn, if_pos rfl, lenN_eq]
        exact List.mem_singleton.2 rfl⟩) hob
    refine ⟨_, .slice (some ⟨w.heap.size, 0, none⟩) (sLen + n) cap, _, k3, ?_, E2, Ext.drew.trans X2⟩
    exact .sopen _ _ 0 0 _ _ sz (Phi.add_same _ _ _) k1 (.inr ⟨rfl, by simp⟩)

theorem appMay_gives (E : Emb φ h B w) (ht : P.underlying T0 = some (.slice e)) (ht1 : P.underlying T1 = some d1) (hd : ∀ k, d1 ≠ .int k) (hz : zeroOf P e = some (sz, bytes, z)) {new : List Value} (hnew : LRel φ new new'.toList) (S : Source P w sz n x' new') (hnl : new.length = n * sz)
    {a off : Nat} {fe : FE} (he : φ a = some fe) {sLen c : Nat} {cells pre : List Value} {fam : Nat} {es : List MapEntry} {cl : Nat} {st : ByteArray} {ps : Nat} (hob : h.get a = ⟨1, cells, e, fam, true, es, cl, st, ps⟩)
    (hroom : off = 0 → 0 + c * sz = fe.room) (hpre : takeN (off + sLen * sz) cells = some pre) (hbd : (sLen + n) * (bytes + 1) ≤ 1073741824)
    {v : Value} {h' : AH} (ha : appMay h e sz ⟨a, off, none⟩ fam (sLen + n) (off + sLen * sz) pre new = some (v, h')) :
    HGives P B φ h w (Builtin.append_ #[T0, T1] ty #[.slice (some ⟨fe.blk, off, none⟩) sLen c, x']) v h' := by
  obtain ⟨i, zv, hi, hzv, h1, h2, h3, h4, h5, h6⟩ := zeroOf_some hz
  subst h2
  unfold appMay at ha
  dsimp only at ha
  cases hb : (Nat.blt h.next LIM && Nat.blt a h.next && Nat.beq off 0 && new.all cellV) with
  | false => rw [hb] at ha; cases ha
  | true =>
    rw [hb] at ha
    simp only [cond_true] at ha
    simp only [Bool.and_eq_true] at hb
    obtain ⟨⟨⟨hb1, hb2⟩, hb3⟩, hcv⟩ := hb
    have hn := blt_lt hb1
    have hlt := blt_lt hb2
    have hoff := beq_eq hb3
    subst hoff
    have hrm := hroom rfl
    simp only [Nat.zero_add] at ha hpre hrm
    have hk : (h.get a).kind ≠ 0 := by rw [hob]; exact Nat.one_ne_zero
    have hfam := Nat.lt_of_le_of_lt (E.fam a hlt hk (by rw [hob])).1 hlt
    rw [hob] at hfam
    dsimp only at hfam
    obtain ⟨hpre1, hpre2⟩ := takeN_eq hpre
    have hplen : pre.length = sLen * sz := by rw [hpre1, List.length_take]; omega
    obtain ⟨E2, L, hsh⟩ := killF_emb E fam h.next (sLen * sz) (Nat.lt_trans hfam hn)
    have X1 : Ext B φ h w φ (killF h fam h.next (sLen * sz)) w := L.ext E.lim
    -- what the block holds
    obtain ⟨e2, he2, hrel⟩ := E.obj a hlt hk
    have : e2 = fe := by rw [he] at he2; exact (Option.some.inj he2).symm
    subst this
    rw [hob] at hrel
    have hrel1 : CellsRel φ ⟨1, cells, e, fam, true, es, cl, st, ps⟩ e2 w := by
      rcases hrel with ⟨_, x⟩ | ⟨x, _⟩ | ⟨x, _⟩ | ⟨x, _⟩
      · exact x
      · cases x
      · cases x
      · cases x
    obtain ⟨⟨cs, fr, q1, q2, q3, q4, q5⟩, _⟩ := hrel1
    dsimp only at q1 q4 q5
    have hprel : ∀ (k : Nat) v, pre[k]? = some v → ∃ v', cs[k]? = some v' ∧ VRel φ v v' := by
      intro k v hkv
      rw [hpre1, List.getElem?_take] at hkv
      split at hkv
      · exact q5 k v hkv
      · cases hkv
    generalize hK : killF h fam h.next (sLen * sz) = hk0 at ha E2 L hsh X1
    obtain ⟨tr, next, low, hid, fams⟩ := hk0
    simp only [Option.some.injEq, Prod.mk.injEq] at ha
    obtain ⟨rfl, rfl⟩ := ha
    have hnx : next = h.next := L.next
    subst hnx
    have lo := low_set a low
    have hothers : ∀ j ej, φ j = some ej → ((⟨tr, h.next, low, hid, fams⟩ : AH).get j).kind ≠ 0 → ej.blk = e2.blk →
        ((⟨tr, h.next, low, hid, fams⟩ : AH).get j).cells.length ≤ pre.length ∧ ((⟨tr, h.next, low, hid, fams⟩ : AH).get j).slack = true ∧ ((⟨tr, h.next, low, hid, fams⟩ : AH).get j).fam = fam := by
      intro j ej hj hkj hbk
      have lj := E.dom j ej hj
      obtain ⟨g1, g2⟩ := hsh j lj hkj
      rw [g1] at hkj ⊢
      rw [hplen]
      by_cases cj : j = a
      · subst cj
        rw [hob] at g2 ⊢
        exact ⟨g2 rfl rfl (by omega), rfl, rfl⟩
      · obtain ⟨b1, b2, b3⟩ := E.apart a j e2 ej he hj hk hkj (fun x => cj x.symm) hbk.symm
        rw [hob] at b3
        exact ⟨g2 b2 b3.symm (by omega), b2, b3.symm⟩
    have hf1 : ∀ i, i < h.next → ((⟨tr, h.next, low, hid, fams⟩ : AH).get i).kind ≠ 0 → ((⟨tr, h.next, low, hid, fams⟩ : AH).get i).slack = true →
        (i, ((⟨tr, h.next, low, hid, fams⟩ : AH).get i).cells.length) ∈ T5.get (T5.set fams fam ((h.next, lenN (pre ++ new)) :: T5.get fams fam)) ((⟨tr, h.next, low, hid, fams⟩ : AH).get i).fam := by
      intro j hj hkj hs
      obtain ⟨f1, f2⟩ := E2.fam j hj hkj hs
      have f1' : ((⟨tr, h.next, low, hid, fams⟩ : AH).get j).fam < h.next := Nat.lt_of_le_of_lt f1 hj
      rw [T5.get_set _ _ _ _ (Nat.lt_trans hfam hn) (by omega)]
      by_cases cf : fam = ((⟨tr, h.next, low, hid, fams⟩ : AH).get j).fam
      · rw [if_pos cf]
        refine List.mem_cons.2 (.inr ?_)
        have := f2
        rw [← cf] at this
        exact this
      · rw [if_neg cf]; exact f2
    have hf2 : (h.next, (pre ++ new).length) ∈ T5.get (T5.set fams fam ((h.next, lenN (pre ++ new)) :: T5.get fams fam)) fam := by
      rw [T5.get_set _ _ _ _ (Nat.lt_trans hfam hn) (Nat.lt_trans hfam hn), if_pos rfl, lenN_eq]
      exact List.mem_cons.2 (.inl rfl)
    by_cases hin : sLen + n ≤ c
    · -- in place
      have hspace : pre.length + new.length ≤ e2.room := by
        have : (sLen + n) * sz ≤ c * sz := Nat.mul_le_mul_right _ hin
        rw [Nat.add_mul] at this
        omega
      have hl' := hnew.1
      have hst : (storeCells ⟨e2.blk, 0 + sLen * sz, none⟩ new'.toList).run P w = .ok () (w.setCells e2.blk pre.length new'.toList) := by
        have := run_storeCells_cells (P := P) e2.blk (0 + sLen * sz) new'.toList 0 w (fun j hj => by
            simp only [World.cell?, q1, Nat.add_zero]
            have hjs : sLen * sz + j < cs.size := by omega
            simp [hjs]) (fun j hj => by
            simp only [World.frozen?, q1, Nat.add_zero]
            rw [Bool.and_eq_false_iff, decide_eq_false_iff_not, decide_eq_false_iff_not]
            by_cases c1 : fr.1 ≤ 0 + sLen * sz + j
            · exact .inr (fun c2 => by have := q3 _ c1 c2; omega)
            · exact .inl c1) (oneCells_rel hnew hcv)
        rw [hplen]
        simpa using this
      obtain ⟨E3, X3⟩ := emb_inplace E2 hn he q1 q2 q3 hprel hspace hnew (f := fam) hfam hothers
        ((AH.push ⟨tr, h.next, bif Nat.blt a low then a else low, hid, fams⟩ (slackOb (pre ++ new) e fam)).setFam fam ((h.next, lenN (pre ++ new)) :: T5.get fams fam))
        rfl rfl lo.1 lo.2 rfl hf1 hf2
      refine ⟨_, .slice (some ⟨e2.blk, 0, none⟩) (sLen + n) c, _, append_in ht ht1 hd hi h1 S hin hst, ?_, E3, X1.trans X3⟩
      exact .sopen _ _ 0 0 _ _ sz (Phi.add_same _ _ _) hin (.inr ⟨rfl, by simpa using hrm⟩)
    · -- to new memory
      have hread : (Builtin.firstCells sz sLen (.slice (some ⟨e2.blk, 0, none⟩) sLen c)).run P w.drew = .ok (cs.toList.take (sLen * sz)).toArray w.drew := by
        have hcl : (cs.toList.take (sLen * sz)).length = sLen * sz := by simp; omega
        have := run_loadCells_list (P := P) w.drew ⟨e2.blk, 0, none⟩ (cs.toList.take (sLen * sz)) (fun j v hj => by
          rw [add_none]
          rw [List.getElem?_take] at hj
          split at hj
          · have hq : w.drew.heap[e2.blk]? = some (.cells cs e fr) := q1
            simp only [World.cell?, hq]
            simpa using hj
          · cases hj)
        rw [hcl] at this
        exact this
      have hoR : LRel φ pre (cs.toList.take (sLen * sz)) := by
        refine ⟨by simp; omega, fun k v v' a1 a2 => ?_⟩
        obtain ⟨v2, b1, b2⟩ := hprel k v a1
        rw [List.getElem?_take] at a2
        split at a2
        · have : cs.toList[k]? = cs[k]? := by simp
          rw [this, b1] at a2
          cases a2
          exact b2
        · cases a2
      obtain ⟨cap, rest, k1, k2, k3⟩ := append_new (ty := ty) ht ht1 hd hi h1 hzv (by rw [h3]; exact h4) S hin hbd hread (by simp; omega)
      have hfr : φ h.next = none := E.fresh (Nat.le_refl _)
      have hle := Phi.add_le (e := ⟨w.drew.heap.size, cap * sz⟩) hfr
      have hon := hoR.append hnew
      have hobn : ObRel (φ.add h.next ⟨w.drew.heap.size, cap * sz⟩) (slackOb (pre ++ new) e fam) ⟨w.drew.heap.size, cap * sz⟩ (w.drew.alloc (.cells ((cs.toList.take (sLen * sz)).toArray ++ new' ++ rest) e)) := by
        refine slack_new ?_ ?_ e fam k2.symm
        · intro k v hkv
          obtain ⟨v', a1, a2⟩ := hon.get hkv
          have a1' : ((cs.toList.take (sLen * sz)).toArray ++ new')[k]? = some v' := by rw [← Array.getElem?_toList, Array.toList_append]; exact a1
          have hlt : k < ((cs.toList.take (sLen * sz)).toArray ++ new').size := (Array.getElem?_eq_some_iff.1 a1').1
          exact ⟨v', by rw [Array.getElem?_append_left hlt]; exact a1', a2.mono hle⟩
        · have := hon.1; simp at this ⊢; omega
      obtain ⟨E3, X3⟩ := emb_push E2.drew hn (slackOb (pre ++ new) e fam) (.cells ((cs.toList.take (sLen * sz)).toArray ++ new' ++ rest) e) (cap * sz)
        ((AH.push ⟨tr, h.next, bif Nat.blt a low then a else low, hid, fams⟩ (slackOb (pre ++ new) e fam)).setFam fam ((h.next, lenN (pre ++ new)) :: T5.get fams fam))
        rfl rfl lo.1 rfl hf1 (fun _ => ⟨by show fam ≤ h.next; omega, hf2⟩) hobn
      refine ⟨_, .slice (some ⟨w.heap.size, 0, none⟩) (sLen + n) cap, _, k3, ?_, E3, (X1.trans Ext.drew).trans X3⟩
      exact .sopen _ _ 0 0 _ _ sz (Phi.add_same _ _ _) k1 (.inr ⟨rfl, by simp⟩)
end
end Go.Ds
