import Derived.Test.YtngmaccaldhjcaaDoorDsN
set_option linter.all false
set_option linter.unusedSimpArgs false
set_option linter.unnecessarySimpa false
set_option linter.unusedVariables false
set_option linter.unusedSectionVars false
set_option linter.unusedSectionVars false
set_option linter.unusedVariables false
namespace Go.Ds
variable [Inhabited Bound]

/-! ## Keys -/
theorem allInts_rel {φ : Phi} : ∀ {l l' : List Value}, LRel φ l l' → allInts l = true → l' = l
  | [], l', h, _ => h.nil_inv
  | x :: l, l', h, ha => by
    obtain ⟨x', l'', rfl, hx, hl⟩ := h.cons_inv
    simp only [allInts] at ha
    split at ha
    · cases hx
      rw [allInts_rel hl ha]
    · cases ha
theorem keyOk_rel {φ : Phi} {key : Nat} {k k' : Value} (h : VRel φ k k') (ho : keyOk key k = true) : k' = k := by
  unfold keyOk at ho
  split at ho
  · split at ho
    · cases h; rfl
    · cases ho
  · split at ho
    · cases h; rfl
    · cases ho
  · split at ho
    · rename_i xs
      obtain ⟨ys, rfl, hl⟩ := h.agg_inv
      simp only [Bool.and_eq_true] at ho
      have := allInts_rel hl ho.2
      rw [Array.toList_inj] at this
      rw [this]
    · cases ho

/-- Keys of that kind, of this type. -/
structure KeyType (P : Program) (t : TypeId) (key : Nat) : Prop where
  is : keyOf P t = some key

theorem intEqs_all : ∀ {l m : List Value} {r : Bool}, intEqs l m = some r → r = true → allInts l = true ∧ l = m
  | [], m, r, h, hr => by
    cases m with
    | nil => exact ⟨rfl, rfl⟩
    | cons y m => simp [intEqs] at h
  | x :: l, m, r, h, hr => by
    simp only [intEqs] at h
    split at h
    · cases h
    · rename_i y m'
      split at h
      · rename_i k a
        split at h
        · rename_i k' b
          cases hk : kindEq k k' with
          | false => rw [hk] at h; cases h
          | true =>
            have := kindEq_eq hk
            subst this
            rw [hk] at h
            simp only [cond_true] at h
            rw [ieq_eq] at h
            by_cases hab : a = b
            · subst hab
              simp only [beq_self_eq_true, cond_true] at h
              obtain ⟨h1, h2⟩ := intEqs_all h hr
              exact ⟨by simpa [allInts] using h1, by rw [h2]⟩
            · have hf : (a == b) = false := by simpa using hab
              rw [hf] at h
              simp only [cond_false, Option.some.injEq] at h
              rw [← h] at hr; cases hr
        · cases h
      · cases h

theorem toList_inj {a b : ByteArray} (h : a.toList = b.toList) : a = b := by
  rw [ByteArray.toList_eq, ByteArray.toList_eq] at h
  obtain ⟨⟨x⟩⟩ := a
  obtain ⟨⟨y⟩⟩ := b
  simp at h
  rw [h]

theorem keyEq_true {key : Nat} {a b : Value} (h : keyEq key a b = some true) (ha : keyOk key a = true) : a = b := by
  unfold keyEq at h
  split at h
  · split at h
    · split at h
      · rename_i _ k x _ k' y
        cases hk : kindEq k k' with
        | false => rw [hk] at h; cases h
        | true =>
          rw [hk] at h
          simp only [cond_true, Option.some.injEq, ieq_eq, beq_iff_eq] at h
          rw [kindEq_eq hk, h]
      · cases h
    · cases h
  · split at h
    · split at h
      · simp only [Option.some.injEq, beq_iff_eq] at h
        rw [toList_inj h]
      · cases h
    · cases h
  · split at h
    · split at h
      · rename_i n _ xs _ ys
        cases hs : (Nat.beq xs.size n && Nat.beq ys.size n) with
        | false => rw [hs] at h; cases h
        | true =>
          rw [hs] at h
          simp only [cond_true] at h
          have := (intEqs_all h rfl).2
          rw [Array.toList_inj] at this
          rw [this]
      · cases h
    · cases h

theorem keyOf_cases {P : Program} {t : TypeId} {key : Nat} (h : keyOf P t = some key) :
    (key = 0 ∧ ∃ q, P.underlying t = some (.int q)) ∨ (key = 1 ∧ P.underlying t = some .string) ∨ (∃ n e, key = n + 2 ∧ P.underlying t = some (.array n e) ∧ intArr P t = some n ∧ ∃ q, P.underlying e = some (.int q) ∧ P.cellsOf e = 1) := by
  unfold keyOf at h
  split at h
  · rename_i q hu
    simp only [Option.some.injEq] at h
    exact .inl ⟨h.symm, q, hu⟩
  · rename_i hu
    simp only [Option.some.injEq] at h
    exact .inr (.inl ⟨h.symm, hu⟩)
  · rename_i m e hu
    simp only [Option.map_eq_some_iff] at h
    obtain ⟨n, hn, rfl⟩ := h
    have hn' := hn
    unfold intArr at hn
    cases hg : P.eqGuardType P.depth t with
    | true => rw [hg] at hn; cases hn
    | false =>
      rw [hg, cond_false, hu] at hn
      simp only at hn
      split at hn
      · rename_i q he
        cases hc : Nat.beq (P.cellsOf e) 1 with
        | false => rw [hc] at hn; cases hn
        | true =>
          rw [hc] at hn
          simp only [cond_true, Option.some.injEq] at hn
          subst hn
          exact .inr (.inr ⟨m, e, rfl, hu, hn', q, he, beq_eq hc⟩)
      · cases hn
  · cases h

theorem run_checkKey_int {P : Program} {w : World} {e : TypeId} {q : IntKind} (he : P.underlying e = some (.int q)) (em : Bool) (n : Nat) (v : Value) : (Instr.checkKey em (n + 1) e v).run P w = .ok () w := by
  unfold Instr.checkKey
  simp only [Sem.run_bind, run_underlying he, Result.andThen_ok]
  cases v <;> rfl

theorem run_checkKey_ok {P : Program} {w : World} {t : TypeId} {key : Nat} (ht : keyOf P t = some key) {k : Value} (hk : keyOk key k = true) (em : Bool) : (Instr.checkKey em 10000 t k).run P w = .ok () w := by
  rcases keyOf_cases ht with ⟨rfl, q, hu⟩ | ⟨rfl, hu⟩ | ⟨n, e, rfl, hu, _, q, he, hc⟩
  · exact run_checkKey_int hu em 9999 k
  · unfold Instr.checkKey
    simp only [Sem.run_bind, run_underlying hu, Result.andThen_ok]
    unfold keyOk at hk
    split at hk
    · exact absurd ‹_› (by omega)
    · split at hk
      · rfl
      · cases hk
    · exact absurd ‹_› (by omega)
  · unfold keyOk at hk
    cases k <;> simp only [Bool.false_eq_true] at hk
    rename_i xs
    simp only [Bool.and_eq_true] at hk
    have hsz := beq_eq hk.1
    obtain ⟨i, hi⟩ := info_of_underlying' he
    rw [show (10000 : Nat) = 9999 + 1 from rfl]
    unfold Instr.checkKey
    simp only [Sem.run_bind, run_underlying hu, Result.andThen_ok]
    simp only [Std.Legacy.Range.forIn_eq_forIn_range', Std.Legacy.Range.size, Nat.sub_zero, Nat.add_one_sub_one, Nat.div_one]
    have hsize : (sizeOf e).run P w = .ok 1 w := by rw [run_sizeOf w hi, hc]
    have key : ∀ (m j : Nat), j + m = n → (forIn (List.range' j m) PUnit.unit fun i _ => (do Instr.checkKey em 9999 e (← part e xs (i * (← sizeOf e))); pure (ForInStep.yield PUnit.unit) : Sem (ForInStep PUnit)) : Sem PUnit).run P w = .ok () w := by
      intro m
      induction m with
      | zero => intro j _; simp
      | succ m ih =>
        intro j hj
        have hx : xs[j * 1]? = some xs[j] := by simp [show j < xs.size by omega]
        simp only [List.range'_succ, List.forIn_cons, Sem.run_bind, hsize, Result.andThen_ok, run_part_int he hx, run_checkKey_int he em 9998, Sem.run_pure]
        exact ih (j + 1) (by omega)
    have := key n 0 (by omega)
    simp only [this, Result.andThen_ok]
    rfl

/-- What is found. -/
def FRel (φ : Phi) : Option (Nat × Value) → Option (Nat × Value) → Prop
  | none, none => True
  | some (i, v), some (j, v') => i = j ∧ VRel φ v v'
  | _, _ => False

theorem EsRel.cons_inv {φ : Phi} {x : MapEntry} {l m : List MapEntry} (h : EsRel φ (x :: l) m) : ∃ x' l', m = x' :: l' ∧ MERel φ x x' ∧ EsRel φ l l' := by
  cases m with
  | nil => have := h.1; simp at this
  | cons x' l' => exact ⟨x', l', rfl, h.2 0 x x' rfl rfl, by simpa using h.1, fun i v v' a b => h.2 (i + 1) v v' (by simpa using a) (by simpa using b)⟩
theorem EsRel.nil_inv {φ : Phi} {m : List MapEntry} (h : EsRel φ [] m) : m = [] := by
  cases m with
  | nil => rfl
  | cons x l => have := h.1; simp at this

theorem findE_int {φ : Phi} {q : IntKind} : ∀ {es es' : List MapEntry} {k : Value} {i : Nat} {r : Option (Nat × Value)}, EsRel φ es es' → findE 0 k es i = some r →
    (∃ kd n, k = .int kd n) → ∃ r', Instr.findNow (.int q) k es' i = some r' ∧ FRel φ r r'
  | [], es', k, i, r, h, hf, _ => by
    rw [h.nil_inv]
    simp only [findE, Option.some.injEq] at hf
    subst hf
    exact ⟨none, rfl, trivial⟩
  | e :: es, es', k, i, r, h, hf, hk => by
    obtain ⟨e', es'', rfl, he, hes⟩ := h.cons_inv
    obtain ⟨kd, n, rfl⟩ := hk
    simp only [findE] at hf
    have hkey := he.key
    cases hq : keyEq 0 (.int kd n) e.key with
    | none => rw [hq] at hf; cases hf
    | some b =>
      unfold keyEq at hq
      simp only at hq
      split at hq
      · rename_i kd' m hek
        rw [hek] at hkey
        have hek' := hkey.int_inv
        cases hkk : kindEq kd kd' with
        | false => rw [hkk] at hq; cases hq
        | true =>
          rw [hkk] at hq
          simp only [cond_true, Option.some.injEq] at hq
          have := kindEq_eq hkk
          subst this
          rw [ieq_eq] at hq
          simp only [Instr.findNow, hek', Instr.sameNow, if_true]
          have hq2 : keyEq 0 (.int kd n) e.key = some b := by rw [hek]; simp [keyEq, hkk, ieq_eq, hq]
          rw [hq2] at hf
          cases b with
          | true =>
            simp only [Option.some.injEq] at hf
            subst hf
            rw [hq]
            exact ⟨some (i, e'.val), rfl, rfl, he.val⟩
          | false =>
            simp only at hf
            rw [hq]
            exact findE_int hes hf ⟨kd, n, rfl⟩
      · cases hq

theorem findE_str {φ : Phi} : ∀ {es es' : List MapEntry} {k : Value} {i : Nat} {r : Option (Nat × Value)}, EsRel φ es es' → findE 1 k es i = some r →
    (∃ s, k = .string s) → ∃ r', Instr.findNow .string k es' i = some r' ∧ FRel φ r r'
  | [], es', k, i, r, h, hf, _ => by
    rw [h.nil_inv]
    simp only [findE, Option.some.injEq] at hf
    subst hf
    exact ⟨none, rfl, trivial⟩
  | e :: es, es', k, i, r, h, hf, hk => by
    obtain ⟨e', es'', rfl, he, hes⟩ := h.cons_inv
    obtain ⟨s, rfl⟩ := hk
    simp only [findE] at hf
    have hkey := he.key
    cases hq : keyEq 1 (.string s) e.key with
    | none => rw [hq] at hf; cases hf
    | some b =>
      rw [hq] at hf
      unfold keyEq at hq
      simp only at hq
      split at hq
      · rename_i t hek
        rw [hek] at hkey
        have hek' : e'.key = .string t := by generalize e'.key = z at hkey; cases hkey; rfl
        simp only [Option.some.injEq] at hq
        simp only [Instr.findNow, hek', Instr.sameNow, beq_toListBytes, hq]
        cases b with
        | true =>
          simp only [Option.some.injEq] at hf
          subst hf
          exact ⟨some (i, e'.val), rfl, rfl, he.val⟩
        | false => exact findE_str hes hf ⟨s, rfl⟩
      · cases hq

theorem findE_arr {P : Program} {φ : Phi} {w : World} {t : TypeId} {n : Nat} (ht : intArr P t = some n) : ∀ {es es' : List MapEntry} {k : Value} {i : Nat} {r : Option (Nat × Value)}, EsRel φ es es' → findE (n + 2) k es i = some r →
    keyOk (n + 2) k = true → ∃ r', (Instr.findAsking t k es' i).run P w = .ok r' w ∧ FRel φ r r'
  | [], es', k, i, r, h, hf, _ => by
    rw [h.nil_inv]
    simp only [findE, Option.some.injEq] at hf
    subst hf
    exact ⟨none, by simp [Instr.findAsking], trivial⟩
  | e :: es, es', k, i, r, h, hf, hk => by
    obtain ⟨e', es'', rfl, he, hes⟩ := h.cons_inv
    simp only [findE] at hf
    have hkey := he.key
    cases hq : keyEq (n + 2) k e.key with
    | none => rw [hq] at hf; cases hf
    | some b =>
      rw [hq] at hf
      unfold keyEq at hq
      simp only at hq
      split at hq
      · rename_i xs
        split at hq
        · rename_i ys hek
          rw [hek] at hkey
          obtain ⟨ys', hek', hl⟩ := hkey.agg_inv
          cases hs : (Nat.beq xs.size n && Nat.beq ys.size n) with
          | false => rw [hs] at hq; cases hq
          | true =>
            rw [hs] at hq
            simp only [cond_true] at hq
            simp only [Bool.and_eq_true] at hs
            simp only [keyOk, Bool.and_eq_true] at hk
            have hxs : LRel φ xs.toList xs.toList := by
              have : ∀ l : List Value, allInts l = true → LRel φ l l := by
                intro l
                induction l with
                | nil => intro _; exact LRel.nil
                | cons x l ih =>
                  intro ha
                  simp only [allInts] at ha
                  split at ha
                  · exact LRel.cons (.int _ _) (ih ha)
                  · cases ha
              exact this _ hk.2
            have hq' := intEqs_rel hxs hl hq
            have s1 := beq_eq hs.1
            have s2 : ys'.size = n := by have := hl.1; simp at this; rw [← this]; exact beq_eq hs.2
            have heq := equal_ints ht xs ys' s1 s2 hq' w
            have heq' : (Op.equal t (.agg xs) e'.key).run P w = .ok b w := by rw [hek']; exact heq
            simp only [Instr.findAsking, Sem.run_bind, heq', Result.andThen_ok]
            cases b with
            | true =>
              simp only [Option.some.injEq] at hf
              subst hf
              exact ⟨some (i, e'.val), by simp, rfl, he.val⟩
            | false =>
              simp only [Bool.false_eq_true, if_false]
              exact findE_arr ht hes hf (by simp only [keyOk, Bool.and_eq_true]; exact hk)
        · cases hq
      · cases hq

theorem find_run {P : Program} {φ : Phi} {w : World} {t : TypeId} {key : Nat} (ht : keyOf P t = some key) {es es' : List MapEntry} {k : Value} {r : Option (Nat × Value)} (h : EsRel φ es es') (hf : findE key k es 0 = some r) (hk : keyOk key k = true) :
    ∃ r', (Instr.findKey t k es').run P w = .ok r' w ∧ FRel φ r r' := by
  rcases keyOf_cases ht with ⟨rfl, q, hu⟩ | ⟨rfl, hu⟩ | ⟨n, e, rfl, hu, hn, q, he, hc⟩
  · unfold keyOk at hk
    simp only at hk
    split at hk
    · obtain ⟨r', h1, h2⟩ := findE_int (q := q) h hf ⟨_, _, rfl⟩
      exact ⟨r', MapKept.run_findKey hu h1, h2⟩
    · cases hk
  · unfold keyOk at hk
    simp only at hk
    split at hk
    · obtain ⟨r', h1, h2⟩ := findE_str h hf ⟨_, rfl⟩
      exact ⟨r', MapKept.run_findKey hu h1, h2⟩
    · cases hk
  · obtain ⟨r', h1, h2⟩ := findE_arr (P := P) (w := w) hn h hf hk
    refine ⟨r', ?_, h2⟩
    have hfn : ∀ l : List MapEntry, Instr.findNow (.array n e) k l 0 = (match l with | [] => some none | _ => none) := by
      intro l
      cases l with
      | nil => rfl
      | cons x l => cases k <;> simp [Instr.findNow, Instr.sameNow]
    simp only [Instr.findKey, Sem.run_bind, run_underlying hu, Result.andThen_ok, hfn]
    cases es' with
    | nil => simpa [Instr.findAsking] using h1
    | cons x l => exact h1

theorem entsF_rel {φ : Phi} {h : AH} {B : Nat} {w : World} (E : Emb φ h B w) {m m' : Value} (hm : VRel φ m m') {es : List MapEntry} (he : entsF h m = some es) :
    (m = .map none ∧ m' = .map none ∧ es = []) ∨ ∃ r e es' c, m = .map (some r) ∧ φ r = some e ∧ m' = .map (some e.blk) ∧ w.heap[e.blk]? = some (.map es' c) ∧ EsRel φ es es'.toList ∧ (h.get r).kind = 2 ∧ (h.get r).slack = false ∧ (h.get r).ents = es ∧ (h.get r).clock = c := by
  unfold entsF at he
  split at he
  · simp only [Option.some.injEq] at he
    subst he
    cases hm
    exact .inl ⟨rfl, rfl, rfl⟩
  · rename_i r
    split at he
    · rename_i cells t fam sl es0 c st p hob
      simp only [Option.some.injEq] at he
      subst he
      cases hm with
      | map _ e hφ =>
        have hk : (h.get r).kind ≠ 0 := by rw [hob]; exact (by decide : (2 : Nat) ≠ 0)
        obtain ⟨e2, he2, hrel⟩ := E.obj r (E.dom r e hφ) hk
        have : e2 = e := by rw [hφ] at he2; exact (Option.some.inj he2).symm
        subst this
        rw [hob] at hrel
        rcases hrel with ⟨x, _⟩ | ⟨_, hs, es', b1, b2⟩ | ⟨x, _⟩ | ⟨x, _⟩
        · cases x
        · refine .inr ⟨r, e2, es', c, rfl, hφ, rfl, b1, b2, by rw [hob], by rw [hob]; exact hs, by rw [hob], by rw [hob]⟩
        · cases x
        · cases x
    · cases he
  · cases he

theorem lookup_run {P : Program} {w : World} {t kt et : TypeId} (ht : P.underlying t = some (.map kt et)) {k x : Value} {es : Array MapEntry} (hx : (x = .map none ∧ es = #[]) ∨ ∃ r c, x = .map (some r) ∧ w.heap[r]? = some (.map es c))
    (hck : ∀ em, (Instr.checkKey em 10000 kt k).run P w = .ok () w) {r : Option (Nat × Value)} (hfk : (Instr.findKey kt k es.toList).run P w = .ok r w) {z : Value} (hz : (zeroValue et).run P w = .ok z w) (ok : Bool) :
    (Instr.lookup t x k ok).run P w = .ok (match (r.map (·.2)) with | some v => (if ok then .tuple #[v, .bool true] else v) | none => (if ok then .tuple #[z, .bool false] else z)) w := by
  rcases hx with ⟨rfl, rfl⟩ | ⟨r0, c, rfl, hb⟩
  · cases r <;> simp only [Instr.lookup, Sem.run_bind, run_underlying ht, Result.andThen_ok, Sem.run_pure, hck, hfk, hz, Option.map]
  · cases r <;> simp only [Instr.lookup, Sem.run_bind, run_underlying ht, Result.andThen_ok, Sem.run_pure, MapKept.run_getObj_map hb, hck, hfk, hz, Option.map]

theorem lookF_gives {P : Program} {B : Nat} {φ : Phi} {h : AH} {w : World} (E : Emb φ h B w) {m k m' k' v : Value} (hm : VRel φ m m') (hk : VRel φ k k') {t kt et : TypeId} (ht : P.underlying t = some (.map kt et)) {key : Nat} (hkt : keyOf P kt = some key)
    {i : TypeInfo} {z : Value} (hi : P.info? et = some i) (hz : i.zero = some z) (hzp : plainC z = true) {ok : Bool} (hl : lookF key z h m k ok = some v) : ∃ v', VRel φ v v' ∧ (Instr.lookup t m' k' ok).run P w = .ok v' w := by
  unfold lookF at hl
  cases hes : entsF h m with
  | none => rw [hes] at hl; cases hl
  | some es =>
    rw [hes] at hl
    simp only at hl
    cases hko : keyOk key k with
    | false => rw [hko] at hl; cases hl
    | true =>
      rw [hko] at hl
      simp only [cond_true] at hl
      have hkk := keyOk_rel hk hko
      subst hkk
      have fin : ∀ (es' : Array MapEntry), EsRel φ es es'.toList → ((m' = .map none ∧ es' = #[]) ∨ ∃ r c, m' = .map (some r) ∧ w.heap[r]? = some (.map es' c)) → ∃ v', VRel φ v v' ∧ (Instr.lookup t m' k' ok).run P w = .ok v' w := by
        intro es' hrel hx
        cases hf : findE key k' es 0 with
        | none => rw [hf] at hl; cases hl
        | some r =>
          obtain ⟨r', h1, h2⟩ := find_run (w := w) hkt hrel hf hko
          refine ⟨_, ?_, lookup_run ht hx (run_checkKey_ok hkt hko) h1 (run_zeroValue hi hz) ok⟩
          rw [hf] at hl
          cases r with
          | none =>
            cases r' with
            | some x => exact h2.elim
            | none =>
              simp only [Option.some.injEq] at hl
              subst hl
              cases ok
              · exact VRel.plainC hzp
              · exact LRel.tuple (LRel.cons (VRel.plainC hzp) (LRel.cons (.bool _) LRel.nil))
          | some x =>
            obtain ⟨j, u⟩ := x
            cases r' with
            | none => exact h2.elim
            | some y =>
              obtain ⟨j', u'⟩ := y
              obtain ⟨rfl, hu⟩ := h2
              simp only [Option.some.injEq] at hl
              subst hl
              cases ok
              · exact hu
              · exact LRel.tuple (LRel.cons hu (LRel.cons (.bool _) LRel.nil))
      rcases entsF_rel E hm hes with ⟨rfl, rfl, rfl⟩ | ⟨r, e, es', c, rfl, hφ, rfl, hw, hrel, _⟩
      · exact fin #[] ⟨rfl, fun i v v' a => by simp at a⟩ (.inl ⟨rfl, rfl⟩)
      · exact fin es' hrel (.inr ⟨_, _, rfl, hw⟩)
end Go.Ds
