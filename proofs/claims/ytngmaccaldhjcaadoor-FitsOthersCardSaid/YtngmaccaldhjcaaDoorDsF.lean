import Derived.Test.YtngmaccaldhjcaaDoorDsE
import Derived.Laws.StructEq
import Derived.ChangeKeysEq
set_option linter.all false
set_option linter.unusedSimpArgs false
set_option linter.unnecessarySimpa false
set_option linter.unusedVariables false
set_option linter.unusedSectionVars false
set_option linter.unusedSectionVars false
set_option linter.unusedVariables false
namespace Go.Ds
variable [Inhabited Bound]

/-! ## Integers -/
theorem ile_eq (a b : Int) : ile a b = decide (a ≤ b) := by
  cases a <;> cases b <;> simp only [ile] <;> rw [Bool.eq_iff_iff] <;> simp [Nat.ble_eq] <;> omega
theorem ilt_eq (a b : Int) : ilt a b = decide (a < b) := by
  cases a <;> cases b <;> simp only [ilt] <;> rw [Bool.eq_iff_iff] <;> simp [Nat.blt_eq] <;> omega
theorem ieq_eq (a b : Int) : ieq a b = (a == b) := by
  cases a <;> cases b <;> simp only [ieq] <;> rw [Bool.eq_iff_iff] <;> simp <;> omega
theorem wrap_i64 (n : Int) (h : -9223372036854775808 ≤ n) (h' : n ≤ 9223372036854775807) : IntKind.wrap .i64 n = n := by
  have e : IntKind.wrap .i64 n = if (true && decide (n % 18446744073709551616 ≥ 9223372036854775808)) = true then n % 18446744073709551616 - 18446744073709551616 else n % 18446744073709551616 := rfl
  rw [e]
  simp only [Bool.true_and, decide_eq_true_eq]
  split <;> omega
theorem wrap_u64 (n : Nat) : IntKind.wrap .u64 (n : Int) = ((n % 18446744073709551616 : Nat) : Int) := by
  have e : IntKind.wrap .u64 (n : Int) = if (false && decide ((n : Int) % 18446744073709551616 ≥ 9223372036854775808)) = true then (n : Int) % 18446744073709551616 - 18446744073709551616 else (n : Int) % 18446744073709551616 := rfl
  rw [e]
  simp
theorem wrapF_eq (k : IntKind) (n : Int) : wrapF k n = k.wrap n := by
  unfold wrapF
  split
  · rw [ile_eq, ile_eq]
    by_cases h : -9223372036854775808 ≤ n ∧ n ≤ 9223372036854775807
    · have e1 : decide (Int.negSucc 9223372036854775807 ≤ n) = true := decide_eq_true h.1
      have e2 : decide (n ≤ Int.ofNat 9223372036854775807) = true := decide_eq_true h.2
      rw [e1, e2, wrap_i64 n h.1 h.2]; rfl
    · have : (decide (Int.negSucc 9223372036854775807 ≤ n) && decide (n ≤ Int.ofNat 9223372036854775807)) = false := by
        rw [Bool.and_eq_false_iff, decide_eq_false_iff_not, decide_eq_false_iff_not]
        by_cases h1 : -9223372036854775808 ≤ n
        · exact .inr (fun h2 => h ⟨h1, h2⟩)
        · exact .inl (fun h2 => h1 h2)
      rw [this]; rfl
  · split
    · rename_i m
      have e := wrap_u64 m
      show _ = IntKind.wrap .u64 (m : Int)
      rw [e]
      cases hb : Nat.blt m 18446744073709551616 with
      | true =>
        have : m < 18446744073709551616 := Nat.blt_eq ▸ hb
        rw [Nat.mod_eq_of_lt this]; rfl
      | false => rfl
    · rfl
  · rfl
theorem kindEq_eq {a b : IntKind} (h : kindEq a b = true) : a = b := by cases a <;> cases b <;> first | rfl | cases h

/-- What an operation of a program gives, whatever the world. -/
def Gives (P : Program) (s : Sem Value) (v : Value) : Prop := ∀ w, s.run P w = .ok v w

theorem intB_gives {P : Program} {op : BinOp} {k k' : IntKind} {a b : Int} {v : Value} (h : intB op k a b = some v) (hk : kindEq k k' = true ∨ isShift op = true) (t : TypeId) (x y : Operand) :
    Gives P (do eqGuard op t x y (.int k a) (.int k' b); binOp op t (.int k a) (.int k' b)) v ∧ ∃ u, v = u ∧ (∀ φ, VRel φ v v) := by
  have hv : ∀ φ, VRel φ v v := by
    intro φ
    cases op <;> simp only [intB] at h
    all_goals first
      | (simp only [Option.some.injEq] at h; subst h; first | exact .int _ _ | exact .bool _)
      | (split at h <;> first | (cases h; done) | (simp only [Option.some.injEq] at h; subst h; exact .int _ _))
      | (revert h; cases (ieq b (.ofNat 0)) <;> (intro h; first | (cases h; done) | (simp only [cond_false, Option.some.injEq] at h; subst h; exact .int _ _)))
      | (revert h; cases (ilt b (.ofNat 0)) <;> (intro h; first | (cases h; done) | (simp only [cond_false, Option.some.injEq] at h; subst h; exact .int _ _)))
  refine ⟨?_, v, rfl, hv⟩
  intro w
  by_cases hs : isShift op = true
  · have hmin : ∀ n, (Int.ofNat (Nat.pow 2 n)) = (2 : Int) ^ n := fun n => by
      show ((2 ^ n : Nat) : Int) = _
      exact Int.natCast_pow 2 n
    cases op <;> simp only [isShift, Bool.false_eq_true] at hs
    all_goals
      simp only [intB, ilt_eq] at h
      by_cases hb : b < 0
      · have : decide (b < Int.ofNat 0) = true := decide_eq_true hb
        rw [this] at h; cases h
      · have : decide (b < Int.ofNat 0) = false := decide_eq_false hb
        rw [this] at h
        simp only [cond_false, Option.some.injEq, hmin, wrapF_eq] at h
        subst h
        simp [eqGuard, binOp, Op.shift, hb]
  · have hkk : kindEq k k' = true := hk.resolve_right hs
    have e := kindEq_eq hkk
    subst e
    cases op <;> simp only [isShift, not_true_eq_false, Bool.false_eq_true, not_false_eq_true] at hs <;> simp only [intB] at h
    all_goals first
      | (simp only [Option.some.injEq, wrapF_eq, ieq_eq, ilt_eq, ile_eq] at h; subst h
         simp [eqGuard, binOp, Op.intArith, Op.intBits, Op.intCmp, bne]; done)
      | (rw [ieq_eq] at h
         by_cases hb : b = 0
         · subst hb; simp at h
         · have : (b == Int.ofNat 0) = false := by simpa using hb
           rw [this] at h
           simp only [cond_false, Option.some.injEq, wrapF_eq] at h
           subst h
           simp [eqGuard, binOp, Op.intDiv, hb])

theorem strB_gives {P : Program} {op : BinOp} {a b : ByteArray} {v : Value} (h : strB op a b = some v) (t : TypeId) (x y : Operand) :
    Gives P (do eqGuard op t x y (.string a) (.string b); binOp op t (.string a) (.string b)) v ∧ (∀ φ, VRel φ v v) := by
  constructor
  · intro w
    cases op <;> simp only [strB] at h
    all_goals first
      | (cases h; done)
      | (simp only [Option.some.injEq] at h; subst h; simp [eqGuard, binOp, Op.stringOp]; done)
      | (cases hb : Nat.ble (a.size + b.size) 1099511627776 with
         | false => rw [hb] at h; cases h
         | true =>
           rw [hb] at h
           simp only [cond_true, Option.some.injEq] at h
           subst h
           have hle : a.size + b.size ≤ 1099511627776 := Nat.le_of_ble_eq_true hb
           have hi : ¬ (((a.size + b.size : Nat) : Int) > IntKind.i64.max) := by
             have : IntKind.i64.max = 9223372036854775807 := by decide
             rw [this]; omega
           simp only [eqGuard, binOp, Op.stringOp]
           rw [if_neg hi]
           simp)
  · intro φ
    cases op <;> simp only [strB] at h
    all_goals first
      | (cases h; done)
      | (simp only [Option.some.injEq] at h; subst h; exact .bool _)
      | (cases hb : Nat.ble (a.size + b.size) 1099511627776 with
         | false => rw [hb] at h; cases h
         | true => rw [hb] at h; simp only [cond_true, Option.some.injEq] at h; subst h; exact .str _)

theorem binF_gives {P : Program} {φ : Phi} {op : BinOp} {x y x' y' v : Value} (hx : VRel φ x x') (hy : VRel φ y y') (h : binF op x y = some v) (t : TypeId) (ox oy : Operand) :
    ∃ v', VRel φ v v' ∧ Gives P (do eqGuard op t ox oy x' y'; binOp op t x' y') v' := by
  unfold binF at h
  split at h
  · cases hx
    split at h
    · cases hy
      rename_i k a _ k' b
      cases hb : (kindEq k k' || isShift op) with
      | false => rw [hb] at h; cases h
      | true =>
        rw [hb] at h
        simp only [cond_true] at h
        obtain ⟨g, _, _, r⟩ := intB_gives (P := P) (k' := k') h (by simpa using hb) t ox oy
        exact ⟨v, r φ, g⟩
    · cases h
  · cases hx
    split at h
    · cases hy
      obtain ⟨g, r⟩ := strB_gives (P := P) h t ox oy
      exact ⟨v, r φ, g⟩
    · cases h
  · cases h

theorem eqBF_gives {P : Program} {φ : Phi} {neg : Bool} {x y x' y' v : Value} (hx : VRel φ x x') (hy : VRel φ y y') (h : eqBF neg x y = some v) (t : TypeId) (ht : P.underlying t = some .bool) (ox oy : Operand) :
    ∃ v', VRel φ v v' ∧ Gives P (do eqGuard (if neg then .neq else .eql) t ox oy x' y'; binOp (if neg then .neq else .eql) t x' y') v' := by
  unfold eqBF at h
  split at h
  · cases hx
    split at h
    · cases hy
      simp only [Option.some.injEq] at h
      subst h
      refine ⟨_, .bool _, fun w => ?_⟩
      cases neg <;> simp [eqGuard, binOp, run_equal_bool w t _ _ ht]
    · cases h
  · cases h

theorem eqSF_gives {P : Program} {φ : Phi} {neg : Bool} {x x' v : Value} (hx : VRel φ x x') (h : eqSF neg x = some v) (t e : TypeId) (ht : P.underlying t = some (.slice e)) (ox oy : Operand) :
    ∃ v', VRel φ v v' ∧ Gives P (do eqGuard (if neg then .neq else .eql) t ox oy x' (.slice none 0 0); binOp (if neg then .neq else .eql) t x' (.slice none 0 0)) v' := by
  unfold eqSF at h
  split at h
  · rename_i a l c
    simp only [Option.some.injEq] at h
    subst h
    refine ⟨_, .bool _, fun w => ?_⟩
    obtain ⟨a', l', c', rfl, ha⟩ : ∃ a' l' c', x' = .slice a' l' c' ∧ a'.isNone = a.isNone := by
      cases hx <;> exact ⟨_, _, _, rfl, rfl⟩
    have he : (Op.equal t (.slice a' l' c') (.slice none 0 0)).run P w = .ok a'.isNone w := by
      have gen : ∀ d, (Op.equalIn (d + 1) t (.slice a' l' c') (.slice none 0 0)).run P w = .ok a'.isNone w := by
        intro d
        cases a' <;> simp [Op.equalIn, run_underlying ht]
      exact gen 9999
    rw [← ha]
    cases neg <;> simp [eqGuard, binOp, he]
  · cases h

theorem drop_cons {α : Type} {l : List α} {j : Nat} (h : j < l.length) : l.drop j = l[j] :: l.drop (j + 1) := by
  rw [List.drop_eq_getElem_cons h]

theorem run_part_int {P : Program} {w : World} {e : TypeId} {k : IntKind} (he : P.underlying e = some (.int k)) {xs : Array Value} {off : Nat} {v : Value} (hx : xs[off]? = some v) : (part e xs off).run P w = .ok v w := by
  simp [part, isAgg, run_underlying he, hx]

theorem eqItems_int {P : Program} {d : Nat} {e : TypeId} {k0 : IntKind} (he : P.underlying e = some (.int k0)) (xs ys : Array Value) (hs : xs.size = ys.size) : ∀ (m j : Nat) (r : Bool) (w : World), j + m = xs.size →
    intEqs (xs.toList.drop j) (ys.toList.drop j) = some r → (Op.eqItems (d + 1) e 1 xs ys (List.range' j m)).run P w = .ok r w := by
  intro m
  induction m with
  | zero =>
    intro j r w hj h
    have h1 : xs.toList.drop j = [] := List.drop_eq_nil_of_le (by simp; omega)
    have h2 : ys.toList.drop j = [] := List.drop_eq_nil_of_le (by simp; omega)
    rw [h1, h2] at h
    simp only [intEqs, Option.some.injEq] at h
    subst h
    simp [Op.eqItems]
  | succ m ih =>
    intro j r w hj h
    have hx : j < xs.toList.length := by simp; omega
    have hy : j < ys.toList.length := by simp; omega
    rw [drop_cons hx, drop_cons hy] at h
    simp only [intEqs] at h
    split at h
    · rename_i k a e1
      split at h
      · rename_i k' b e2
        cases hk : kindEq k k' with
        | false => rw [hk] at h; cases h
        | true =>
          have := kindEq_eq hk
          subst this
          rw [hk] at h
          simp only [cond_true] at h
          have g1 : xs[j * 1]? = some (.int k a) := by rw [Nat.mul_one, ← e1]; simp [show j < xs.size by simpa using hx]
          have g2 : ys[j * 1]? = some (.int k b) := by rw [Nat.mul_one, ← e2]; simp [show j < ys.size by simpa using hy]
          rw [List.range'_succ]
          simp only [Op.eqItems, Sem.run_bind, run_part_int he g1, run_part_int he g2, Result.andThen_ok, run_equalIn_int w d e k k0 a b he]
          rw [ieq_eq] at h
          by_cases hab : a = b
          · subst hab
            simp only [beq_self_eq_true, cond_true] at h
            have := ih (j + 1) r w (by omega) h
            simpa using this
          · have hf : (a == b) = false := by simpa using hab
            rw [hf] at h ⊢
            simp only [cond_false, Option.some.injEq] at h
            subst h
            simp
      · cases h
    · cases h

theorem eqFields_int {P : Program} {d : Nat} (xs ys : Array Value) (hs : xs.size = ys.size) : ∀ (fs : List Field) (j : Nat) (r : Bool) (w : World), j + fs.length = xs.size → fs.all (intField P) = true → offsOk fs j = true →
    intEqs (xs.toList.drop j) (ys.toList.drop j) = some r → (Op.eqFields (d + 1) xs ys fs).run P w = .ok r w := by
  intro fs
  induction fs with
  | nil =>
    intro j r w hj _ _ h
    have h1 : xs.toList.drop j = [] := List.drop_eq_nil_of_le (by simp at hj ⊢; omega)
    have h2 : ys.toList.drop j = [] := List.drop_eq_nil_of_le (by simp at hj ⊢; omega)
    rw [h1, h2] at h
    simp only [intEqs, Option.some.injEq] at h
    subst h
    simp [Op.eqFields]
  | cons f fs ih =>
    intro j r w hj ha ho h
    simp only [List.length_cons] at hj
    have hx : j < xs.toList.length := by simp; omega
    have hy : j < ys.toList.length := by simp; omega
    rw [drop_cons hx, drop_cons hy] at h
    simp only [List.all_cons, Bool.and_eq_true] at ha
    simp only [offsOk, Bool.and_eq_true] at ho
    obtain ⟨ha1, ha2⟩ := ha
    obtain ⟨ho1, ho2⟩ := ho
    have hoff : f.offset = j := Nat.eq_of_beq_eq_true ho1
    simp only [intField, Bool.and_eq_true, Bool.not_eq_true', beq_eq_false_iff_ne] at ha1
    obtain ⟨hn, ht⟩ := ha1
    split at ht
    · rename_i k0 hu
      simp only [intEqs] at h
      split at h
      · rename_i k a e1
        split at h
        · rename_i k' b e2
          cases hk : kindEq k k' with
          | false => rw [hk] at h; cases h
          | true =>
            have := kindEq_eq hk
            subst this
            rw [hk] at h
            simp only [cond_true] at h
            have g1 : xs[f.offset]? = some (.int k a) := by rw [hoff, ← e1]; simp [show j < xs.size by simpa using hx]
            have g2 : ys[f.offset]? = some (.int k b) := by rw [hoff, ← e2]; simp [show j < ys.size by simpa using hy]
            simp only [Op.eqFields, hn, ne_eq, not_false_eq_true, if_true, Sem.run_bind, run_part_int hu g1, run_part_int hu g2, Result.andThen_ok, run_equalIn_int w d f.type k k0 a b hu]
            rw [ieq_eq] at h
            by_cases hab : a = b
            · subst hab
              simp only [beq_self_eq_true, cond_true] at h
              have := ih (j + 1) r w (by omega) ha2 ho2 h
              simpa using this
            · have hf : (a == b) = false := by simpa using hab
              rw [hf] at h ⊢
              simp only [cond_false, Option.some.injEq] at h
              subst h
              simp
        · cases h
      · cases h
    · cases ht

theorem intEqs_rel {φ : Phi} : ∀ {l l' m m' : List Value} {r : Bool}, LRel φ l l' → LRel φ m m' → intEqs l m = some r → intEqs l' m' = some r
  | [], l', m, m', r, h, k, e => by
    rw [h.nil_inv]
    cases m with
    | nil => rw [k.nil_inv]; exact e
    | cons y m => simp [intEqs] at e
  | x :: l, l', m, m', r, h, k, e => by
    obtain ⟨x', l'', rfl, hx, hl⟩ := h.cons_inv
    cases m with
    | nil => simp [intEqs] at e
    | cons y m =>
      obtain ⟨y', m'', rfl, hy, hm⟩ := k.cons_inv
      simp only [intEqs] at e ⊢
      split at e
      · cases hx
        split at e
        · cases hy
          rename_i k1 a _ k2 b
          dsimp only
          cases hk : kindEq k1 k2 with
          | false => rw [hk] at e; cases e
          | true =>
            rw [hk] at e
            simp only [cond_true] at e ⊢
            cases hi : ieq a b with
            | true => rw [hi] at e; exact intEqs_rel hl hm e
            | false => rw [hi] at e; exact e
        · cases e
      · cases e

theorem info_of_underlying' {P : Program} {t : TypeId} {d : TypeDesc} (h : P.underlying t = some d) : ∃ i, P.info? t = some i := by
  unfold Program.underlying at h
  split at h
  · exact ⟨_, by assumption⟩
  · exact ⟨_, by assumption⟩
  · cases h

theorem equal_ints {P : Program} {t : TypeId} {n : Nat} (ht : intArr P t = some n) (xs ys : Array Value) (hx : xs.size = n) (hy : ys.size = n) {r : Bool} (h : intEqs xs.toList ys.toList = some r) (w : World) :
    (Op.equalIn 10000 t (.agg xs) (.agg ys)).run P w = .ok r w := by
  unfold intArr at ht
  cases hg : P.eqGuardType P.depth t with
  | true => rw [hg] at ht; cases ht
  | false =>
    rw [hg] at ht
    simp only [cond_false] at ht
    split at ht
    · rename_i m e hu
      split at ht
      · rename_i k he
        cases hc : Nat.beq (P.cellsOf e) 1 with
        | false => rw [hc] at ht; cases ht
        | true =>
          rw [hc] at ht
          simp only [cond_true, Option.some.injEq] at ht
          subst ht
          have hc' : P.cellsOf e = 1 := Nat.eq_of_beq_eq_true hc
          obtain ⟨i, hi⟩ := info_of_underlying' he
          have := run_equalIn_array (P := P) w 9999 xs ys hu hi
          rw [show (10000 : Nat) = 9999 + 1 from rfl, this, hc', List.range_eq_range']
          exact eqItems_int (d := 9998) he xs ys (by omega) m 0 r w (by omega) (by simpa using h)
      · cases ht
    · rename_i fs hu
      cases hb : (!P.stoodInHeld t && fs.toList.all (intField P) && offsOk fs.toList 0) with
      | false => rw [hb] at ht; cases ht
      | true =>
        rw [hb] at ht
        simp only [cond_true, Option.some.injEq] at ht
        simp only [Bool.and_eq_true, Bool.not_eq_true'] at hb
        obtain ⟨⟨h1, h2⟩, h3⟩ := hb
        have hf : P.fieldsOf t = fs := by simp [Program.fieldsOf, hu]
        have := run_equalIn_struct (P := P) w 9999 t xs ys (by rw [hf]; exact hu) h1
        rw [show (10000 : Nat) = 9999 + 1 from rfl, this, hf]
        exact eqFields_int (d := 9998) xs ys (by omega) fs.toList 0 r w (by simp; omega) h2 h3 (by simpa using h)
    · cases ht

/-! ### Aggregates of integers at any depth -/
/-- The value of cells of such a type. -/
def fv (P : Program) (t : TypeId) (xs : List Value) : Value :=
  match P.underlying t with
  | some (.int _) => xs.headD (.bool false)
  | _ => .agg xs.toArray
theorem intEqs_app : ∀ {a a' b b' : List Value} {r : Bool}, a.length = a'.length → intEqs (a ++ b) (a' ++ b') = some r → ∃ r1, intEqs a a' = some r1 ∧ ((r1 = false ∧ r = false) ∨ (r1 = true ∧ intEqs b b' = some r))
  | [], [], b, b', r, _, h => ⟨true, rfl, .inr ⟨rfl, h⟩⟩
  | x :: a, y :: a', b, b', r, hl, h => by
    simp only [List.cons_append, intEqs] at h ⊢
    split at h
    · split at h
      · rename_i k1 p _ k2 q
        cases hk : kindEq k1 k2 with
        | false => rw [hk] at h; cases h
        | true =>
          rw [hk] at h
          simp only [cond_true] at h ⊢
          cases hi : ieq p q with
          | true => rw [hi] at h; exact intEqs_app (by simpa using hl) h
          | false =>
            rw [hi] at h
            simp only [cond_false, Option.some.injEq] at h
            subst h
            exact ⟨false, rfl, .inl ⟨rfl, rfl⟩⟩
      · cases h
    · cases h
theorem fv_part {P : Program} {w : World} {d : Nat} {t : TypeId} {m : Nat} (h : flatT P d t = some m) (hc : P.cellsOf t = m) (xs : List Value) (off : Nat) (hl : off + m ≤ xs.length) : (part t xs.toArray off).run P w = .ok (fv P t ((xs.drop off).take m)) w := by
  cases d with
  | zero => cases h
  | succ d =>
    unfold flatT at h
    have agg : ∀ {ds}, P.underlying t = some ds → (Go.isAgg t).run P w = .ok true w → (∀ k, ds ≠ .int k) → (part t xs.toArray off).run P w = .ok (fv P t ((xs.drop off).take m)) w := by
      intro ds hu ha hk
      obtain ⟨i, hi⟩ := info_of_underlying' hu
      have hs : (sizeOf t).run P w = .ok m w := by simp [sizeOf, typeInfo, hi, ← hc, Program.cellsOf]
      have hf : fv P t ((xs.drop off).take m) = .agg ((xs.drop off).take m).toArray := by
        unfold fv
        rw [hu]
        cases ds <;> first | rfl | exact absurd rfl (hk _)
      rw [hf]
      simp only [part, Sem.run_bind, ha, Result.andThen_ok, if_true, hs, Sem.run_pure]
      congr 2
      rw [← Array.toList_inj]
      simp [List.drop_take]
    split at h
    · rename_i k hu
      simp only [Option.some.injEq] at h
      subst h
      have hx : off < xs.length := by omega
      rw [run_part_int hu (v := xs[off]) (by simp [hx])]
      unfold fv
      rw [hu, List.drop_eq_getElem_cons hx]
      rfl
    · rename_i n e hu
      exact agg hu (by simp [isAgg, run_underlying hu]) (fun k => by simp)
    · rename_i fs hu
      exact agg hu (by simp [isAgg, run_underlying hu]) (fun k => by simp)
    · cases h
theorem flat_fields {P : Program} {d k : Nat} (ih : ∀ (t : TypeId) (n : Nat), flatT P d t = some n → ∀ (xs ys : List Value), xs.length = n → ys.length = n → ∀ (r : Bool) (w : World), intEqs xs ys = some r → (Op.equalIn (k + d) t (fv P t xs) (fv P t ys)).run P w = .ok r w) (xs ys : List Value) (hs : xs.length = ys.length) :
    ∀ (fs : List Field) (i n : Nat), flatGo P (flatT P d) fs i = some n → n = xs.length → ∀ (r : Bool) (w : World), intEqs (xs.drop i) (ys.drop i) = some r → (Op.eqFields (k + d) xs.toArray ys.toArray fs).run P w = .ok r w
  | [], i, n, h, hn, r, w, hr => by
    simp only [flatGo, Option.some.injEq] at h
    subst h
    rw [List.drop_of_length_le (by omega), List.drop_of_length_le (by omega)] at hr
    simp only [intEqs, Option.some.injEq] at hr
    subst hr
    simp [Op.eqFields]
  | fd :: l, i, n, h, hn, r, w, hr => by
    unfold flatGo at h
    cases hb : (!(fd.name == "_") && Nat.beq fd.offset i) with
    | false => rw [hb] at h; cases h
    | true =>
      rw [hb] at h
      simp only [cond_true] at h
      simp only [Bool.and_eq_true, Bool.not_eq_true', beq_eq_false_iff_ne] at hb
      have hoff : fd.offset = i := Nat.eq_of_beq_eq_true hb.2
      split at h
      · rename_i m hm
        cases hc : Nat.beq (P.cellsOf fd.type) m with
        | false => rw [hc] at h; cases h
        | true =>
          rw [hc] at h
          simp only [cond_true] at h
          have hcm : P.cellsOf fd.type = m := Nat.eq_of_beq_eq_true hc
          have hle : i + m ≤ n := by
            have : ∀ (l : List Field) (j n : Nat), flatGo P (flatT P d) l j = some n → j ≤ n := by
              intro l
              induction l with
              | nil => intro j n h; simp only [flatGo, Option.some.injEq] at h; omega
              | cons f l ih2 =>
                intro j n h
                unfold flatGo at h
                cases hb : (!(f.name == "_") && Nat.beq f.offset j) with
                | false => rw [hb] at h; cases h
                | true =>
                  rw [hb] at h
                  simp only [cond_true] at h
                  split at h
                  · rename_i m' _
                    cases hc : Nat.beq (P.cellsOf f.type) m' with
                    | false => rw [hc] at h; cases h
                    | true => rw [hc] at h; have := ih2 _ _ h; omega
                  · cases h
            exact this l _ _ h
          have p1 := fv_part (w := w) hm hcm xs i (by omega)
          have p2 := fv_part (w := w) hm hcm ys i (by omega)
          have sp : ∀ zs : List Value, zs.drop i = (zs.drop i).take m ++ zs.drop (i + m) := fun zs => by rw [← List.drop_drop, List.take_append_drop]
          rw [sp xs, sp ys] at hr
          obtain ⟨r1, h1, h2⟩ := intEqs_app (by simp; omega) hr
          have q := ih fd.type m hm ((xs.drop i).take m) ((ys.drop i).take m) (by simp; omega) (by simp; omega) r1 w h1
          simp only [Op.eqFields, hb.1, ne_eq, not_false_eq_true, if_true, Sem.run_bind, hoff, p1, p2, Result.andThen_ok, q]
          rcases h2 with ⟨rfl, rfl⟩ | ⟨rfl, h2⟩
          · simp
          · have := flat_fields ih xs ys hs l (i + m) n h hn r w h2
            simpa using this
      · cases h
theorem flat_items {P : Program} {d k : Nat} {e : TypeId} {m : Nat} (hm : flatT P d e = some m) (hc : P.cellsOf e = m) (ih : ∀ (xs ys : List Value), xs.length = m → ys.length = m → ∀ (r : Bool) (w : World), intEqs xs ys = some r → (Op.equalIn (k + d) e (fv P e xs) (fv P e ys)).run P w = .ok r w) (xs ys : List Value) (hs : xs.length = ys.length) :
    ∀ (c j : Nat), (j + c) * m = xs.length → ∀ (r : Bool) (w : World), intEqs (xs.drop (j * m)) (ys.drop (j * m)) = some r → (Op.eqItems (k + d) e m xs.toArray ys.toArray (List.range' j c)).run P w = .ok r w
  | 0, j, hn, r, w, hr => by
    rw [Nat.add_zero] at hn
    rw [List.drop_of_length_le (by omega), List.drop_of_length_le (by omega)] at hr
    simp only [intEqs, Option.some.injEq] at hr
    subst hr
    simp [Op.eqItems]
  | c + 1, j, hn, r, w, hr => by
    have hn' : (j + 1 + c) * m = xs.length := by rw [← hn]; congr 1; omega
    have e1 : (j + 1) * m = j * m + m := Nat.succ_mul j m
    have hle : j * m + m ≤ xs.length := by
      rw [← hn', ← e1]
      exact Nat.mul_le_mul_right m (by omega)
    have p1 := fv_part (w := w) hm hc xs (j * m) (by omega)
    have p2 := fv_part (w := w) hm hc ys (j * m) (by omega)
    have sp : ∀ zs : List Value, zs.drop (j * m) = (zs.drop (j * m)).take m ++ zs.drop ((j + 1) * m) := fun zs => by rw [e1, ← List.drop_drop, List.take_append_drop]
    rw [sp xs, sp ys] at hr
    obtain ⟨r1, h1, h2⟩ := intEqs_app (by simp; omega) hr
    have q := ih ((xs.drop (j * m)).take m) ((ys.drop (j * m)).take m) (by simp; omega) (by simp; omega) r1 w h1
    rw [List.range'_succ]
    simp only [Op.eqItems, Sem.run_bind, p1, p2, Result.andThen_ok, q]
    rcases h2 with ⟨rfl, rfl⟩ | ⟨rfl, h2⟩
    · simp
    · have := flat_items hm hc ih xs ys hs c (j + 1) hn' r w h2
      simpa using this
theorem flat_eq {P : Program} : ∀ (d : Nat) (t : TypeId) (n : Nat), flatT P d t = some n → ∀ (k : Nat) (xs ys : List Value), xs.length = n → ys.length = n → ∀ (r : Bool) (w : World), intEqs xs ys = some r → (Op.equalIn (k + d) t (fv P t xs) (fv P t ys)).run P w = .ok r w
  | 0, t, n, h, k, xs, ys, hx, hy, r, w, hr => by cases h
  | d + 1, t, n, h, k, xs, ys, hx, hy, r, w, hr => by
    have h0 := h
    unfold flatT at h
    split at h
    · rename_i k0 hu
      simp only [Option.some.injEq] at h
      subst h
      match xs, ys, hx, hy with
      | [x], [y], _, _ =>
        have e : ∀ z : Value, fv P t [z] = z := fun z => by unfold fv; rw [hu]; rfl
        rw [e, e]
        simp only [intEqs] at hr
        split at hr
        · split at hr
          · rename_i k1 a _ _ k2 b _
            cases hk : kindEq k1 k2 with
            | false => rw [hk] at hr; cases hr
            | true =>
              have := kindEq_eq hk
              subst this
              rw [hk] at hr
              simp only [cond_true] at hr
              rw [← Nat.add_assoc, run_equalIn_int w (k + d) t k1 k0 a b hu]
              rw [ieq_eq] at hr
              by_cases hab : a = b
              · subst hab
                simp only [beq_self_eq_true, cond_true, Option.some.injEq] at hr ⊢
                rw [hr]
              · have hf : (a == b) = false := by simpa using hab
                rw [hf] at hr ⊢
                simp only [cond_false, Option.some.injEq] at hr
                rw [hr]
          · cases hr
        · cases hr
    · rename_i m e hu
      split at h
      · rename_i c hc
        cases hb : Nat.beq (P.cellsOf e) c with
        | false => rw [hb] at h; cases h
        | true =>
          rw [hb] at h
          simp only [cond_true, Option.some.injEq] at h
          subst h
          have hcc : P.cellsOf e = c := Nat.eq_of_beq_eq_true hb
          have ef : ∀ zs : List Value, fv P t zs = .agg zs.toArray := fun zs => by unfold fv; rw [hu]
          obtain ⟨i, hi⟩ : ∃ i, P.info? e = some i := by
            cases d with
            | zero => cases hc
            | succ d =>
              unfold flatT at hc
              split at hc
              · rename_i q; exact info_of_underlying' q
              · rename_i q; exact info_of_underlying' q
              · rename_i q; exact info_of_underlying' q
              · cases hc
          rw [ef, ef, ← Nat.add_assoc, run_equalIn_array (P := P) w (k + d) _ _ hu hi, hcc, List.range_eq_range']
          exact flat_items hc hcc (fun xs ys a b r w h => flat_eq d e c hc k xs ys a b r w h) xs ys (by omega) m 0 (by rw [Nat.zero_add]; exact hx.symm) r w (by rw [Nat.zero_mul]; exact hr)
      · cases h
    · rename_i fs hu
      cases hb : P.stoodInHeld t with
      | true => rw [hb] at h; cases h
      | false =>
        rw [hb] at h
        simp only [cond_false] at h
        have ef : ∀ zs : List Value, fv P t zs = .agg zs.toArray := fun zs => by unfold fv; rw [hu]
        have hf : P.fieldsOf t = fs := by simp [Program.fieldsOf, hu]
        rw [ef, ef, ← Nat.add_assoc, run_equalIn_struct (P := P) w (k + d) t _ _ (by rw [hf]; exact hu) hb, hf]
        exact flat_fields (fun t n q xs ys a b r w h => flat_eq d t n q k xs ys a b r w h) xs ys (by omega) fs.toList 0 n h hx.symm r w hr
    · cases h
theorem equal_flat {P : Program} {t : TypeId} {n : Nat} (ht : flatArr P t = some n) (xs ys : Array Value) (hx : xs.size = n) (hy : ys.size = n) {r : Bool} (h : intEqs xs.toList ys.toList = some r) (w : World) :
    (Op.equalIn 10000 t (.agg xs) (.agg ys)).run P w = .ok r w ∧ P.eqGuardType P.depth t = false := by
  unfold flatArr at ht
  split at ht
  · rename_i m hm
    simp only [Option.some.injEq] at ht
    subst ht
    refine ⟨equal_ints hm xs ys hx hy h w, ?_⟩
    unfold intArr at hm
    cases hg : P.eqGuardType P.depth t with
    | true => rw [hg] at hm; cases hm
    | false => rfl
  · cases hg : P.eqGuardType P.depth t with
    | true => rw [hg] at ht; cases ht
    | false =>
      rw [hg] at ht
      simp only [cond_false] at ht
      split at ht
      · cases ht
      · rename_i hni
        have := flat_eq 6 t n ht 9994 xs.toList ys.toList (by simpa using hx) (by simpa using hy) r w h
        have ef : ∀ zs : List Value, fv P t zs = .agg zs.toArray := fun zs => by
          unfold fv
          split
          · rename_i k hk; exact absurd hk (hni k)
          · rfl
        rw [ef, ef] at this
        exact ⟨by simpa using this, rfl⟩

theorem eqAF_gives {P : Program} {φ : Phi} {neg : Bool} {n : Nat} {x y x' y' v : Value} (hx : VRel φ x x') (hy : VRel φ y y') (h : eqAF neg n x y = some v) (t : TypeId) (ht : flatArr P t = some n) (ox oy : Operand) :
    ∃ v', VRel φ v v' ∧ Gives P (do eqGuard (if neg then .neq else .eql) t ox oy x' y'; binOp (if neg then .neq else .eql) t x' y') v' := by
  unfold eqAF at h
  split at h
  · split at h
    · rename_i a _ b
      obtain ⟨a', rfl, ha⟩ := hx.agg_inv
      obtain ⟨b', rfl, hb⟩ := hy.agg_inv
      cases hs : (Nat.beq a.size n && Nat.beq b.size n) with
      | false => rw [hs] at h; cases h
      | true =>
        rw [hs] at h
        simp only [cond_true, Option.map_eq_some_iff] at h
        obtain ⟨r, hr, rfl⟩ := h
        simp only [Bool.and_eq_true] at hs
        have s1 : a'.size = n := by have := ha.1; simp at this; rw [← this]; exact Nat.eq_of_beq_eq_true hs.1
        have s2 : b'.size = n := by have := hb.1; simp at this; rw [← this]; exact Nat.eq_of_beq_eq_true hs.2
        have hr' := intEqs_rel ha hb hr
        refine ⟨_, .bool _, fun w => ?_⟩
        obtain ⟨he, hg⟩ := equal_flat ht a' b' s1 s2 hr' w
        cases neg
        · simp only [Bool.false_eq_true, if_false, Sem.run_bind, run_eqGuard_agg w .eql t ox oy a' b' hg, Result.andThen_ok, run_eql_struct, he, cond_false]
        · simp only [if_true, Sem.run_bind, run_eqGuard_agg w .neq t ox oy a' b' hg, Result.andThen_ok, run_neq_struct, he, cond_true]
    · cases h
  · cases h

theorem unF_gives {P : Program} {φ : Phi} {op : UnOp} {x x' v : Value} (hx : VRel φ x x') (h : unF op x = some v) : ∃ v', VRel φ v v' ∧ Gives P (Op.unary op x') v' := by
  unfold unF at h
  split at h
  · split at h
    · cases hx
      simp only [Option.some.injEq] at h
      subst h
      exact ⟨_, .bool _, fun w => by simp [Op.unary]⟩
    · cases h
  · split at h
    · cases hx
      simp only [Option.some.injEq] at h
      subst h
      exact ⟨_, .int _ _, fun w => by simp [Op.unary, Op.intArith, wrapF_eq]⟩
    · cases h
  · cases h

theorem pickF_gives {P : Program} {φ : Phi} {c a b c' a' b' v : Value} (hc : VRel φ c c') (ha : VRel φ a a') (hb : VRel φ b b') (h : pickF c a b = some v) :
    ∃ v', VRel φ v v' ∧ Gives P (do pure (if ← asBool c' then a' else b')) v' := by
  unfold pickF at h
  split at h
  · cases hc
    rename_i t
    simp only [Option.some.injEq] at h
    subst h
    cases t
    · exact ⟨b', hb, fun w => by simp [asBool]⟩
    · exact ⟨a', ha, fun w => by simp [asBool]⟩
  · cases h

theorem convF_gives {P : Program} {φ : Phi} {k : IntKind} {x x' v : Value} (hx : VRel φ x x') (h : convF k x = some v) {s d : TypeId} {ks : IntKind} (hs : P.underlying s = some (.int ks)) (hd : P.underlying d = some (.int k)) :
    ∃ v', VRel φ v v' ∧ Gives P (convert s d x') v' := by
  unfold convF at h
  split at h
  · cases hx
    simp only [Option.some.injEq] at h
    subst h
    exact ⟨_, .int _ _, fun w => by simp [convert, run_underlying hs, run_underlying hd, Conv.intToInt, wrapF_eq]⟩
  · cases h
theorem sconvF_gives {P : Program} {φ : Phi} {x x' v : Value} (hx : VRel φ x x') (h : sconvF x = some v) {s d : TypeId} (hs : P.underlying s = some .string) (hd : P.underlying d = some .string) :
    ∃ v', VRel φ v v' ∧ Gives P (convert s d x') v' := by
  unfold sconvF at h
  split at h
  · cases hx
    simp only [Option.some.injEq] at h
    subst h
    exact ⟨_, .str _, fun w => by simp [convert, run_underlying hs, run_underlying hd]⟩
  · cases h
end Go.Ds
