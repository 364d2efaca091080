import Derived.Test.YtngmaccaldhjcaaDoorDsU
set_option linter.all false
set_option linter.unusedSimpArgs false
set_option linter.unnecessarySimpa false
set_option linter.unusedVariables false
set_option linter.unusedSectionVars false
set_option linter.unusedSectionVars false
set_option linter.unusedVariables false
namespace Go.Ds
variable [Inhabited Bound]

/-! ## Who waits for whom -/
theorem hasBit_eq (b j : Nat) : hasBit b j = b.testBit j := by
  rw [Nat.testBit_eq_decide_div_mod_eq]
  unfold hasBit
  show Nat.beq (b / 2 ^ j % 2) 1 = _
  cases h : Nat.beq (b / 2 ^ j % 2) 1 with
  | true => rw [beq_eq h]; rfl
  | false =>
    have : ¬ (b / 2 ^ j % 2 = 1) := fun e => by rw [e] at h; cases h
    simp [this]
theorem orBits_spec (bs : List Nat) (j : Nat) : ∀ l : List Nat, hasBit (orBits bs l) j = true ↔ ∃ e ∈ l, j = e ∨ hasBit (nthN bs e) j = true
  | [] => by simp [orBits, hasBit_eq]
  | e :: l => by
    have ih := orBits_spec bs j l
    rw [hasBit_eq] at ih
    rw [hasBit_eq]
    show ((2 ^ e ||| nthN bs e) ||| orBits bs l).testBit j = true ↔ _
    rw [Nat.testBit_or, Nat.testBit_or, Nat.testBit_two_pow, Bool.or_eq_true, Bool.or_eq_true, ih, decide_eq_true_eq]
    simp only [hasBit_eq, List.mem_cons, exists_eq_or_imp]
    constructor
    · rintro ((h | h) | h)
      · exact .inl (.inl h.symm)
      · exact .inl (.inr h)
      · exact .inr h
    · rintro ((h | h) | h)
      · exact .inl (.inl h.symm)
      · exact .inl (.inr h)
      · exact .inr h
theorem nthN_eq : ∀ (l : List Nat) (i : Nat), nthN l i = l[i]?.getD 0
  | [], i => by simp [nthN]
  | x :: l, 0 => rfl
  | x :: l, i + 1 => by simp only [nthN, nthN_eq l i, List.getElem?_cons_succ]
theorem bsOf_length (ops : Array Oper) : ∀ i, (bsOf ops i).length = i
  | 0 => rfl
  | i + 1 => by simp only [bsOf, List.length_append, bsOf_length ops i]; rfl
theorem bsOf_get (ops : Array Oper) {j : Nat} : ∀ {i : Nat}, j < i → (bsOf ops i)[j]? = some (bOf ops j)
  | 0, h => by omega
  | i + 1, h => by
    simp only [bsOf]
    by_cases c : j < i
    · rw [List.getElem?_append_left (by rw [bsOf_length]; exact c)]
      exact bsOf_get ops c
    · have : j = i := by omega
      subst this
      rw [List.getElem?_append_right (by rw [bsOf_length]; exact Nat.le_refl _), bsOf_length]
      simp [bOf]
theorem allBelow_spec {i : Nat} : ∀ {l : List Nat}, allBelow i l = true → ∀ e ∈ l, e < i
  | [], _, e, he => by cases he
  | x :: l, h, e, he => by
    simp only [allBelow, Bool.and_eq_true] at h
    rcases List.mem_cons.1 he with rfl | he
    · exact blt_lt h.1
    · exact allBelow_spec h.2 e he
theorem mem_unordered {b j : Nat} : ∀ {l : List Nat}, j ∈ unordered b l ↔ j ∈ l ∧ hasBit b j = false
  | [] => by simp [unordered]
  | x :: l => by
    simp only [unordered]
    cases hb : hasBit b x with
    | true =>
      simp only [cond_true, mem_unordered, List.mem_cons]
      constructor
      · rintro ⟨h1, h2⟩; exact ⟨.inr h1, h2⟩
      · rintro ⟨rfl | h1, h2⟩
        · rw [hb] at h2; cases h2
        · exact ⟨h1, h2⟩
    | false =>
      simp only [cond_false, List.mem_cons, mem_unordered]
      constructor
      · rintro (rfl | ⟨h1, h2⟩)
        · exact ⟨.inl rfl, hb⟩
        · exact ⟨.inr h1, h2⟩
      · rintro ⟨rfl | h1, h2⟩
        · exact .inl rfl
        · exact .inr ⟨h1, h2⟩
theorem anyIn_spec {l : List Nat} {j : Nat} (hj : j ∈ l) : ∀ {m : List Nat}, anyIn l m = false → j ∉ m
  | [], _, h => by cases h
  | x :: m, h, hm => by
    simp only [anyIn, Bool.or_eq_false_iff] at h
    rcases List.mem_cons.1 hm with rfl | hm
    · have := h.1
      rw [List.any_eq_false] at this
      have h2 := this j hj
      simp at h2
    · exact anyIn_spec hj h.2 hm
theorem inSpans_append (a b : List (Nat × Nat)) (z : Nat) : inSpans (a ++ b) z = (inSpans a z || inSpans b z) := by
  induction a with
  | nil => rfl
  | cons x a ih =>
    obtain ⟨lo, hi⟩ := x
    simp only [List.cons_append, inSpans, ih]
    cases (Nat.ble lo z && Nat.blt z hi) <;> simp
theorem inSpans_cons (lo hi : Nat) (l : List (Nat × Nat)) (z : Nat) : inSpans ((lo, hi) :: l) z = true ↔ (lo ≤ z ∧ z < hi) ∨ inSpans l z = true := by
  simp only [inSpans]
  cases hb : (Nat.ble lo z && Nat.blt z hi) with
  | true =>
    simp only [Bool.and_eq_true] at hb
    exact ⟨fun _ => .inl ⟨Nat.le_of_ble_eq_true hb.1, blt_lt hb.2⟩, fun _ => rfl⟩
  | false =>
    simp only [cond_false]
    refine ⟨fun h => .inr h, fun h => h.resolve_left fun ⟨h1, h2⟩ => ?_⟩
    have : (Nat.ble lo z && Nat.blt z hi) = true := by rw [Nat.ble_eq_true_of_le h1]; simpa [Nat.blt_eq] using h2
    rw [hb] at this; cases this

/-- The spans of some operations. -/
theorem spansOf_spec {sp : Spans} {z : Nat} : ∀ {l : List Nat}, inSpans (spansOf sp l) z = true ↔ ∃ j ∈ l, (spanAt sp j).1 ≤ z ∧ z < (spanAt sp j).2
  | [] => by simp [spansOf, inSpans]
  | j :: l => by
    simp only [spansOf]
    generalize hq : spanAt sp j = q
    obtain ⟨lo, hi⟩ := q
    simp only
    cases hb : Nat.blt lo hi with
    | true =>
      simp only [cond_true, inSpans_cons, spansOf_spec, List.mem_cons, exists_eq_or_imp, hq]
    | false =>
      simp only [cond_false, spansOf_spec, List.mem_cons, exists_eq_or_imp, hq]
      refine ⟨fun h => .inr h, fun h => h.resolve_left fun ⟨h1, h2⟩ => ?_⟩
      have : Nat.blt lo hi = true := Nat.blt_eq ▸ (show lo < hi by omega)
      rw [hb] at this; cases this

/-! ## The lexical run of a region whose order is drawn -/
def before (ops : Array Oper) (i j : Nat) : Prop := hasBit (bOf ops i) j = true
structure Lex (P : Program) (call : Caller) (n : Nat) (ops : Array Oper) (E : Nat → Env) (H : Nat → AH) (V : Nat → Value) (K : Nat → Nat) (X : Nat → PI) : Prop where
  prep : ∀ i o, ops[i]? = some o → OpPrep P n true ops i o (X i)
  put : ∀ i, i < ops.size → E (i + 1) = putE (E i) (X i).dst (V i)
  kind : ∀ i, i < ops.size →
    (K i = 0 ∧ wantF (E i) (X i).guard = some false ∧ V i = undef ∧ H (i + 1) = H i) ∨
    (K i = 1 ∧ wantF (E i) (X i).guard = some true ∧ H (i + 1) = H i ∧ ∃ p, (X i).pop = some p ∧ runP (E i) p = some (V i)) ∨
    ((K i = 2 ∨ K i = 3) ∧ wantF (E i) (X i).guard = some true ∧ (X i).pop = none ∧ ∃ p h1 mask, (X i).hop = some p ∧
      (∀ z, inSpans mask z = true ↔ ∃ j ∈ (X i).hide, j < i ∧ 2 ≤ K j ∧ (H j).next ≤ z ∧ z < (H (j + 1)).next) ∧
      runH call (E i) ⟨(H i).tr, (H i).next, (H i).next, mask ++ (H i).hid, (H i).fams⟩ p = some (V i, h1) ∧
      H (i + 1) = ⟨h1.tr, h1.next, bif Nat.blt (H i).low h1.low then (H i).low else h1.low, (H i).hid, h1.fams⟩ ∧
      (K i = 2 → (H i).next ≤ h1.low) ∧ (K i = 3 → (X i).hide = [] ∨ p.isB = true) ∧ ∀ j, j ∈ (X i).hide → j < i → K j ≠ 3)
  lim : (H 0).next ≤ LIM

def stepK (call : Caller) (s : St) (x : PI) : Nat := match step1 call s.e s.h s.sp s.wr x with | some (_, _, k) => k | none => 0
def stepV (call : Caller) (s : St) (x : PI) : Value := match step1 call s.e s.h s.sp s.wr x with | some (v, _, _) => v | none => undef

theorem lex_of_run {P : Program} {call : Caller} {n : Nat} {ops : Array Oper} {L : List PI} (hL : prep P n true ops = some L) {e : Env} {h : AH} (hl : h.next ≤ LIM) {e1 : Env} {h1 : AH} (hr : regGo call L 0 e h [] [] = some (e1, h1)) :
    ∃ E H V K X, Lex P call n ops E H V K X ∧ E 0 = e ∧ H 0 = h ∧ E ops.size = e1 ∧ H ops.size = h1 := by
  obtain ⟨hlen, hprep⟩ := prep_spec hL
  let s0 : St := ⟨e, h, [], []⟩
  obtain ⟨hst, hend⟩ := regGo_states (call := call) (L := L) (s := s0) L.length 0 (by omega) (r := (e1, h1)) (by simpa [stAt] using hr)
  let dflt : PI := ⟨none, none, none, none, []⟩
  let S := stAt call L s0
  let X : Nat → PI := fun i => L[i]?.getD dflt
  let K : Nat → Nat := fun i => stepK call (S i) (X i)
  let V : Nat → Value := fun i => stepV call (S i) (X i)
  have hX : ∀ i, i < ops.size → L[i]? = some (X i) := by
    intro i hi
    have : i < L.length := by omega
    simp [X, this]
  have hstep : ∀ i, i < ops.size → ∃ h', step1 call (S i).e (S i).h (S i).sp (S i).wr (X i) = some (V i, h', K i) ∧
      S (i + 1) = ⟨putE (S i).e (X i).dst (V i), h', if 2 ≤ K i then (i, ((S i).h.next, h'.next)) :: (S i).sp else (S i).sp, if K i = 3 then i :: (S i).wr else (S i).wr⟩ := by
    intro i hi
    obtain ⟨⟨v, h', k⟩, hy⟩ := hst i (X i) (Nat.zero_le _) (hX i hi)
    have hV : V i = v := by simp only [V, stepV, S, hy]
    have hK : K i = k := by simp only [K, stepK, S, hy]
    refine ⟨h', by rw [hV, hK]; exact hy, ?_⟩
    show stAt call L s0 (i + 1) = _
    simp only [stAt, hX i hi, St.next, hy, hV, hK]
    rfl
  have hsp : ∀ i, i ≤ ops.size → (∀ j, spanAt (S i).sp j = if j < i ∧ 2 ≤ K j then ((S j).h.next, (S (j + 1)).h.next) else (0, 0)) ∧ (∀ j, j < i → K j = 3 → j ∈ (S i).wr) := by
    intro i
    induction i with
    | zero => intro _; exact ⟨fun j => by simp [S, stAt, s0, spanAt], fun j hj => by omega⟩
    | succ i ih =>
      intro hi
      obtain ⟨i1, i2⟩ := ih (by omega)
      obtain ⟨h', g1, g2⟩ := hstep i (by omega)
      have gh : (S (i + 1)).h = h' := by rw [g2]
      refine ⟨fun j => ?_, fun j hj hk => ?_⟩
      · have gs : (S (i + 1)).sp = if 2 ≤ K i then (i, ((S i).h.next, h'.next)) :: (S i).sp else (S i).sp := by rw [g2]
        rw [gs]
        by_cases c : 2 ≤ K i
        · rw [if_pos c]
          simp only [spanAt]
          cases hb : Nat.beq i j with
          | true =>
            have := beq_eq hb
            subst this
            simp only [cond_true]
            rw [if_pos ⟨by omega, c⟩, gh]
          | false =>
            have hne : i ≠ j := fun e => by subst e; simp at hb
            simp only [cond_false]
            rw [i1 j]
            by_cases c2 : j < i ∧ 2 ≤ K j
            · rw [if_pos c2, if_pos ⟨by omega, c2.2⟩]
            · rw [if_neg c2, if_neg (fun x => c2 ⟨by omega, x.2⟩)]
        · rw [if_neg c, i1 j]
          by_cases c2 : j < i ∧ 2 ≤ K j
          · rw [if_pos c2, if_pos ⟨by omega, c2.2⟩]
          · rw [if_neg c2, if_neg (fun x => by
              by_cases cj : j = i
              · subst cj; exact c x.2
              · exact c2 ⟨by omega, x.2⟩)]
      · have gw : (S (i + 1)).wr = if K i = 3 then i :: (S i).wr else (S i).wr := by rw [g2]
        rw [gw]
        by_cases cj : j = i
        · subst cj; rw [if_pos hk]; exact List.mem_cons_self
        · have := i2 j (by omega) hk
          split
          · exact List.mem_cons_of_mem _ this
          · exact this
  refine ⟨fun i => (S i).e, fun i => (S i).h, V, K, X, ⟨?_, ?_, ?_, hl⟩, rfl, rfl, ?_, ?_⟩
  · intro i o ho
    obtain ⟨x, hx, hO⟩ := hprep i o ho
    have : X i = x := by simp [X, hx]
    rw [this]; exact hO
  · intro i hi
    obtain ⟨h', g1, g2⟩ := hstep i hi
    show (S (i + 1)).e = _
    rw [g2]
  · intro i hi
    obtain ⟨h', g1, g2⟩ := hstep i hi
    have gh : (S (i + 1)).h = h' := by rw [g2]
    have ho : ops[i]? = some ops[i] := by simp [hi]
    obtain ⟨x, hx, hO⟩ := hprep i _ ho
    have hxX : X i = x := by simp [X, hx]
    unfold step1 at g1
    split at g1
    · cases g1
    · rename_i hw
      simp only [Option.some.injEq, Prod.mk.injEq] at g1
      exact .inl ⟨g1.2.2.symm, hw, g1.1.symm, by show (S (i + 1)).h = _; rw [gh]; exact g1.2.1.symm⟩
    · rename_i hw
      split at g1
      · rename_i p hp
        split at g1
        · cases g1
        · rename_i v hv
          simp only [Option.some.injEq, Prod.mk.injEq] at g1
          exact .inr (.inl ⟨g1.2.2.symm, hw, by show (S (i + 1)).h = _; rw [gh]; exact g1.2.1.symm, p, hp, by rw [hv, g1.1]⟩)
      · rename_i hpn
        split at g1
        · cases g1
        · rename_i p hp
          split at g1
          · cases g1
          · rename_i v h2 w hs
            simp only [Option.some.injEq, Prod.mk.injEq] at g1
            obtain ⟨g1v, g1h, g1k⟩ := g1
            obtain ⟨h3, k1, k2, k3, k4, k5⟩ := stepH_some hs
            obtain ⟨sp1, sp2⟩ := hsp i (by omega)
            refine .inr (.inr ⟨?_, hw, hpn, p, h3, spansOf (S i).sp (X i).hide, hp, fun z => ?_, ?_, ?_, ?_, ?_, ?_⟩)
            · cases w
              · exact .inl g1k.symm
              · exact .inr g1k.symm
            · rw [spansOf_spec]
              constructor
              · rintro ⟨j, hj, c1, c2⟩
                rw [sp1 j] at c1 c2
                by_cases cc : j < i ∧ 2 ≤ K j
                · rw [if_pos cc] at c1 c2; exact ⟨j, hj, cc.1, cc.2, c1, c2⟩
                · rw [if_neg cc] at c2; exact absurd c2 (Nat.not_lt_zero _)
              · rintro ⟨j, hj, c1, c2, c3, c4⟩
                exact ⟨j, hj, by rw [sp1 j, if_pos ⟨c1, c2⟩]; exact ⟨c3, c4⟩⟩
            · rw [← g1v]; exact k1
            · show (S (i + 1)).h = _
              rw [gh, ← g1h]; exact k2
            · intro hk
              rw [hk] at g1k
              refine k3 ?_
              cases w with
              | false => rfl
              | true => cases g1k
            · intro hk
              rw [hk] at g1k
              refine k4 ?_
              cases w with
              | true => rfl
              | false => cases g1k
            · intro j hj hji hk
              exact anyIn_spec (sp2 j hji hk) k5 hj
  · rw [← hlen]
    exact (congrArg Prod.fst hend).symm
  · rw [← hlen]
    exact (congrArg Prod.snd hend).symm
end Go.Ds
