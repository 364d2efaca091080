
set_option linter.all false
set_option linter.unusedSimpArgs false
set_option linter.unnecessarySimpa false
set_option linter.unusedVariables false
set_option linter.unusedSectionVars false
/-! Words of digits as lists of numbers: runs, what is said, what was heard. -/
namespace Go.Aw
/-- The runs of a word that begins with k digits d. -/
def runsFrom : Nat → Nat → List Nat → List (Nat × Nat)
  | k, d, [] => [(k, d)]
  | k, d, x :: l => if x = d then runsFrom (k + 1) d l else (k, d) :: runsFrom 1 x l
def runs : List Nat → List (Nat × Nat)
  | [] => []
  | x :: l => runsFrom 1 x l
def spell (l : List (Nat × Nat)) : List Nat := l.flatMap fun p => List.replicate p.1 p.2
def flat (l : List (Nat × Nat)) : List Nat := l.flatMap fun p => [p.1, p.2]
/-- Digits from 1 to 9. -/
def Dig (w : List Nat) : Prop := ∀ d ∈ w, 1 ≤ d ∧ d ≤ 9
/-- Counts are above 0, and neighbours have different digits. -/
def Good : List (Nat × Nat) → Prop
  | [] => True
  | [p] => 1 ≤ p.1
  | p :: q :: l => 1 ≤ p.1 ∧ p.2 ≠ q.2 ∧ Good (q :: l)
theorem runsFrom_ne (k d l) : runsFrom k d l ≠ [] := by
  cases l with
  | nil => simp [runsFrom]
  | cons x l => unfold runsFrom; split <;> first | exact runsFrom_ne _ _ _ | simp
theorem runsFrom_head : ∀ (l : List Nat) (k d : Nat), ∃ m r, runsFrom k d l = (m, d) :: r ∧ k ≤ m
  | [], k, d => ⟨k, [], rfl, Nat.le_refl _⟩
  | x :: l, k, d => by
    unfold runsFrom
    by_cases h : x = d
    · obtain ⟨m, r, e, hm⟩ := runsFrom_head l (k + 1) d
      exact ⟨m, r, by simp [h, e], by omega⟩
    · exact ⟨k, runsFrom 1 x l, by simp [h], Nat.le_refl _⟩
theorem spell_runsFrom : ∀ (l : List Nat) (k d : Nat), spell (runsFrom k d l) = List.replicate k d ++ l
  | [], k, d => by simp [runsFrom, spell]
  | x :: l, k, d => by
    unfold runsFrom
    by_cases h : x = d
    · subst h
      simp only [if_true, spell_runsFrom l (k + 1) x, List.replicate_succ']
      simp
    · have := spell_runsFrom l 1 x
      simp only [spell] at this
      simp [h, spell, this]
theorem spell_runs : ∀ w, spell (runs w) = w
  | [] => rfl
  | x :: l => by simp [runs, spell_runsFrom]
theorem good_runsFrom : ∀ (l : List Nat) (k d : Nat), 1 ≤ k → Good (runsFrom k d l)
  | [], k, d, h => h
  | x :: l, k, d, h => by
    unfold runsFrom
    by_cases e : x = d
    · simp only [e, if_true]; exact good_runsFrom l (k + 1) d (by omega)
    · simp only [e, if_false]
      obtain ⟨m, r, q, _⟩ := runsFrom_head l 1 x
      have := good_runsFrom l 1 x (Nat.le_refl _)
      rw [q] at this ⊢
      exact ⟨h, fun c => e c.symm, this⟩
theorem good_runs : ∀ w, Good (runs w)
  | [] => trivial
  | x :: l => good_runsFrom l 1 x (Nat.le_refl _)
theorem Good.tail {p l} (h : Good (p :: l)) : Good l := by
  cases l with
  | nil => trivial
  | cons q l => exact h.2.2
theorem Good.pos {p l} (h : Good (p :: l)) : 1 ≤ p.1 := by
  cases l with
  | nil => exact h
  | cons q l => exact h.1
theorem runsFrom_rep (d : Nat) (l : List Nat) : ∀ (n k : Nat), runsFrom k d (List.replicate n d ++ l) = runsFrom (k + n) d l
  | 0, k => rfl
  | n + 1, k => by
    rw [List.replicate_succ, List.cons_append]
    rw [show k + (n + 1) = k + 1 + n by omega, ← runsFrom_rep d l n (k + 1)]
    simp [runsFrom]
theorem runs_spell : ∀ {l}, Good l → runs (spell l) = l
  | [], _ => rfl
  | (k, d) :: l, h => by
    have hk : 1 ≤ k := h.pos
    have ih := runs_spell h.tail
    have e : spell ((k, d) :: l) = d :: (List.replicate (k - 1) d ++ spell l) := by
      have : k = (k - 1) + 1 := by omega
      simp only [spell, List.flatMap_cons]
      conv => lhs; rw [this, List.replicate_succ]
      simp
    rw [e]
    show runsFrom 1 d _ = _
    rw [runsFrom_rep]
    have hk1 : 1 + (k - 1) = k := by omega
    rw [hk1]
    match l, h, ih with
    | [], _, _ => rfl
    | (m, c) :: l, h, ih =>
      have hm : 1 ≤ m := h.tail.pos
      have e2 : spell ((m, c) :: l) = c :: (List.replicate (m - 1) c ++ spell l) := by
        have : m = (m - 1) + 1 := by omega
        simp only [spell, List.flatMap_cons]
        conv => lhs; rw [this, List.replicate_succ]
        simp
      rw [e2] at ih ⊢
      unfold runsFrom
      rw [if_neg (fun q => h.2.1 q.symm)]
      exact congrArg _ ih
theorem runsFrom_len : ∀ (l : List Nat) (k d : Nat), (runsFrom k d l).length ≤ l.length + 1
  | [], k, d => by simp [runsFrom]
  | x :: l, k, d => by
    unfold runsFrom
    split
    · have := runsFrom_len l (k + 1) d; simp; omega
    · have := runsFrom_len l 1 x; simp; omega
theorem runs_len : ∀ w, (runs w).length ≤ w.length
  | [] => Nat.le_refl _
  | x :: l => by have := runsFrom_len l 1 x; simpa [runs] using this
/-- One digit more. -/
theorem runsFrom_snoc : ∀ (l : List Nat) (k d x : Nat), ∃ R m e, runsFrom k d l = R ++ [(m, e)] ∧ (d :: l).getLast? = some e ∧ k ≤ m + R.length * k ∧ runsFrom k d (l ++ [x]) = if x = e then R ++ [(m + 1, e)] else R ++ [(m, e), (1, x)]
  | [], k, d, x => ⟨[], k, d, rfl, rfl, by omega, by simp [runsFrom]⟩
  | y :: l, k, d, x => by
    by_cases h : y = d
    · subst h
      obtain ⟨R, m, e, h1, h2, _, h3⟩ := runsFrom_snoc l (k + 1) y x
      refine ⟨R, m, e, by simp [runsFrom, h1], by simpa using h2, ?_, by simp [runsFrom, h3]⟩
      have := runsFrom_head l (k + 1) y
      obtain ⟨m', r', e1, hm'⟩ := this
      rw [h1] at e1
      cases R with
      | nil => simp at e1; obtain ⟨⟨rfl, _⟩, _⟩ := e1; omega
      | cons p R => simp only [List.length_cons, Nat.add_mul]; omega
    · obtain ⟨R, m, e, h1, h2, _, h3⟩ := runsFrom_snoc l 1 y x
      refine ⟨(k, d) :: R, m, e, by simp [runsFrom, h, h1], by simpa using h2, by simp only [List.length_cons, Nat.add_mul]; omega, ?_⟩
      simp only [List.cons_append, runsFrom, if_neg h, h3]
      split <;> simp
theorem runs_snoc {l : List Nat} (hl : l ≠ []) (x : Nat) : ∃ R m e, runs l = R ++ [(m, e)] ∧ l.getLast? = some e ∧ runs (l ++ [x]) = if x = e then R ++ [(m + 1, e)] else R ++ [(m, e), (1, x)] := by
  cases l with
  | nil => exact absurd rfl hl
  | cons y l =>
    obtain ⟨R, m, e, h1, h2, _, h3⟩ := runsFrom_snoc l 1 y x
    exact ⟨R, m, e, h1, h2, h3⟩
theorem runs_inj {v w : List Nat} (h : runs v = runs w) : v = w := by rw [← spell_runs v, h, spell_runs]
theorem runsFrom_mem : ∀ (l : List Nat) (k d : Nat) (p : Nat × Nat), p ∈ runsFrom k d l → p.2 = d ∨ p.2 ∈ l
  | [], k, d, p, h => by simp [runsFrom] at h; simp [h]
  | x :: l, k, d, p, h => by
    unfold runsFrom at h
    split at h
    · rename_i e
      rcases runsFrom_mem l _ _ p h with q | q
      · exact .inl q
      · exact .inr (List.mem_cons_of_mem _ q)
    · rcases List.mem_cons.1 h with q | q
      · subst q; exact .inl rfl
      · rcases runsFrom_mem l _ _ p q with q | q
        · right; rw [q]; exact List.mem_cons_self ..
        · exact .inr (List.mem_cons_of_mem _ q)
theorem runs_dig {w : List Nat} (h : Dig w) : ∀ p ∈ runs w, 1 ≤ p.2 ∧ p.2 ≤ 9 := by
  cases w with
  | nil => intro p hp; cases hp
  | cons x l =>
    intro p hp
    rcases runsFrom_mem l 1 x p hp with e | e
    · rw [e]; exact h x (List.mem_cons_self ..)
    · exact h _ (List.mem_cons_of_mem _ e)
theorem good_pos : ∀ {l}, Good l → ∀ p ∈ l, 1 ≤ p.1
  | [], _, p, h => by cases h
  | q :: l, g, p, h => by
    rcases List.mem_cons.1 h with e | e
    · subst e; exact g.pos
    · exact good_pos g.tail p e
/-- What is said of a word. -/
def say (w : List Nat) : List Nat := flat (runs w)
/-- Can it be said? -/
def Sayable (w : List Nat) : Prop := ∀ p ∈ runs w, p.1 ≤ 9
instance (w : List Nat) : Decidable (Sayable w) := by unfold Sayable; infer_instance
theorem say_dig {w : List Nat} (h : Dig w) (s : Sayable w) : Dig (say w) := by
  intro d hd
  simp only [say, flat, List.mem_flatMap] at hd
  obtain ⟨p, hp, hd⟩ := hd
  simp at hd
  rcases hd with e | e
  · rw [e]; exact ⟨good_pos (good_runs w) p hp, s p hp⟩
  · rw [e]; exact runs_dig h p hp
theorem flat_length : ∀ l, (flat l).length = 2 * l.length
  | [] => rfl
  | p :: l => by have := flat_length l; simp only [flat] at this; simp [flat, this]; omega
theorem say_length (w : List Nat) : (say w).length = 2 * (runs w).length := flat_length _
theorem flat_inj : ∀ {a b}, flat a = flat b → a = b
  | [], [], _ => rfl
  | [], _ :: _, h => by simp [flat] at h
  | _ :: _, [], h => by simp [flat] at h
  | p :: a, q :: b, h => by
    simp [flat] at h
    have := flat_inj (a := a) (b := b) (by simpa [flat] using h.2.2)
    rw [this, Prod.ext h.1 h.2.1]
/-- The pairs of a word of even length. -/
def pairs : List Nat → List (Nat × Nat)
  | a :: b :: l => (a, b) :: pairs l
  | _ => []
theorem pairs_flat : ∀ l, pairs (flat l) = l
  | [] => rfl
  | p :: l => by have := pairs_flat l; simp only [flat] at this; simp [flat, pairs, this]
theorem flat_pairs : ∀ (w : List Nat), w.length % 2 = 0 → flat (pairs w) = w
  | [], _ => rfl
  | [a], h => by simp at h
  | a :: b :: l, h => by
    have := flat_pairs l (by simp at h; omega)
    simp only [flat] at this
    simp [pairs, flat, this]
instance decGood : ∀ l, Decidable (Good l)
  | [] => .isTrue trivial
  | [p] => by unfold Good; infer_instance
  | p :: q :: l => by unfold Good; have := decGood (q :: l); infer_instance
/-- The word of which a word is said. -/
def heard (w : List Nat) : Option (List Nat) := if w.length % 2 = 0 ∧ Good (pairs w) then some (spell (pairs w)) else none
theorem pairs_mem : ∀ (w : List Nat) (p : Nat × Nat), p ∈ pairs w → p.1 ∈ w ∧ p.2 ∈ w
  | [], p, h => by cases h
  | [a], p, h => by cases h
  | a :: b :: l, p, h => by
    rcases List.mem_cons.1 h with e | e
    · subst e; simp
    · have := pairs_mem l p e; simp [this.1, this.2]
theorem heard_dig {w v : List Nat} (hw : Dig w) (h : heard w = some v) : Dig v := by
  unfold heard at h
  split at h
  · simp only [Option.some.injEq] at h
    subst h
    intro d hd
    simp only [spell, List.mem_flatMap] at hd
    obtain ⟨p, hp, hd⟩ := hd
    rw [(List.mem_replicate.1 hd).2]
    exact hw _ (pairs_mem w p hp).2
  · cases h
theorem heard_say {w v : List Nat} (hw : Dig w) (h : heard w = some v) : Sayable v ∧ say v = w := by
  unfold heard at h
  split at h
  · rename_i c
    simp only [Option.some.injEq] at h
    subst h
    have e := runs_spell c.2
    constructor
    · intro p hp
      rw [e] at hp
      exact (hw _ (pairs_mem w p hp).1).2
    · unfold say
      rw [e, flat_pairs w c.1]
  · cases h
theorem say_heard (v : List Nat) : heard (say v) = some v := by
  unfold heard say
  rw [pairs_flat, flat_length]
  rw [if_pos ⟨by omega, good_runs v⟩, spell_runs]
theorem heard_ne {w v : List Nat} (hw : Dig w) (hn : w ≠ []) (h : heard w = some v) : v ≠ [] := by
  intro e
  subst e
  have := (heard_say hw h).2
  exact hn this.symm
theorem pairs_len : ∀ (w : List Nat), (pairs w).length = w.length / 2
  | [] => rfl
  | [a] => by simp [pairs]
  | a :: b :: l => by have := pairs_len l; simp [pairs, this]; omega
theorem pairs_get : ∀ (w : List Nat) (k : Nat) (h : k < (pairs w).length), ∃ (h1 : 2 * k < w.length) (h2 : 2 * k + 1 < w.length), (pairs w)[k] = (w[2 * k], w[2 * k + 1])
  | [], k, h => by simp [pairs] at h
  | [a], k, h => by simp [pairs] at h
  | a :: b :: l, 0, h => ⟨by simp, by simp, rfl⟩
  | a :: b :: l, k + 1, h => by
    obtain ⟨h1, h2, h3⟩ := pairs_get l k (by simpa [pairs] using h)
    refine ⟨by simp; omega, by simp; omega, ?_⟩
    have e : (pairs (a :: b :: l))[k + 1] = (pairs l)[k]'(by simpa [pairs] using h) := rfl
    rw [e, h3]
    rfl
theorem good_snoc : ∀ (l : List (Nat × Nat)) (p q : Nat × Nat), Good (l ++ [p, q]) ↔ Good (l ++ [p]) ∧ p.2 ≠ q.2 ∧ 1 ≤ q.1
  | [], p, q => by simp [Good, and_assoc]
  | [r], p, q => by simp [Good, and_assoc]
  | r :: r2 :: l, p, q => by
    have := good_snoc (r2 :: l) p q
    simp only [List.cons_append, Good] at this ⊢
    rw [this]
    simp [and_assoc]
theorem good_adj : ∀ (l : List (Nat × Nat)) (k : Nat) (h : k + 1 < l.length), Good l → l[k].2 ≠ l[k + 1].2
  | [], k, h, g => by simp at h
  | [p], k, h, g => by simp at h
  | p :: q :: l, 0, h, g => g.2.1
  | p :: q :: l, k + 1, h, g => good_adj (q :: l) k (by simpa using h) g.2.2
theorem good_take_succ {P : List (Nat × Nat)} {k : Nat} (h : k < P.length) (hg : Good (P.take k)) (h1 : 1 ≤ P[k].1) (h2 : ∀ (_ : k ≠ 0), P[k - 1].2 ≠ P[k].2) : Good (P.take (k + 1)) := by
  have e : P.take (k + 1) = P.take k ++ [P[k]] := by rw [List.take_add_one, List.getElem?_eq_getElem h]; rfl
  cases k with
  | zero => rw [e]; simpa [Good] using h1
  | succ k =>
    have e2 : P.take (k + 1) = P.take k ++ [P[k]] := by rw [List.take_add_one, List.getElem?_eq_getElem (by omega)]; rfl
    rw [e, e2, List.append_assoc]
    exact (good_snoc _ _ _).2 ⟨by rw [← e2]; exact hg, by simpa using h2 (by omega), h1⟩
end Go.Aw
/-! Reading backwards comes to an end. -/
namespace Go.Aw
/-- How many runs begin with a digit. -/
def cnt (d : Nat) (l : List Nat) : Nat := (runsFrom 1 d l).length
theorem runsFrom_cnt : ∀ (l : List Nat) (k d : Nat), (runsFrom k d l).length = cnt d l
  | [], k, d => rfl
  | x :: l, k, d => by
    unfold cnt runsFrom
    by_cases h : x = d
    · simp only [h, if_true]; rw [runsFrom_cnt l, runsFrom_cnt l]
    · simp only [h, if_false]; rfl
theorem cnt_cons (d x : Nat) (l : List Nat) : cnt d (x :: l) = if x = d then cnt d l else 1 + cnt x l := by
  unfold cnt
  conv => lhs; unfold runsFrom
  split
  · rw [runsFrom_cnt]; rfl
  · simp [Nat.add_comm]
theorem cnt_flat : ∀ (p : List (Nat × Nat)) (d : Nat), Good p → (∀ q, p.head? = some q → d ≠ q.2) → 1 + p.length ≤ cnt d (flat p) ∧ (cnt d (flat p) = 1 + p.length → ∀ q, p.head? = some q → q.1 = d ∨ q.1 = q.2)
  | [], d, _, _ => ⟨by simp [cnt, flat, runsFrom], fun _ q h => by cases h⟩
  | (a, b) :: p, d, g, h => by
    have hb : d ≠ b := h (a, b) rfl
    have ih := cnt_flat p b g.tail (fun q hq => by
      cases p with
      | nil => cases hq
      | cons r p => cases hq; exact g.2.1)
    have e : flat ((a, b) :: p) = a :: b :: flat p := rfl
    rw [e, cnt_cons, cnt_cons, cnt_cons]
    simp only [List.length_cons, List.head?_cons, Option.some.injEq]
    by_cases c1 : a = d
    · subst c1
      rw [if_pos rfl, if_neg (fun z => hb z.symm)]
      exact ⟨by omega, fun _ q hq => by subst hq; exact .inl rfl⟩
    · rw [if_neg c1]
      by_cases c2 : b = a
      · subst c2
        rw [if_pos rfl]
        exact ⟨by omega, fun _ q hq => by subst hq; exact .inr rfl⟩
      · rw [if_neg c2]
        exact ⟨by omega, fun z => by omega⟩
/-- A word that was said has at least as many runs as pairs; if not more, its first pair is twice a digit. -/
theorem runs_flat {a b : Nat} {p : List (Nat × Nat)} (g : Good ((a, b) :: p)) : 1 + p.length ≤ (runs (flat ((a, b) :: p))).length ∧ ((runs (flat ((a, b) :: p))).length = 1 + p.length → a = b ∧ ∀ q, p.head? = some q → q.1 = b ∨ q.1 = q.2) := by
  have ih := cnt_flat p b g.tail (fun q hq => by
    cases p with
    | nil => cases hq
    | cons r p => cases hq; exact g.2.1)
  have e : (runs (flat ((a, b) :: p))).length = cnt a (b :: flat p) := rfl
  rw [e, cnt_cons]
  by_cases c : b = a
  · subst c
    rw [if_pos rfl]
    exact ⟨ih.1, fun z => ⟨rfl, ih.2 z⟩⟩
  · rw [if_neg c]
    exact ⟨by omega, fun z => by omega⟩
theorem runs_flat_len {p : List (Nat × Nat)} (g : Good p) : p.length ≤ (runs (flat p)).length := by
  cases p with
  | nil => exact Nat.zero_le _
  | cons q p =>
    obtain ⟨a, b⟩ := q
    have := (runs_flat g).1
    simp only [List.length_cons]
    omega
/-- The first run behind a digit has at most two digits more. -/
theorem first_run {b : Nat} {p : List (Nat × Nat)} (h : ∀ q, p.head? = some q → b ≠ q.2) : ∃ m r, runsFrom 1 b (flat p) = (m, b) :: r ∧ m ≤ 2 := by
  match p with
  | [] => exact ⟨1, [], rfl, by omega⟩
  | (a, c) :: p =>
    have hc : b ≠ c := h (a, c) rfl
    have e : flat ((a, c) :: p) = a :: c :: flat p := rfl
    rw [e]
    unfold runsFrom
    by_cases c1 : a = b
    · rw [if_pos c1]
      unfold runsFrom
      rw [if_neg (fun z => hc z.symm)]
      exact ⟨2, _, rfl, by omega⟩
    · rw [if_neg c1]
      exact ⟨1, _, rfl, by omega⟩
theorem Good.head_ne {p : Nat × Nat} {l : List (Nat × Nat)} (g : Good (p :: l)) : ∀ q, l.head? = some q → p.2 ≠ q.2 := by
  intro q hq
  cases l with
  | nil => cases hq
  | cons r l => cases hq; exact g.2.1
theorem stuck {p0 p1 p2 p3 p4 : List (Nat × Nat)} (g1 : Good p1) (g2 : Good p2) (g3 : Good p3) (g4 : Good p4)
    (r0 : runs (flat p1) = p0) (r1 : runs (flat p2) = p1) (r2 : runs (flat p3) = p2) (r3 : runs (flat p4) = p3)
    (l0 : p0.length = p1.length) (l1 : p1.length = p2.length) (l2 : p2.length = p3.length) (l3 : p3.length = p4.length) (hne : p4 ≠ []) : p4 = [(2, 2)] := by
  have S : ∀ {p q : List (Nat × Nat)}, Good p → runs (flat p) = q → q.length = p.length → p ≠ [] → ∃ c r, p = (c, c) :: r ∧ ∀ z, r.head? = some z → z.1 = c ∨ z.1 = z.2 := by
    intro p q g hr hl hn
    cases p with
    | nil => exact absurd rfl hn
    | cons z p =>
      obtain ⟨a, b⟩ := z
      have := (runs_flat g).2 (by rw [hr, hl, List.length_cons]; omega)
      obtain ⟨e, h⟩ := this
      subst e
      exact ⟨a, p, rfl, h⟩
  have n3 : p3 ≠ [] := fun e => by rw [e] at l3; exact hne (List.eq_nil_of_length_eq_zero l3.symm)
  have n2 : p2 ≠ [] := fun e => by rw [e] at l2; exact n3 (List.eq_nil_of_length_eq_zero l2.symm)
  have n1 : p1 ≠ [] := fun e => by rw [e] at l1; exact n2 (List.eq_nil_of_length_eq_zero l1.symm)
  obtain ⟨c4, s4, rfl, h4⟩ := S g4 r3 l3 hne
  obtain ⟨c3, s3, rfl, h3⟩ := S g3 r2 l2 n3
  obtain ⟨c2, s2, rfl, h2⟩ := S g2 r1 l1 n2
  obtain ⟨c1, s1, rfl, h1⟩ := S g1 r0 l0 n1
  have e4 : ∀ (c : Nat) (s : List (Nat × Nat)), runs (flat ((c, c) :: s)) = runsFrom 2 c (flat s) := fun c s => by
    show runsFrom 1 c (c :: flat s) = _
    simp [runsFrom]
  rw [e4] at r1 r2 r3
  -- the first run of such a word
  have F : ∀ (c m : Nat) (s t : List (Nat × Nat)), Good ((c, c) :: s) → (∀ z, s.head? = some z → z.1 = c ∨ z.1 = z.2) → runsFrom 2 c (flat s) = (m, m) :: t → m = c ∧ ((s = [] ∧ c = 2 ∧ t = []) ∨ (∃ b s', s = (c, b) :: s' ∧ c = 3 ∧ b ≠ c ∧ t = runsFrom 1 b (flat s')) ∨ (∃ e s', s = (e, e) :: s' ∧ c = 2 ∧ e ≠ 2 ∧ t = runsFrom 2 e (flat s'))) := by
    intro c m s t g h hr
    match s, g, h, hr with
    | [], g, h, hr =>
      simp [flat, runsFrom] at hr
      obtain ⟨⟨h1, h2⟩, h3⟩ := hr
      exact ⟨by omega, .inl ⟨rfl, by omega, h3.symm ▸ rfl⟩⟩
    | (a, b) :: s', g, h, hr =>
      have hb : c ≠ b := g.2.1
      have e : flat ((a, b) :: s') = a :: b :: flat s' := rfl
      rw [e] at hr
      by_cases c1 : a = c
      · subst c1
        simp only [runsFrom, if_true, if_neg (fun z => hb z.symm : ¬ b = a), List.cons.injEq, Prod.mk.injEq] at hr
        obtain ⟨⟨q1, q2⟩, q3⟩ := hr
        exact ⟨by omega, .inr (.inl ⟨b, s', rfl, by omega, fun z => hb z.symm, q3.symm⟩)⟩
      · have hab : a = b := by rcases h (a, b) rfl with q | q <;> first | exact absurd q c1 | exact q
        subst hab
        simp only [runsFrom, if_neg c1, if_true, List.cons.injEq, Prod.mk.injEq] at hr
        obtain ⟨⟨q1, q2⟩, q3⟩ := hr
        exact ⟨by omega, .inr (.inr ⟨a, s', rfl, by omega, by omega, q3.symm⟩)⟩
  obtain ⟨m3, k4⟩ := F _ _ _ _ g4 h4 r3
  obtain ⟨m2, k3⟩ := F _ _ _ _ g3 h3 r2
  obtain ⟨m1, k2⟩ := F _ _ _ _ g2 h2 r1
  rcases k4 with ⟨rfl, rfl, _⟩ | ⟨b, s', rfl, rfl, hb, rfl⟩ | ⟨e, s', rfl, rfl, he, rfl⟩
  · rfl
  · exfalso
    subst m3
    obtain ⟨m, r, hf, hm⟩ := first_run (b := b) (p := s') (fun q hq => g4.tail.head_ne q hq)
    rcases k3 with ⟨_, q, _⟩ | ⟨b2, s2', hq, _⟩ | ⟨_, _, _, q, _⟩
    · omega
    · rw [hf] at hq
      simp at hq
      omega
    · omega
  · exfalso
    subst m3
    subst m2
    rcases k3 with ⟨q, _⟩ | ⟨_, _, _, q, _⟩ | ⟨e2, s2', hq, _, he2, hs2⟩
    · exact runsFrom_ne _ _ _ q
    · omega
    · -- the second run has three digits 3
      match s', g4, hq with
      | [], g4, hq =>
        simp [flat, runsFrom] at hq
        omega
      | (a, b) :: s', g4, hq =>
        have hb : e ≠ b := g4.tail.2.1
        have ee : flat ((a, b) :: s') = a :: b :: flat s' := rfl
        rw [ee] at hq
        by_cases c1 : a = e
        · subst c1
          simp only [runsFrom, if_true, if_neg (fun z => hb z.symm : ¬ b = a), List.cons.injEq, Prod.mk.injEq] at hq
          obtain ⟨⟨q1, q2⟩, q3⟩ := hq
          obtain ⟨m, r, hf, hm⟩ := first_run (b := b) (p := s') (fun q hq => g4.tail.tail.head_ne q hq)
          rw [hf] at q3
          subst q3
          have h33 : e2 = 3 := by omega
          subst h33
          have : runsFrom 2 3 (flat ((m, b) :: r)) = (2, 3) :: runsFrom 1 m (b :: flat r) := by
            show runsFrom 2 3 (m :: b :: flat r) = _
            conv => lhs; unfold runsFrom
            rw [if_neg (by omega)]
          rw [this] at hs2
          subst hs2
          rcases k2 with ⟨q, _⟩ | ⟨_, _, _, q, _⟩ | ⟨e3, _, q, _, h, _⟩
          · cases q
          · omega
          · simp at q; omega
        · simp only [runsFrom, if_neg c1, List.cons.injEq, Prod.mk.injEq] at hq
          omega
/-- So many times a word can be read backwards. -/
def Chain : List Nat → Nat → Prop
  | w, 0 => heard w = none
  | w, n + 1 => ∃ v, heard w = some v ∧ Chain v n
theorem Chain.det : ∀ {n m : Nat} {w : List Nat}, Chain w n → Chain w m → n = m
  | 0, 0, _, _, _ => rfl
  | 0, m + 1, w, h, ⟨v, e, _⟩ => by rw [show heard w = none from h] at e; cases e
  | n + 1, 0, w, ⟨v, e, _⟩, h => by rw [show heard w = none from h] at e; cases e
  | n + 1, m + 1, w, ⟨v, e, h⟩, ⟨u, e2, k⟩ => by
    rw [e] at e2
    cases e2
    rw [Chain.det h k]
theorem heard_pairs {w v : List Nat} (h : heard w = some v) : Good (pairs w) ∧ flat (pairs w) = w ∧ runs v = pairs w := by
  unfold heard at h
  split at h
  · rename_i c
    simp only [Option.some.injEq] at h
    subst h
    exact ⟨c.2, flat_pairs w c.1, runs_spell c.2⟩
  · cases h
theorem heard_len {w v u : List Nat} (h : heard w = some v) (h2 : heard v = some u) : v.length ≤ w.length := by
  obtain ⟨g1, f1, r1⟩ := heard_pairs h
  obtain ⟨g2, f2, r2⟩ := heard_pairs h2
  have := runs_flat_len g2
  rw [f2, r1] at this
  rw [← f1, ← f2, flat_length, flat_length]
  omega
theorem heard_nil : heard [] = some [] := by decide
theorem heard_22 {w : List Nat} (h : heard w = some [2, 2]) : w = [2, 2] := by
  obtain ⟨g1, f1, r1⟩ := heard_pairs h
  rw [← f1, ← r1]
  decide
theorem chain_ex : ∀ (n : Nat) (w : List Nat), Dig w → w.length ≤ n → w ≠ [] → w ≠ [2, 2] → ∃ m, m ≤ 5 * n ∧ Chain w m := by
  intro n
  induction n with
  | zero => intro w _ hl hn _; exact absurd (List.eq_nil_of_length_eq_zero (by omega)) hn
  | succ n ih =>
    intro w0 hd0 hl hn h22
    have step : ∀ (w v : List Nat), Dig w → w ≠ [] → w ≠ [2, 2] → heard w = some v → Dig v ∧ v ≠ [] ∧ v ≠ [2, 2] := fun w v hd hn h2 h => ⟨heard_dig hd h, heard_ne hd hn h, fun e => h2 (heard_22 (by rw [h, e]))⟩
    cases h0 : heard w0 with
    | none => exact ⟨0, by omega, h0⟩
    | some w1 =>
      obtain ⟨d1, n1, t1⟩ := step _ _ hd0 hn h22 h0
      have up0 : ∀ b, (∃ m, m ≤ b ∧ Chain w1 m) → ∃ m, m ≤ b + 1 ∧ Chain w0 m := fun b ⟨m, hb, h⟩ => ⟨m + 1, by omega, w1, h0, h⟩
      have fin : ∀ k, k ≤ 5 → (∃ m, m ≤ 5 * n + k ∧ Chain w0 m) → ∃ m, m ≤ 5 * (n + 1) ∧ Chain w0 m := fun k hk ⟨m, hb, h⟩ => ⟨m, by omega, h⟩
      cases h1 : heard w1 with
      | none => exact fin 1 (by omega) (up0 (5 * n) ⟨0, by omega, h1⟩)
      | some w2 =>
        have l1 := heard_len h0 h1
        obtain ⟨d2, n2, t2⟩ := step _ _ d1 n1 t1 h1
        by_cases c1 : w1.length ≤ n
        · exact fin 1 (by omega) (up0 _ (ih w1 d1 c1 n1 t1))
        have up1 : ∀ b, (∃ m, m ≤ b ∧ Chain w2 m) → ∃ m, m ≤ b + 2 ∧ Chain w0 m := fun b ⟨m, hb, h⟩ => up0 (b + 1) ⟨m + 1, by omega, w2, h1, h⟩
        cases h2 : heard w2 with
        | none => exact fin 2 (by omega) (up1 (5 * n) ⟨0, by omega, h2⟩)
        | some w3 =>
          have l2 := heard_len h1 h2
          obtain ⟨d3, n3, t3⟩ := step _ _ d2 n2 t2 h2
          by_cases c2 : w2.length ≤ n
          · exact fin 2 (by omega) (up1 _ (ih w2 d2 c2 n2 t2))
          have up2 : ∀ b, (∃ m, m ≤ b ∧ Chain w3 m) → ∃ m, m ≤ b + 3 ∧ Chain w0 m := fun b ⟨m, hb, h⟩ => up1 (b + 1) ⟨m + 1, by omega, w3, h2, h⟩
          cases h3 : heard w3 with
          | none => exact fin 3 (by omega) (up2 (5 * n) ⟨0, by omega, h3⟩)
          | some w4 =>
            have l3 := heard_len h2 h3
            obtain ⟨d4, n4, t4⟩ := step _ _ d3 n3 t3 h3
            by_cases c3 : w3.length ≤ n
            · exact fin 3 (by omega) (up2 _ (ih w3 d3 c3 n3 t3))
            have up3 : ∀ b, (∃ m, m ≤ b ∧ Chain w4 m) → ∃ m, m ≤ b + 4 ∧ Chain w0 m := fun b ⟨m, hb, h⟩ => up2 (b + 1) ⟨m + 1, by omega, w4, h3, h⟩
            cases h4 : heard w4 with
            | none => exact fin 4 (by omega) (up3 (5 * n) ⟨0, by omega, h4⟩)
            | some w5 =>
              have l4 := heard_len h3 h4
              by_cases c4 : w4.length ≤ n
              · exact fin 4 (by omega) (up3 _ (ih w4 d4 c4 n4 t4))
              exfalso
              obtain ⟨g0, f0, r0⟩ := heard_pairs h0
              obtain ⟨g1, f1, r1⟩ := heard_pairs h1
              obtain ⟨g2, f2, r2⟩ := heard_pairs h2
              obtain ⟨g3, f3, r3⟩ := heard_pairs h3
              obtain ⟨g4, f4, r4⟩ := heard_pairs h4
              have hl : ∀ w, flat (pairs w) = w → w.length = 2 * (pairs w).length := fun w h => by rw [← flat_length, h]
              have q0 := hl _ f0
              have q1 := hl _ f1
              have q2 := hl _ f2
              have q3 := hl _ f3
              have q4 := hl _ f4
              have := stuck (p0 := pairs w0) (p1 := pairs w1) (p2 := pairs w2) (p3 := pairs w3) (p4 := pairs w4) g1 g2 g3 g4 (by rw [f1]; exact r0) (by rw [f2]; exact r1) (by rw [f3]; exact r2) (by rw [f4]; exact r3) (by omega) (by omega) (by omega) (by omega) (by
                intro e
                rw [e] at q4
                exact n4 (List.eq_nil_of_length_eq_zero (by simpa using q4)))
              rw [this] at f4
              exact t4 f4.symm
theorem chain_any {w : List Nat} (hd : Dig w) (hn : w ≠ []) (h : w ≠ [2, 2]) : ∃ m, m ≤ 5 * w.length ∧ Chain w m := chain_ex w.length w hd (Nat.le_refl _) hn h
theorem spell_bound (L : List (Nat × Nat)) (h : ∀ p ∈ L, p.1 ≤ 9) : (spell L).length ≤ 9 * L.length := by
  induction L with
  | nil => simp [spell]
  | cons p L ih =>
    have h1 := h p (List.mem_cons_self ..)
    have h2 := ih (fun q hq => h q (List.mem_cons_of_mem _ hq))
    rw [show spell (p :: L) = List.replicate p.1 p.2 ++ spell L from rfl, List.length_append, List.length_replicate, List.length_cons]
    omega
theorem heard_bound {w v : List Nat} (hd : Dig w) (h : heard w = some v) : v.length ≤ 5 * w.length := by
  unfold heard at h
  split at h
  · simp only [Option.some.injEq] at h
    subst h
    have := spell_bound (pairs w) (fun p hp => (hd _ (pairs_mem w p hp).1).2)
    rw [pairs_len] at this
    omega
  · cases h
end Go.Aw
/-! The words of the days. -/
namespace Go.Aw
def wd : Nat → List Nat → List Nat
  | 0, w => w
  | n + 1, w => wd n (say w)
theorem wd_succ : ∀ (n : Nat) (w : List Nat), wd (n + 1) w = say (wd n w)
  | 0, w => rfl
  | n + 1, w => wd_succ n (say w)
theorem wd_add : ∀ (n m : Nat) (w : List Nat), wd (n + m) w = wd m (wd n w)
  | 0, m, w => by rw [Nat.zero_add]; rfl
  | n + 1, m, w => by
    rw [show n + 1 + m = (n + m) + 1 by omega]
    show wd (n + m) (say w) = wd m (wd n (say w))
    exact wd_add n m (say w)
open Classical in
/-- The error of one day. -/
noncomputable def stepE (w : List Nat) : Int := if ¬ Sayable w then 4 else if 100000 < (say w).length then 8 else 0
noncomputable def derr : Nat → List Nat → Int
  | 0, _ => 0
  | n + 1, w => if stepE w = 0 then derr n (say w) else stepE w
theorem stepE_zero {w : List Nat} : stepE w = 0 ↔ Sayable w ∧ (say w).length ≤ 100000 := by
  unfold stepE
  constructor
  · intro h
    split at h
    · cases h
    · split at h
      · cases h
      · rename_i a b
        exact ⟨Classical.not_not.1 a, by omega⟩
  · rintro ⟨a, b⟩
    rw [if_neg (fun h => h a), if_neg (by omega)]
theorem derr_zero : ∀ {n : Nat} {w : List Nat}, derr n w = 0 ↔ ∀ j, j < n → stepE (wd j w) = 0
  | 0, w => ⟨fun _ j h => by omega, fun _ => rfl⟩
  | n + 1, w => by
    unfold derr
    constructor
    · intro h
      split at h
      · rename_i c
        intro j hj
        cases j with
        | zero => exact c
        | succ j => exact derr_zero.1 h j (by omega)
      · rename_i c
        exact absurd h c
    · intro h
      have h0 : stepE w = 0 := h 0 (by omega)
      rw [if_pos h0]
      exact derr_zero.2 fun j hj => h (j + 1) (by omega)
theorem derr_at : ∀ {n i : Nat} {w : List Nat}, i < n → (∀ j, j < i → stepE (wd j w) = 0) → stepE (wd i w) ≠ 0 → derr n w = stepE (wd i w)
  | 0, i, w, h, _, _ => by omega
  | n + 1, 0, w, _, _, h => by
    have h0 : stepE w ≠ 0 := h
    unfold derr; rw [if_neg h0]; rfl
  | n + 1, i + 1, w, hi, h1, h2 => by
    have h0 : stepE w = 0 := h1 0 (by omega)
    unfold derr
    rw [if_pos h0]
    exact derr_at (by omega) (fun j hj => h1 (j + 1) (by omega)) h2
theorem derr_first {n : Nat} {w : List Nat} (h : derr n w ≠ 0) : ∃ i, i < n ∧ (∀ j, j < i → stepE (wd j w) = 0) ∧ stepE (wd i w) ≠ 0 ∧ derr n w = stepE (wd i w) := by
  induction n generalizing w with
  | zero => exact absurd rfl h
  | succ n ih =>
    by_cases c : stepE w = 0
    · have e : derr (n + 1) w = derr n (say w) := by conv => lhs; unfold derr; rw [if_pos c]
      rw [e] at h
      obtain ⟨i, h1, h2, h3, h4⟩ := ih h
      refine ⟨i + 1, by omega, fun j hj => ?_, h3, e.trans h4⟩
      cases j with
      | zero => exact c
      | succ j => exact h2 j (by omega)
    · exact ⟨0, by omega, fun j hj => by omega, c, by unfold derr; rw [if_neg c]; rfl⟩
theorem derr_mono {n m : Nat} {w : List Nat} (h : derr n w = 0) (hm : m ≤ n) : derr m w = 0 := derr_zero.2 fun j hj => derr_zero.1 h j (by omega)
theorem wd_dig {w : List Nat} (hd : Dig w) : ∀ {n : Nat}, (∀ j, j < n → stepE (wd j w) = 0) → Dig (wd n w)
  | 0, _ => hd
  | n + 1, h => by
    rw [wd_succ]
    exact say_dig (wd_dig hd fun j hj => h j (by omega)) (stepE_zero.1 (h n (by omega))).1
theorem wd_len {w : List Nat} (hl : w.length ≤ 200) : ∀ {n : Nat}, (∀ j, j < n → stepE (wd j w) = 0) → (wd n w).length ≤ 100000
  | 0, _ => by show w.length ≤ 100000; omega
  | n + 1, h => by
    rw [wd_succ]
    exact (stepE_zero.1 (h n (by omega))).2
theorem say_ne {w : List Nat} (h : w ≠ []) : say w ≠ [] := by
  intro e
  have := say_length w
  rw [e] at this
  have h2 : runs w = [] := List.eq_nil_of_length_eq_zero (by simp at this; omega)
  cases w with
  | nil => exact h rfl
  | cons x l => exact runsFrom_ne 1 x l h2
theorem wd_ne {w : List Nat} (h : w ≠ []) : ∀ {n : Nat}, wd n w ≠ []
  | 0 => h
  | n + 1 => by rw [wd_succ]; exact say_ne (wd_ne h)
theorem stepE_vals (w : List Nat) : stepE w = 0 ∨ stepE w = 4 ∨ stepE w = 8 := by
  unfold stepE
  split
  · exact .inr (.inl rfl)
  · split
    · exact .inr (.inr rfl)
    · exact .inl rfl
theorem derr_vals (n : Nat) (w : List Nat) : derr n w = 0 ∨ derr n w = 4 ∨ derr n w = 8 := by
  by_cases h : derr n w = 0
  · exact .inl h
  · obtain ⟨i, _, _, h3, h4⟩ := derr_first h
    rw [h4]
    exact stepE_vals _
end Go.Aw
/-! What the theorems of the chapter say. -/
namespace Go.Aw
theorem chain_wd : ∀ (j : Nat) {w : List Nat} {m : Nat}, Chain w m → Chain (wd j w) (m + j)
  | 0, w, m, h => h
  | j + 1, w, m, h => by
    rw [wd_succ]
    exact ⟨wd j w, say_heard _, chain_wd j h⟩
theorem never {w : List Nat} (hd : Dig w) (hn : w ≠ []) (h : w ≠ [2, 2]) {k : Nat} (hk : k ≠ 0) : wd k w ≠ w := by
  intro e
  obtain ⟨m, _, hc⟩ := chain_any hd hn h
  have := chain_wd k hc
  rw [e] at this
  have := Chain.det hc this
  omega
theorem say_22 : say [2, 2] = [2, 2] := by decide
theorem wd_22 : ∀ k, wd k [2, 2] = [2, 2]
  | 0 => rfl
  | k + 1 => by show wd k (say [2, 2]) = _; rw [say_22]; exact wd_22 k
theorem step_22 : stepE [2, 2] = 0 := stepE_zero.2 ⟨by decide, by decide⟩
theorem derr_22 (k : Nat) : derr k [2, 2] = 0 := derr_zero.2 fun j _ => by rw [wd_22]; exact step_22
theorem say_not22 {w : List Nat} (h : w ≠ [2, 2]) : say w ≠ [2, 2] := by
  intro e
  have := say_heard w
  rw [e] at this
  have h2 : heard [2, 2] = some [2, 2] := by decide
  rw [h2] at this
  exact h (Option.some.inj this).symm
/-! Two words put together. -/
theorem runsFrom_ne_app : ∀ (l : List Nat) (k d : Nat) (y : Nat) (r : List Nat), (d :: l).getLast? ≠ some y → runsFrom k d (l ++ y :: r) = runsFrom k d l ++ runsFrom 1 y r
  | [], k, d, y, r, h => by
    have : ¬ y = d := fun e => h (by simp [e])
    simp [runsFrom, this]
  | x :: l, k, d, y, r, h => by
    have h2 : (x :: l).getLast? ≠ some y := by simpa using h
    by_cases c : x = d
    · subst c
      simp only [List.cons_append, runsFrom, if_true]
      exact runsFrom_ne_app l (k + 1) x y r h2
    · simp only [List.cons_append, runsFrom, if_neg c]
      rw [runsFrom_ne_app l 1 x y r h2]
theorem runs_apart {a b : List Nat} (h : ∀ y, a.getLast? = some y → b.head? ≠ some y) : runs (a ++ b) = runs a ++ runs b := by
  cases a with
  | nil => rfl
  | cons x l =>
    cases b with
    | nil => simp [runs]
    | cons y r =>
      show runsFrom 1 x (l ++ y :: r) = _
      exact runsFrom_ne_app l 1 x y r (fun e => h y e rfl)
theorem say_apart {a b : List Nat} (h : ∀ y, a.getLast? = some y → b.head? ≠ some y) : say (a ++ b) = say a ++ say b := by
  unfold say
  rw [runs_apart h]
  simp [flat]
theorem runsFrom_touch : ∀ (l : List Nat) (k d : Nat) (y : Nat) (r : List Nat), (d :: l).getLast? = some y → ∃ R m, runsFrom k d l = R ++ [(m, y)] ∧ runsFrom k d (l ++ y :: r) = R ++ runsFrom (m + 1) y r
  | [], k, d, y, r, h => by
    have : d = y := by simpa using h
    subst this
    exact ⟨[], k, rfl, by simp [runsFrom]⟩
  | x :: l, k, d, y, r, h => by
    have h2 : (x :: l).getLast? = some y := by simpa using h
    by_cases c : x = d
    · subst c
      obtain ⟨R, m, h3, h4⟩ := runsFrom_touch l (k + 1) x y r h2
      exact ⟨R, m, by simp [runsFrom, h3], by simp [runsFrom, h4]⟩
    · obtain ⟨R, m, h3, h4⟩ := runsFrom_touch l 1 x y r h2
      exact ⟨(k, d) :: R, m, by simp [runsFrom, c, h3], by simp [runsFrom, c, h4]⟩
/-- The first run behind k digits more. -/
theorem runsFrom_more : ∀ (r : List Nat) (j k y : Nat), ∃ m R, runsFrom k y r = (m, y) :: R ∧ runsFrom (k + j) y r = (m + j, y) :: R
  | [], j, k, y => ⟨k, [], rfl, rfl⟩
  | x :: r, j, k, y => by
    by_cases c : x = y
    · subst c
      obtain ⟨m, R, h1, h2⟩ := runsFrom_more r j (k + 1) x
      refine ⟨m, R, by simp [runsFrom, h1], ?_⟩
      rw [← h2]
      simp only [runsFrom, if_true]
      congr 1
      omega
    · exact ⟨k, runsFrom 1 x r, by simp [runsFrom, c], by simp [runsFrom, c]⟩
theorem runs_touch {a b : List Nat} {y : Nat} (h : a.getLast? = some y) (h2 : b.head? = some y) : ∃ R m n T, runs a = R ++ [(m, y)] ∧ runs b = (n, y) :: T ∧ runs (a ++ b) = R ++ (n + m, y) :: T := by
  cases a with
  | nil => cases h
  | cons x l =>
    cases b with
    | nil => cases h2
    | cons z r =>
      cases h2
      obtain ⟨R, m, h3, h4⟩ := runsFrom_touch l 1 x y r h
      obtain ⟨n, T, h5, h6⟩ := runsFrom_more r m 1 y
      refine ⟨R, m, n, T, h3, h5, ?_⟩
      show runsFrom 1 x (l ++ y :: r) = _
      rw [h4, show m + 1 = 1 + m by omega, h6]
theorem sayable_left {a b : List Nat} (h : Sayable (a ++ b)) : Sayable a ∧ Sayable b := by
  by_cases c : ∃ y, a.getLast? = some y ∧ b.head? = some y
  · obtain ⟨y, h1, h2⟩ := c
    obtain ⟨R, m, n, T, e1, e2, e3⟩ := runs_touch h1 h2
    unfold Sayable at h ⊢
    rw [e3] at h
    rw [e1, e2]
    have hm := h (n + m, y) (by simp)
    simp at hm
    constructor
    · intro p hp
      rcases List.mem_append.1 hp with q | q
      · exact h p (List.mem_append_left _ q)
      · simp at q; subst q; simp; omega
    · intro p hp
      rcases List.mem_cons.1 hp with q | q
      · subst q; simp; omega
      · exact h p (List.mem_append_right _ (List.mem_cons_of_mem _ q))
  · have e := runs_apart (a := a) (b := b) (fun y h1 h2 => c ⟨y, h1, h2⟩)
    unfold Sayable at h ⊢
    rw [e] at h
    exact ⟨fun p hp => h p (List.mem_append_left _ hp), fun p hp => h p (List.mem_append_right _ hp)⟩
theorem sayable_apart {a b : List Nat} (c : ∀ y, a.getLast? = some y → b.head? ≠ some y) (ha : Sayable a) (hb : Sayable b) : Sayable (a ++ b) := by
  unfold Sayable
  rw [runs_apart c]
  intro p hp
  rcases List.mem_append.1 hp with q | q
  · exact ha p q
  · exact hb p q
theorem say_touch {a b : List Nat} {y : Nat} (h : a.getLast? = some y) (h2 : b.head? = some y) : say (a ++ b) ≠ say a ++ say b := by
  obtain ⟨R, m, n, T, e1, e2, e3⟩ := runs_touch h h2
  intro e
  have := congrArg List.length e
  rw [List.length_append, say_length, say_length, say_length, e1, e2, e3] at this
  simp at this
  omega
theorem last_flat : ∀ (l : List (Nat × Nat)), l ≠ [] → (flat l).getLast? = (l.getLast?).map (·.2)
  | [], h => absurd rfl h
  | [p], _ => by simp [flat]
  | p :: q :: l, _ => by
    have := last_flat (q :: l) (by simp)
    have e : flat (p :: q :: l) = p.1 :: p.2 :: flat (q :: l) := rfl
    have e2 : flat (q :: l) = q.1 :: q.2 :: flat l := rfl
    rw [e, e2, List.getLast?_cons_cons, List.getLast?_cons_cons, ← e2, this]
    simp
theorem last_runs {w : List Nat} (h : w ≠ []) : (runs w).getLast?.map (·.2) = w.getLast? := by
  cases w with
  | nil => exact absurd rfl h
  | cons x l =>
    obtain ⟨R, m, e, h1, h2, _, _⟩ := runsFrom_snoc l 1 x 0
    show (runsFrom 1 x l).getLast?.map (·.2) = _
    rw [h1, h2]
    simp
theorem last_say {w : List Nat} (h : w ≠ []) : (say w).getLast? = w.getLast? := by
  unfold say
  rw [last_flat _ (fun e => by cases w with | nil => exact h rfl | cons x l => exact runsFrom_ne 1 x l e), last_runs h]
theorem last_wd {w : List Nat} (h : w ≠ []) : ∀ n, (wd n w).getLast? = w.getLast?
  | 0 => rfl
  | n + 1 => by rw [wd_succ, last_say (wd_ne h), last_wd h n]
/-- Two words are apart so long as they do not touch. -/
theorem apart_iff {a b : List Nat} (ha : a ≠ []) (hb : b ≠ []) (n : Nat) : (∀ d, d ≤ n → wd d (a ++ b) = wd d a ++ wd d b) ↔ ∀ d, d < n → (wd d b).head? ≠ a.getLast? := by
  constructor
  · intro h d hd e
    have h1 := h d (by omega)
    have h2 := h (d + 1) (by omega)
    rw [wd_succ, wd_succ, wd_succ, h1] at h2
    cases hl : a.getLast? with
    | none => exact ha (List.getLast?_eq_none_iff.1 hl)
    | some y =>
      rw [hl] at e
      exact say_touch (by rw [last_wd ha d, hl]) e h2
  · intro h d
    induction d with
    | zero => intro _; rfl
    | succ d ih =>
      intro hd
      rw [wd_succ, wd_succ, wd_succ, ih (by omega)]
      refine say_apart fun y h1 h2 => h d (by omega) ?_
      rw [h2, ← h1, last_wd ha d]
/-- No run of what was said has more than three digits. -/
theorem runsFrom3 : ∀ (p : List (Nat × Nat)) (k d : Nat), k ≤ 2 → Good p → (∀ q, p.head? = some q → d ≠ q.2) → ∀ z ∈ runsFrom k d (flat p), z.1 ≤ 3
  | [], k, d, hk, _, _, z, hz => by simp [flat, runsFrom] at hz; subst hz; simp; omega
  | (a, b) :: p, k, d, hk, g, h, z, hz => by
    have hb : d ≠ b := h (a, b) rfl
    have hp := g.head_ne
    have e : flat ((a, b) :: p) = a :: b :: flat p := rfl
    rw [e] at hz
    by_cases c : a = d
    · subst c
      simp only [runsFrom, if_true, if_neg (fun z => hb z.symm : ¬ b = a)] at hz
      rcases List.mem_cons.1 hz with q | q
      · subst q; simp; omega
      · exact runsFrom3 p 1 b (by omega) g.tail hp z q
    · by_cases c2 : b = a
      · subst c2
        simp only [runsFrom, if_neg c, if_true] at hz
        rcases List.mem_cons.1 hz with q | q
        · subst q; simp; omega
        · exact runsFrom3 p 2 b (by omega) g.tail hp z q
      · simp only [runsFrom, if_neg c, if_neg c2] at hz
        rcases List.mem_cons.1 hz with q | q
        · subst q; simp; omega
        · rcases List.mem_cons.1 q with q | q
          · subst q; simp
          · exact runsFrom3 p 1 b (by omega) g.tail hp z q
theorem runs3 {p : List (Nat × Nat)} (g : Good p) : ∀ z ∈ runs (flat p), z.1 ≤ 3 := by
  intro z hz
  match p, g, hz with
  | [], _, hz => cases hz
  | (a, b) :: p, g, hz =>
    have hp := g.head_ne
    have e : runs (flat ((a, b) :: p)) = runsFrom 1 a (b :: flat p) := rfl
    rw [e] at hz
    by_cases c : b = a
    · subst c
      simp only [runsFrom, if_true] at hz
      exact runsFrom3 p 2 b (by omega) g.tail hp z hz
    · simp only [runsFrom, if_neg c] at hz
      rcases List.mem_cons.1 hz with q | q
      · subst q; simp
      · exact runsFrom3 p 1 b (by omega) g.tail hp z q
theorem runs3_say (w : List Nat) : ∀ z ∈ runs (say w), z.1 ≤ 3 := runs3 (good_runs w)
theorem runs3_take {l : List Nat} (h : ∀ z ∈ runs l, z.1 ≤ 3) : ∀ (n : Nat) (i : Nat), i + n = l.length → ∀ z ∈ runs (l.take i), z.1 ≤ 3
  | 0, i, hi => by
    rw [List.take_of_length_le (by omega)]
    exact h
  | n + 1, i, hi => by
    have ih := runs3_take h n (i + 1) (by omega)
    have ht : l.take (i + 1) = l.take i ++ [l[i]] := by rw [List.take_add_one, List.getElem?_eq_getElem (by omega)]; rfl
    by_cases c : l.take i = []
    · rw [c]; intro z hz; cases hz
    · obtain ⟨R, k, e, h1, _, h3⟩ := runs_snoc c (l[i]'(by omega))
      rw [ht, h3] at ih
      rw [h1]
      intro z hz
      rcases List.mem_append.1 hz with q | q
      · refine ih z ?_
        split <;> exact List.mem_append_left _ q
      · simp at q
        subst q
        split at ih
        · have := ih (k + 1, e) (by simp)
          simp at this ⊢; omega
        · exact ih (k, e) (by simp)
end Go.Aw
