import Derived.Calls
import Derived.Below
import Derived.Orders
set_option linter.all false
set_option linter.unusedSimpArgs false
set_option linter.unnecessarySimpa false
set_option linter.unusedVariables false
set_option linter.unusedSectionVars false
namespace Go.Ds

/-- A number of objects that no run of interest comes to; it is left open. -/
structure Bound where
  n : Nat

def LIM [b : Inhabited Bound] : Nat := b.default.n

/-! ## Rows of eight: the kernel reads and writes them in a step or two -/
inductive I8 where
  | i0 | i1 | i2 | i3 | i4 | i5 | i6 | i7
  deriving DecidableEq

structure E8 (α : Type) where
  a0 : α
  a1 : α
  a2 : α
  a3 : α
  a4 : α
  a5 : α
  a6 : α
  a7 : α

def E8.all {α : Type} (x : α) : E8 α := ⟨x, x, x, x, x, x, x, x⟩
def E8.get {α : Type} (e : E8 α) (i : I8) : α :=
  match i with
  | .i0 => e.a0
  | .i1 => e.a1
  | .i2 => e.a2
  | .i3 => e.a3
  | .i4 => e.a4
  | .i5 => e.a5
  | .i6 => e.a6
  | .i7 => e.a7
def E8.set {α : Type} (e : E8 α) (i : I8) (x : α) : E8 α :=
  match e with
  | ⟨a, b, c, d, f, g, h, j⟩ => match i with
    | .i0 => ⟨x, b, c, d, f, g, h, j⟩
    | .i1 => ⟨a, x, c, d, f, g, h, j⟩
    | .i2 => ⟨a, b, x, d, f, g, h, j⟩
    | .i3 => ⟨a, b, c, x, f, g, h, j⟩
    | .i4 => ⟨a, b, c, d, x, g, h, j⟩
    | .i5 => ⟨a, b, c, d, f, x, h, j⟩
    | .i6 => ⟨a, b, c, d, f, g, x, j⟩
    | .i7 => ⟨a, b, c, d, f, g, h, x⟩
/-- The same, handed on written out. -/
def E8.setK {α R : Type} (e : E8 α) (i : I8) (x : α) (k : E8 α → R) : R :=
  match e with
  | ⟨a, b, c, d, f, g, h, j⟩ => match i with
    | .i0 => k ⟨x, b, c, d, f, g, h, j⟩
    | .i1 => k ⟨a, x, c, d, f, g, h, j⟩
    | .i2 => k ⟨a, b, x, d, f, g, h, j⟩
    | .i3 => k ⟨a, b, c, x, f, g, h, j⟩
    | .i4 => k ⟨a, b, c, d, x, g, h, j⟩
    | .i5 => k ⟨a, b, c, d, f, x, h, j⟩
    | .i6 => k ⟨a, b, c, d, f, g, x, j⟩
    | .i7 => k ⟨a, b, c, d, f, g, h, x⟩
theorem E8.setK_eq {α R : Type} (e : E8 α) (i : I8) (x : α) (k : E8 α → R) : e.setK i x k = k (e.set i x) := by
  cases i <;> rfl
theorem E8.get_set {α : Type} (e : E8 α) (i j : I8) (x : α) : (e.set i x).get j = if i = j then x else e.get j := by
  cases i <;> cases j <;> first | rfl | (rw [if_neg (by intro h; cases h)]; rfl)
theorem E8.get_all {α : Type} (x : α) (i : I8) : (E8.all x).get i = x := by cases i <;> rfl

def digit (n : Nat) : I8 :=
  match n with
  | 0 => .i0
  | 1 => .i1
  | 2 => .i2
  | 3 => .i3
  | 4 => .i4
  | 5 => .i5
  | 6 => .i6
  | _ => .i7

/-! ## A trie of five digits, and a function behind it -/
abbrev U5 (α : Type) := E8 (E8 (E8 (E8 (E8 α))))
structure P5 where
  d0 : I8
  d1 : I8
  d2 : I8
  d3 : I8
  d4 : I8
  deriving DecidableEq
def path (i : Nat) : P5 := ⟨digit (Nat.mod (Nat.div i 4096) 8), digit (Nat.mod (Nat.div i 512) 8), digit (Nat.mod (Nat.div i 64) 8), digit (Nat.mod (Nat.div i 8) 8), digit (Nat.mod i 8)⟩
def U5.g4 {α : Type} (t : U5 α) (a : I8) : E8 (E8 (E8 (E8 α))) := E8.get t a
def U5.g3 {α : Type} (t : U5 α) (a b : I8) : E8 (E8 (E8 α)) := E8.get (E8.get t a) b
def U5.g2 {α : Type} (t : U5 α) (a b c : I8) : E8 (E8 α) := E8.get (E8.get (E8.get t a) b) c
def U5.g1 {α : Type} (t : U5 α) (a b c d : I8) : E8 α := E8.get (E8.get (E8.get (E8.get t a) b) c) d
def U5.get {α : Type} (t : U5 α) (p : P5) : α :=
  match p with
  | ⟨a, b, c, d, e⟩ => E8.get (U5.g1 t a b c d) e
def U5.set {α : Type} (t : U5 α) (p : P5) (x : α) : U5 α :=
  match p with
  | ⟨a, b, c, d, e⟩ => E8.set t a (E8.set (U5.g4 t a) b (E8.set (U5.g3 t a b) c (E8.set (U5.g2 t a b c) d (E8.set (U5.g1 t a b c d) e x))))
def U5.setK {α R : Type} (t : U5 α) (p : P5) (x : α) (k : U5 α → R) : R :=
  match p with
  | ⟨a, b, c, d, e⟩ =>
    E8.setK (U5.g1 t a b c d) e x fun u => E8.setK (U5.g2 t a b c) d u fun u => E8.setK (U5.g3 t a b) c u fun u => E8.setK (U5.g4 t a) b u fun u => E8.setK t a u k
theorem U5.get_set {α : Type} (t : U5 α) (p q : P5) (x : α) : U5.get (U5.set t p x) q = if p = q then x else U5.get t q := by
  obtain ⟨a, b, c, d, e⟩ := p
  obtain ⟨a', b', c', d', e'⟩ := q
  simp only [U5.get, U5.set, U5.g1, U5.g2, U5.g3, U5.g4, E8.get_set, P5.mk.injEq]
  by_cases h0 : a = a'
  · subst h0; simp only [if_true, E8.get_set, true_and]
    by_cases h1 : b = b'
    · subst h1; simp only [if_true, E8.get_set, true_and]
      by_cases h2 : c = c'
      · subst h2; simp only [if_true, E8.get_set, true_and]
        by_cases h3 : d = d'
        · subst h3; simp only [if_true, E8.get_set, true_and]
        · simp [h3]
      · simp [h2]
    · simp [h1]
  · simp [h0]
structure T5 (α : Type) where
  lo : U5 α
  hi : Nat → α
def T5.all {α : Type} (x : α) : T5 α := ⟨E8.all (E8.all (E8.all (E8.all (E8.all x)))), fun _ => x⟩
def T5.get {α : Type} (t : T5 α) (i : Nat) : α := bif Nat.blt i 32768 then U5.get t.lo (path i) else t.hi i
def T5.set {α : Type} (t : T5 α) (i : Nat) (x : α) : T5 α := bif Nat.blt i 32768 then ⟨U5.set t.lo (path i) x, t.hi⟩ else ⟨t.lo, fun j => if i = j then x else t.hi j⟩
def T5.setK {α R : Type} (t : T5 α) (i : Nat) (x : α) (k : T5 α → R) : R :=
  match t with
  | ⟨lo, hi⟩ => bif Nat.blt i 32768 then U5.setK lo (path i) x fun lo => k ⟨lo, hi⟩ else k ⟨lo, fun j => if i = j then x else hi j⟩
instance {α : Type} : CoeFun (T5 α) (fun _ => Nat → α) := ⟨T5.get⟩
theorem T5.setK_eq {α R : Type} (t : T5 α) (i : Nat) (x : α) (k : T5 α → R) : T5.setK t i x k = k (T5.set t i x) := by
  obtain ⟨lo, hi⟩ := t
  simp only [T5.setK, T5.set, U5.setK, U5.set, E8.setK_eq]
  cases Nat.blt i 32768 <;> rfl
theorem T5.get_all {α : Type} (x : α) (i : Nat) : T5.get (T5.all x) i = x := by
  simp only [T5.get, U5.get, U5.g1, T5.all, E8.get_all]
  cases Nat.blt i 32768 <;> rfl
theorem digit_inj {a b : Nat} (ha : a < 8) (hb : b < 8) (h : digit a = digit b) : a = b := by
  match a, b, ha, hb with
  | 0, 0, _, _ | 1, 1, _, _ | 2, 2, _, _ | 3, 3, _, _ | 4, 4, _, _ | 5, 5, _, _ | 6, 6, _, _ | 7, 7, _, _ => rfl
  | 0, 1, _, _ | 0, 2, _, _ | 0, 3, _, _ | 0, 4, _, _ | 0, 5, _, _ | 0, 6, _, _ | 0, 7, _, _ => cases h
  | 1, 0, _, _ | 1, 2, _, _ | 1, 3, _, _ | 1, 4, _, _ | 1, 5, _, _ | 1, 6, _, _ | 1, 7, _, _ => cases h
  | 2, 0, _, _ | 2, 1, _, _ | 2, 3, _, _ | 2, 4, _, _ | 2, 5, _, _ | 2, 6, _, _ | 2, 7, _, _ => cases h
  | 3, 0, _, _ | 3, 1, _, _ | 3, 2, _, _ | 3, 4, _, _ | 3, 5, _, _ | 3, 6, _, _ | 3, 7, _, _ => cases h
  | 4, 0, _, _ | 4, 1, _, _ | 4, 2, _, _ | 4, 3, _, _ | 4, 5, _, _ | 4, 6, _, _ | 4, 7, _, _ => cases h
  | 5, 0, _, _ | 5, 1, _, _ | 5, 2, _, _ | 5, 3, _, _ | 5, 4, _, _ | 5, 6, _, _ | 5, 7, _, _ => cases h
  | 6, 0, _, _ | 6, 1, _, _ | 6, 2, _, _ | 6, 3, _, _ | 6, 4, _, _ | 6, 5, _, _ | 6, 7, _, _ => cases h
  | 7, 0, _, _ | 7, 1, _, _ | 7, 2, _, _ | 7, 3, _, _ | 7, 4, _, _ | 7, 5, _, _ | 7, 6, _, _ => cases h

theorem path_inj {i j : Nat} (hi : i < 32768) (hj : j < 32768) (h : path i = path j) : i = j := by
  simp only [path, P5.mk.injEq] at h
  obtain ⟨h0, h1, h2, h3, h4⟩ := h
  have e0 := digit_inj (Nat.mod_lt _ (by decide)) (Nat.mod_lt _ (by decide)) h0
  have e1 := digit_inj (Nat.mod_lt _ (by decide)) (Nat.mod_lt _ (by decide)) h1
  have e2 := digit_inj (Nat.mod_lt _ (by decide)) (Nat.mod_lt _ (by decide)) h2
  have e3 := digit_inj (Nat.mod_lt _ (by decide)) (Nat.mod_lt _ (by decide)) h3
  have e4 := digit_inj (Nat.mod_lt _ (by decide)) (Nat.mod_lt _ (by decide)) h4
  have f : ∀ x y : Nat, Nat.mod x y = x % y := fun _ _ => rfl
  have g : ∀ x y : Nat, Nat.div x y = x / y := fun _ _ => rfl
  simp only [f, g] at e0 e1 e2 e3 e4
  omega

theorem T5.get_set' {α : Type} (t : T5 α) (i j : Nat) (x : α) : T5.get (T5.set t i x) j = if i = j then x else T5.get t j := by
  unfold T5.get T5.set
  cases hi : Nat.blt i 32768 with
  | true =>
    cases hj : Nat.blt j 32768 with
    | true =>
      simp only [cond_true, U5.get_set]
      rw [Nat.blt_eq] at hi hj
      by_cases c : i = j
      · rw [c, if_pos rfl, if_pos rfl]
      · rw [if_neg c, if_neg fun e => c (path_inj hi hj e)]
    | false =>
      have c : i ≠ j := fun e => by rw [e, hj] at hi; cases hi
      simp only [cond_true, cond_false, if_neg c]
  | false =>
    cases hj : Nat.blt j 32768 with
    | true =>
      have c : i ≠ j := fun e => by rw [e, hj] at hi; cases hi
      simp only [cond_true, cond_false, if_neg c]
    | false => rfl
theorem T5.get_set [Inhabited Bound] {α : Type} (t : T5 α) (i j : Nat) (x : α) (_ : i < LIM) (_ : j < LIM) : T5.get (T5.set t i x) j = if i = j then x else T5.get t j := T5.get_set' t i j x

/-! ## Temporaries: three digits, and a function behind them -/
structure Env3 (α : Type) where
  lo : E8 (E8 (E8 α))
  hi : Nat → α
def Env3.get {α : Type} (e : Env3 α) (p : Nat) : α := bif Nat.blt p 512 then E8.get (E8.get (E8.get e.lo (digit (Nat.mod (Nat.div p 64) 8))) (digit (Nat.mod (Nat.div p 8) 8))) (digit (Nat.mod p 8)) else e.hi p
def set3 {α R : Type} (t : E8 (E8 (E8 α))) (a b c : I8) (v : α) (k : E8 (E8 (E8 α)) → R) : R := E8.setK (E8.get (E8.get t a) b) c v fun u => E8.setK (E8.get t a) b u fun u => E8.setK t a u k
def Env3.putK {α R : Type} (e : Env3 α) (p : Nat) (v : α) (k : Env3 α → R) : R :=
  bif Nat.blt p 512 then set3 e.lo (digit (Nat.mod (Nat.div p 64) 8)) (digit (Nat.mod (Nat.div p 8) 8)) (digit (Nat.mod p 8)) v fun u => k ⟨u, e.hi⟩ else k ⟨e.lo, fun j => if p = j then v else e.hi j⟩
def Env3.put {α : Type} (e : Env3 α) (p : Nat) (v : α) : Env3 α := Env3.putK e p v id
theorem Env3.putK_eq {α R : Type} (e : Env3 α) (p : Nat) (v : α) (k : Env3 α → R) : Env3.putK e p v k = k (Env3.put e p v) := by
  simp only [Env3.put, Env3.putK, set3, E8.setK_eq]
  cases Nat.blt p 512 <;> rfl
theorem Env3.get_put {α : Type} (e : Env3 α) (p q : Nat) (v : α) : Env3.get (Env3.put e p v) q = if p = q then v else Env3.get e q := by
  unfold Env3.get Env3.put Env3.putK
  cases hi : Nat.blt p 512 with
  | true =>
    cases hj : Nat.blt q 512 with
    | true =>
      rw [Nat.blt_eq] at hi hj
      simp only [cond_true, set3, E8.setK_eq, id, E8.get_set]
      by_cases c : p = q
      · subst c; simp only [if_true, E8.get_set]
      · rw [if_neg c]
        by_cases h0 : digit (Nat.mod (Nat.div p 64) 8) = digit (Nat.mod (Nat.div q 64) 8)
        · by_cases h1 : digit (Nat.mod (Nat.div p 8) 8) = digit (Nat.mod (Nat.div q 8) 8)
          · have h2 : ¬ digit (Nat.mod p 8) = digit (Nat.mod q 8) := by
              intro h2
              have e0 := digit_inj (Nat.mod_lt _ (by decide)) (Nat.mod_lt _ (by decide)) h0
              have e1 := digit_inj (Nat.mod_lt _ (by decide)) (Nat.mod_lt _ (by decide)) h1
              have e2 := digit_inj (Nat.mod_lt _ (by decide)) (Nat.mod_lt _ (by decide)) h2
              have f : ∀ x y : Nat, Nat.mod x y = x % y := fun _ _ => rfl
              have g : ∀ x y : Nat, Nat.div x y = x / y := fun _ _ => rfl
              simp only [f, g] at e0 e1 e2
              omega
            simp only [h0, h1, if_true, E8.get_set, h2, if_false]
          · simp only [h0, if_true, E8.get_set, h1, if_false]
        · simp only [h0, if_false]
    | false =>
      have c : p ≠ q := fun e => by rw [e, hj] at hi; cases hi
      simp only [cond_true, cond_false, if_neg c, set3, E8.setK_eq, id]
  | false =>
    cases hj : Nat.blt q 512 with
    | true =>
      have c : p ≠ q := fun e => by rw [e, hj] at hi; cases hi
      simp only [cond_true, cond_false, if_neg c, id]
    | false => rfl
end Go.Ds
