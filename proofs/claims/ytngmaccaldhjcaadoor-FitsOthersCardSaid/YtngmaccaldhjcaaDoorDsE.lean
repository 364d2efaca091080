import Derived.Test.YtngmaccaldhjcaaDoorDsC
import Derived.Laws.IdiomCopy
set_option linter.all false
set_option linter.unusedSimpArgs false
set_option linter.unnecessarySimpa false
set_option linter.unusedVariables false
set_option linter.unusedSectionVars false
set_option linter.unusedSectionVars false
set_option linter.unusedVariables false
namespace Go.Ds
variable [Inhabited Bound]

/-! ## How values of the evaluator stand to values of a run -/
structure FE where
  blk : Nat
  room : Nat
abbrev Phi := Nat → Option FE
def Phi.le (φ ψ : Phi) : Prop := ∀ i e, φ i = some e → ψ i = some e
theorem Phi.le_refl (φ : Phi) : φ.le φ := fun _ _ h => h
theorem Phi.le_trans {a b c : Phi} (h : a.le b) (k : b.le c) : a.le c := fun i e x => k i e (h i e x)

inductive VRel (φ : Phi) : Value → Value → Prop where
  | bool (b : Bool) : VRel φ (.bool b) (.bool b)
  | int (k : IntKind) (n : Int) : VRel φ (.int k n) (.int k n)
  | float (k : FloatKind) (n : Nat) : VRel φ (.float k n) (.float k n)
  | str (s : ByteArray) : VRel φ (.string s) (.string s)
  | pnil : VRel φ (.pointer none) (.pointer none)
  | ptr (a : Nat) (e : FE) (off : Nat) (h : φ a = some e) : VRel φ (.pointer (some ⟨a, off, none⟩)) (.pointer (some ⟨e.blk, off, none⟩))
  | snil : VRel φ (.slice none 0 0) (.slice none 0 0)
  | slc (a : Nat) (e : FE) (off l c : Nat) (h : φ a = some e) (hc : c < OPEN) (hl : l ≤ c) : VRel φ (.slice (some ⟨a, off, none⟩) l c) (.slice (some ⟨e.blk, off, none⟩) l c)
  | sopen (a : Nat) (e : FE) (off off' l c sz : Nat) (h : φ a = some e) (hl : l ≤ c) (hr : (l = 0 ∧ 0 < off) ∨ (off' = off ∧ off + c * sz = e.room)) :
      VRel φ (.slice (some ⟨a, off, none⟩) l (OPEN + sz)) (.slice (some ⟨e.blk, off', none⟩) l c)
  | sdead (a a' : Addr) : VRel φ (.slice (some a) 0 0) (.slice (some a') 0 0)
  | mnil : VRel φ (.map none) (.map none)
  | map (r : Nat) (e : FE) (h : φ r = some e) : VRel φ (.map (some r)) (.map (some e.blk))
  | func (f : FuncId) (as as' bs bs' : Array Value) (ha : as.size = as'.size) (hb : bs.size = bs'.size)
      (h1 : ∀ (i : Nat) v v', as[i]? = some v → as'[i]? = some v' → VRel φ v v') (h2 : ∀ (i : Nat) v v', bs[i]? = some v → bs'[i]? = some v' → VRel φ v v') :
      VRel φ (.func (.func f) as bs) (.func (.func f) as' bs')
  | fnil : VRel φ .nilFunc .nilFunc
  | iface (t : TypeId) (v v' : Value) (h : VRel φ v v') : VRel φ (.iface t v) (.iface t v')
  | inil : VRel φ .nilIface .nilIface
  | agg (as as' : Array Value) (ha : as.size = as'.size) (h1 : ∀ (i : Nat) v v', as[i]? = some v → as'[i]? = some v' → VRel φ v v') : VRel φ (.agg as) (.agg as')
  | tuple (as as' : Array Value) (ha : as.size = as'.size) (h1 : ∀ (i : Nat) v v', as[i]? = some v → as'[i]? = some v' → VRel φ v v') : VRel φ (.tuple as) (.tuple as')

theorem VRel.mono {φ ψ : Phi} (hle : φ.le ψ) {v v' : Value} (h : VRel φ v v') : VRel ψ v v' := by
  induction h with
  | bool b => exact .bool b
  | int k n => exact .int k n
  | float k n => exact .float k n
  | str s => exact .str s
  | pnil => exact .pnil
  | ptr a e off h => exact .ptr a e off (hle _ _ h)
  | snil => exact .snil
  | slc a e off l c h hc hl => exact .slc a e off l c (hle _ _ h) hc hl
  | sopen a e off off' l c sz h hl hr => exact .sopen a e off off' l c sz (hle _ _ h) hl hr
  | sdead a a' => exact .sdead a a'
  | mnil => exact .mnil
  | map r e h => exact .map r e (hle _ _ h)
  | func f as as' bs bs' ha hb _ _ ih1 ih2 => exact .func f as as' bs bs' ha hb ih1 ih2
  | fnil => exact .fnil
  | iface t v v' _ ih => exact .iface t v v' ih
  | inil => exact .inil
  | agg as as' ha _ ih => exact .agg as as' ha ih
  | tuple as as' ha _ ih => exact .tuple as as' ha ih

/-! ### Lists -/
def LRel (φ : Phi) (l l' : List Value) : Prop := l.length = l'.length ∧ ∀ (i : Nat) v v', l[i]? = some v → l'[i]? = some v' → VRel φ v v'
theorem LRel.mono {φ ψ : Phi} (hle : φ.le ψ) {l l' : List Value} (h : LRel φ l l') : LRel ψ l l' := ⟨h.1, fun i v v' a b => (h.2 i v v' a b).mono hle⟩
theorem LRel.nil {φ : Phi} : LRel φ [] [] := ⟨rfl, fun i v v' h => by simp at h⟩
theorem LRel.cons {φ : Phi} {x x' : Value} {l l' : List Value} (hx : VRel φ x x') (h : LRel φ l l') : LRel φ (x :: l) (x' :: l') := by
  refine ⟨by simp [h.1], fun i v v' a b => ?_⟩
  cases i with
  | zero => simp at a b; subst a b; exact hx
  | succ i => simp at a b; exact h.2 i v v' a b
theorem LRel.uncons {φ : Phi} {x x' : Value} {l l' : List Value} (h : LRel φ (x :: l) (x' :: l')) : VRel φ x x' ∧ LRel φ l l' :=
  ⟨h.2 0 x x' rfl rfl, by simpa using h.1, fun i v v' a b => h.2 (i + 1) v v' (by simpa using a) (by simpa using b)⟩
theorem LRel.cons_inv {φ : Phi} {x : Value} {l m : List Value} (h : LRel φ (x :: l) m) : ∃ x' l', m = x' :: l' ∧ VRel φ x x' ∧ LRel φ l l' := by
  cases m with
  | nil => have := h.1; simp at this
  | cons x' l' => exact ⟨x', l', rfl, h.uncons.1, h.uncons.2⟩
theorem LRel.nil_inv {φ : Phi} {m : List Value} (h : LRel φ [] m) : m = [] := by
  cases m with
  | nil => rfl
  | cons x l => have := h.1; simp at this
theorem LRel.append {φ : Phi} {a a' b b' : List Value} (h : LRel φ a a') (k : LRel φ b b') : LRel φ (a ++ b) (a' ++ b') := by
  induction a generalizing a' with
  | nil => rw [h.nil_inv]; exact k
  | cons x l ih => obtain ⟨x', l', rfl, hx, hl⟩ := h.cons_inv; exact LRel.cons hx (ih hl)
theorem LRel.get {φ : Phi} {l l' : List Value} (h : LRel φ l l') {i : Nat} {v : Value} (hv : l[i]? = some v) : ∃ v', l'[i]? = some v' ∧ VRel φ v v' := by
  have hi : i < l.length := (List.getElem?_eq_some_iff.1 hv).1
  have hi' : i < l'.length := h.1 ▸ hi
  exact ⟨l'[i], List.getElem?_eq_getElem hi', h.2 i v _ hv (List.getElem?_eq_getElem hi')⟩
theorem LRel.take {φ : Phi} {l l' : List Value} (h : LRel φ l l') (n : Nat) : LRel φ (l.take n) (l'.take n) := by
  refine ⟨by simp [h.1], fun i v v' a b => ?_⟩
  rw [List.getElem?_take] at a b
  split at a
  · rename_i hi; rw [if_pos hi] at b; exact h.2 i v v' a b
  · cases a
theorem LRel.drop {φ : Phi} {l l' : List Value} (h : LRel φ l l') (n : Nat) : LRel φ (l.drop n) (l'.drop n) := by
  refine ⟨by simp [h.1], fun i v v' a b => ?_⟩
  rw [List.getElem?_drop] at a b
  exact h.2 _ v v' a b

theorem LRel.agg {φ : Phi} {a a' : Array Value} (h : LRel φ a.toList a'.toList) : VRel φ (.agg a) (.agg a') :=
  .agg a a' (by simpa using h.1) (fun i v v' x y => h.2 i v v' (by simpa using x) (by simpa using y))
theorem LRel.tuple {φ : Phi} {a a' : Array Value} (h : LRel φ a.toList a'.toList) : VRel φ (.tuple a) (.tuple a') :=
  .tuple a a' (by simpa using h.1) (fun i v v' x y => h.2 i v v' (by simpa using x) (by simpa using y))
theorem LRel.func {φ : Phi} {f : FuncId} {a a' b b' : Array Value} (h : LRel φ a.toList a'.toList) (k : LRel φ b.toList b'.toList) : VRel φ (.func (.func f) a b) (.func (.func f) a' b') :=
  .func f a a' b b' (by simpa using h.1) (by simpa using k.1) (fun i v v' x y => h.2 i v v' (by simpa using x) (by simpa using y)) (fun i v v' x y => k.2 i v v' (by simpa using x) (by simpa using y))
theorem VRel.agg_inv {φ : Phi} {a : Array Value} {v : Value} (h : VRel φ (.agg a) v) : ∃ a', v = .agg a' ∧ LRel φ a.toList a'.toList := by
  cases h with
  | agg _ a' ha h1 => exact ⟨a', rfl, by simpa using ha, fun i v v' x y => h1 i v v' (by simpa using x) (by simpa using y)⟩
theorem VRel.tuple_inv {φ : Phi} {a : Array Value} {v : Value} (h : VRel φ (.tuple a) v) : ∃ a', v = .tuple a' ∧ LRel φ a.toList a'.toList := by
  cases h with
  | tuple _ a' ha h1 => exact ⟨a', rfl, by simpa using ha, fun i v v' x y => h1 i v v' (by simpa using x) (by simpa using y)⟩
theorem VRel.func_inv {φ : Phi} {f : FuncId} {a b : Array Value} {v : Value} (h : VRel φ (.func (.func f) a b) v) : ∃ a' b', v = .func (.func f) a' b' ∧ LRel φ a.toList a'.toList ∧ LRel φ b.toList b'.toList := by
  cases h with
  | func _ _ a' _ b' ha hb h1 h2 => exact ⟨a', b', rfl, ⟨by simpa using ha, fun i v v' x y => h1 i v v' (by simpa using x) (by simpa using y)⟩, ⟨by simpa using hb, fun i v v' x y => h2 i v v' (by simpa using x) (by simpa using y)⟩⟩
theorem VRel.undef {φ : Phi} : VRel φ undef undef := LRel.tuple (a := #[]) (a' := #[]) LRel.nil

theorem VRel.plainV {φ : Phi} {v : Value} (h : plainV v = true) : VRel φ v v := by
  unfold Ds.plainV at h
  split at h
  · exact .bool _
  · exact .int _ _
  · exact .str _
  · exact .pnil
  · exact .fnil
  · exact .inil
  · exact .float _ _
  · exact .snil
  · exact .mnil
  · cases h
theorem LRel.plain {φ : Phi} {l : List Value} (h : l.all Ds.plainV = true) : LRel φ l l := by
  induction l with
  | nil => exact LRel.nil
  | cons x l ih => simp at h; exact LRel.cons (VRel.plainV h.1) (ih (by simpa using h.2))
theorem VRel.plainC {φ : Phi} {v : Value} (h : plainC v = true) : VRel φ v v := by
  unfold Ds.plainC at h
  split at h
  · exact LRel.agg (LRel.plain h)
  · exact LRel.tuple (LRel.plain h)
  · exact VRel.plainV h
theorem plainC_cells {φ : Phi} {v : Value} (h : plainC v = true) : LRel φ v.cells.toList v.cells.toList := by
  unfold Ds.plainC at h
  split at h
  · exact LRel.plain h
  · exact LRel.cons (LRel.tuple (LRel.plain h)) LRel.nil
  · rename_i h1 h2
    have : v.cells = #[v] := by cases v <;> first | rfl | exact absurd rfl (h1 _)
    rw [this]
    exact LRel.cons (VRel.plainV h) LRel.nil

/-! ### Temporaries -/
theorem slot_inj {i j n : Nat} (_ : i < n) (_ : j < n) (h : slot i = slot j) : i = j := h
theorem Env.at_put (e : Env) (p q : P3) (v : Value) : Env.at (Env.put e p v) q = if p = q then v else Env.at e q := Env3.get_put e p q v
theorem Env.putK_eq {R : Type} (e : Env) (p : P3) (v : Value) (k : Env → R) : Env.putK e p v k = k (Env.put e p v) := Env3.putK_eq e p v k
theorem Env.at_none (p : P3) : Env.at Env.none p = undef := by
  simp only [Env.at, Env.none, Env3.get, E8.get_all]
  cases Nat.blt p 512 <;> rfl

theorem fN_eq {R : Type} (n : Nat) (k : Nat → R) : fN n k = k n := by cases n <;> rfl
theorem fI_eq {R : Type} (n : Int) (k : Int → R) : fI n k = k n := by cases n <;> simp [fI, fN_eq]
theorem fB_eq {R : Type} (b : Bool) (k : Bool → R) : fB b k = k b := by cases b <;> rfl
theorem fA_eq {R : Type} (a : Addr) (k : Addr → R) : fA a k = k a := by
  unfold fA; split
  · simp only [fN_eq]
  · rfl
theorem fS_eq {R : Type} (v : Value) (k : Value → R) : fS v k = k v := by
  unfold fS; split <;> simp only [fB_eq, fI_eq, fA_eq, fN_eq]
theorem fL_eq {R : Type} (l : List Value) (k : List Value → R) : fL l k = k l := by
  induction l generalizing k with
  | nil => rfl
  | cons x l ih => simp only [fL, fS_eq, ih]
theorem fW_eq {R : Type} (v : Value) (k : Value → R) : fW v k = k v := by
  unfold fW; split <;> simp only [fL_eq, fS_eq]
theorem fT_eq {R : Type} (l : List Value) (k : List Value → R) : fT l k = k l := by
  induction l generalizing k with
  | nil => rfl
  | cons x l ih => simp only [fT, fW_eq, ih]
theorem fV_eq {R : Type} (v : Value) (k : Value → R) : fV v k = k v := by
  unfold fV; split <;> simp only [fL_eq, fT_eq, fS_eq]

def putE (e : Env) (d : Option P3) (v : Value) : Env :=
  match d with
  | some d => Env.put e d v
  | none => e
theorem putEK_eq {R : Type} (e : Env) (d : Option P3) (v : Value) (k : Env → R) : putEK e d v k = k (putE e d v) := by
  cases d <;> simp only [putEK, putE, fV_eq, Env.putK_eq]

/-- The environment and the temporaries, of which there are at least n. -/
structure ERel (φ : Phi) (n : Nat) (e : Env) (a : Act) : Prop where
  size : n ≤ a.tmps.size
  at_ : ∀ t, t < 512 → VRel φ (e.at (slot t)) (a.tmps.getD t undef)
  defs : a.defers = []
theorem ERel.mono {φ ψ : Phi} (hle : φ.le ψ) {n : Nat} {e : Env} {a : Act} (h : ERel φ n e a) : ERel ψ n e a := ⟨h.size, fun t ht => (h.at_ t ht).mono hle, h.defs⟩

theorem ERel.put {φ : Phi} {n : Nat} {e : Env} {a : Act} (h : ERel φ n e a) {d : Option Tmp} {p : Option P3} (hp : prepD n d = some p) (hn : n ≤ 512) {v v' : Value} (hv : VRel φ v v') :
    ERel φ n (putE e p v) (a.put d v') := by
  cases d with
  | none => simp only [prepD, Option.some.injEq] at hp; subst hp; exact h
  | some d =>
    simp only [prepD] at hp
    cases hb : Nat.blt d n with
    | false => rw [hb] at hp; cases hp
    | true =>
      rw [hb] at hp
      simp only [cond_true, Option.some.injEq] at hp
      subst hp
      have hd : @LT.lt Nat _ d n := Nat.blt_eq ▸ hb
      have hs := h.size
      refine ⟨by simpa [Act.put] using hs, fun t ht => ?_, h.defs⟩
      simp only [putE, Env.at_put, Act.put]
      by_cases e1 : d = t
      · subst e1
        rw [if_pos rfl]
        simp [Array.getD_eq_getD_getElem?, show @LT.lt Nat _ d a.tmps.size by omega]
        exact hv
      · rw [if_neg (fun x => e1 (slot_inj (by omega) ht x))]
        have := h.at_ t ht
        simpa [Array.getD_eq_getD_getElem?, Array.getElem?_setIfInBounds, e1] using this

theorem ev_rel {φ : Phi} {n : Nat} {e : Env} {a : Act} (h : ERel φ n e a) {o : Operand} {p : PO} (hp : prepO o = some p) : VRel φ (ev e p) (a.eval o) := by
  cases o with
  | tmp t =>
    simp only [prepO] at hp
    cases hb : Nat.blt t 512 with
    | false => rw [hb] at hp; cases hp
    | true =>
      rw [hb] at hp
      simp only [cond_true, Option.some.injEq] at hp
      subst hp
      exact h.at_ t (Nat.blt_eq ▸ hb)
  | const v =>
    simp only [prepO] at hp
    cases hb : plainC v with
    | false => rw [hb] at hp; cases hp
    | true =>
      rw [hb] at hp
      simp only [cond_true, Option.some.injEq] at hp
      subst hp
      exact VRel.plainC hb
  | global g => cases hp
  | func f =>
    simp only [prepO, Option.some.injEq] at hp
    subst hp
    exact LRel.func LRel.nil LRel.nil
theorem evs_rel {φ : Phi} {n : Nat} {e : Env} {a : Act} (h : ERel φ n e a) : ∀ {l : List Operand} {ps : List PO}, prepOs l = some ps → LRel φ (evs e ps) (l.map a.eval)
  | [], ps, hp => by simp only [prepOs, Option.some.injEq] at hp; subst hp; exact LRel.nil
  | o :: l, ps, hp => by
    simp only [prepOs] at hp
    split at hp
    · rename_i v r h1 h2
      simp only [Option.some.injEq] at hp
      subst hp
      exact LRel.cons (ev_rel h h1) (evs_rel h h2)
    · cases hp
/-- Parts by number. -/
def PRel (φ : Phi) (l l' : List (Nat × Value)) : Prop := l.map (·.1) = l'.map (·.1) ∧ LRel φ (l.map (·.2)) (l'.map (·.2))
theorem evParts_rel {φ : Phi} {n : Nat} {e : Env} {a : Act} (h : ERel φ n e a) : ∀ {l : List (Nat × Operand)} {ps : List (Nat × PO)}, prepParts l = some ps → PRel φ (evParts e ps) (l.map fun x => (x.1, a.eval x.2))
  | [], ps, hp => by simp only [prepParts, Option.some.injEq] at hp; subst hp; exact ⟨rfl, LRel.nil⟩
  | (i, o) :: l, ps, hp => by
    simp only [prepParts] at hp
    split at hp
    · rename_i v r h1 h2
      simp only [Option.some.injEq] at hp
      subst hp
      have ih := evParts_rel h h2
      exact ⟨by simp [evParts, ih.1], LRel.cons (ev_rel h h1) ih.2⟩
    · cases hp
def ORel (φ : Phi) : Option Value → Option Value → Prop
  | none, none => True
  | some v, some v' => VRel φ v v'
  | _, _ => False
theorem evOpt_rel {φ : Phi} {n : Nat} {e : Env} {a : Act} (h : ERel φ n e a) {o : Option Operand} {p : Option PO} (hp : prepOpt o = some p) : ORel φ (evOpt e p) (o.map a.eval) := by
  cases o with
  | none => simp only [prepOpt, Option.some.injEq] at hp; subst hp; trivial
  | some o =>
    simp only [prepOpt] at hp
    cases hq : prepO o with
    | none => rw [hq] at hp; cases hp
    | some q => rw [hq] at hp; simp only [Option.map_some, Option.some.injEq] at hp; subst hp; exact ev_rel h hq
end Go.Ds
