import Derived.Test.YtngmaccaldhjcaaDoorDtF
set_option linter.all false
set_option linter.unusedSimpArgs false
set_option linter.unnecessarySimpa false
set_option linter.unusedVariables false
set_option linter.unusedSectionVars false
set_option linter.unusedSectionVars false
set_option linter.unusedVariables false
namespace Go.Ds

/-! ## Symbolic runs: each rule an equation, so that one call of the simplifier walks -/
inductive Pt where
  | C (c : PC) (ks : List Fr) (e : Env) (g : GH) (lo : Nat)
  | O (o : Out) (ks : List Fr) (e : Env) (g : GH) (lo : Nat)
  | R (l : List PI) (k : Nat) (sp : List (Nat × (Nat × Nat))) (wr : List Nat) (ks : List Fr) (e : Env) (g : GH) (lo : Nat)

def Tick : Prop := True
def vB (v : Value) (k : Bool → Prop) : Prop := ∃ b, v = .bool b ∧ k b
def oV {α : Type} (o : Option α) (k : α → Prop) : Prop := ∃ v, o = some v ∧ k v
def bifP (b : Bool) (x y : Prop) : Prop := (b = true → x) ∧ (b = false → y)
def nV {α : Type} (v : α) (k : α → Prop) : Prop := k v
theorem nV_eq {α : Type} (v : α) (k : α → Prop) : nV v k = k v := rfl
def pV (v : Value) (k : Nat → Nat → Prop) : Prop := ∃ j off, v = .pointer (some ⟨j, off, none⟩) ∧ k j off
def oC (o : Ob) (k : List Value → TypeId → Prop) (alt : Prop) : Prop := (∃ cells t, o = cellsOb cells t ∧ k cells t) ∨ (o.slack = true ∧ alt)
def gP (a : Prop) (x : Prop) : Prop := a ∧ x
theorem tick : Tick = True := eq_true trivial
def sameB (a b : Bool) : Bool := a == b
def vG (v : Value) (w : Bool) (x y : Prop) : Prop := (∃ b, v = .bool b ∧ bifP (sameB b w) x y) ∨ (v = undef ∧ y)
theorem vG_cg {v v' : Value} {w : Bool} {x y : Prop} {x0 : Prop} (h : v = v') (_ : Tick = x0) : vG v w x y = vG v' w x y := by rw [h]
theorem vB_cg {v v' : Value} {k : Bool → Prop} {x0 : Prop} (h : v = v') (_ : Tick = x0) : vB v k = vB v' k := by rw [h]
theorem nV_cg {α : Type} {v v' : α} {k : α → Prop} {x0 : Prop} (h : v = v') (_ : Tick = x0) : nV v k = nV v' k := by rw [h]
theorem oV_cg {α : Type} {o o' : Option α} {k : α → Prop} {x0 : Prop} (h : o = o') (_ : Tick = x0) : oV o k = oV o' k := by rw [h]
theorem bifP_cg {b b' : Bool} {x y : Prop} {x0 : Prop} (h : b = b') (_ : Tick = x0) : bifP b x y = bifP b' x y := by rw [h]
theorem pV_cg {v v' : Value} {k : Nat → Nat → Prop} {x0 : Prop} (h : v = v') (_ : Tick = x0) : pV v k = pV v' k := by rw [h]
theorem oC_cg {o o' : Ob} {k : List Value → TypeId → Prop} {alt : Prop} {x0 : Prop} (h : o = o') (_ : Tick = x0) : oC o k alt = oC o' k alt := by rw [h]
theorem gP_cg {a a' x : Prop} {x0 : Prop} (h : a = a') (_ : Tick = x0) : gP a x = gP a' x := by rw [h]
theorem vB_b (b : Bool) (k : Bool → Prop) : vB (.bool b) k = k b := propext ⟨fun ⟨c, h, hk⟩ => by cases h; exact hk, fun h => ⟨b, rfl, h⟩⟩
theorem vG_b (b : Bool) (w : Bool) (x y : Prop) : vG (.bool b) w x y = bifP (sameB b w) x y := by
  apply propext
  constructor
  · rintro (⟨c, h, hk⟩ | ⟨h, _⟩)
    · cases h; exact hk
    · cases h
  · intro h; exact .inl ⟨b, rfl, h⟩
theorem vG_u (w : Bool) (x y : Prop) : vG undef w x y = y := by
  apply propext
  constructor
  · rintro (⟨c, h, hk⟩ | ⟨_, h⟩)
    · cases h
    · exact h
  · intro h; exact .inr ⟨rfl, h⟩
theorem oV_s {α : Type} (v : α) (k : α → Prop) : oV (some v) k = k v := propext ⟨fun ⟨c, h, hk⟩ => by cases h; exact hk, fun h => ⟨v, rfl, h⟩⟩
theorem bifP_t (x y : Prop) : bifP true x y = x := propext ⟨fun h => h.1 rfl, fun h => ⟨fun _ => h, fun q => by cases q⟩⟩
theorem bifP_f (x y : Prop) : bifP false x y = y := propext ⟨fun h => h.2 rfl, fun h => ⟨(fun q => by cases q), fun _ => h⟩⟩
theorem pV_p (j off : Nat) (k : Nat → Nat → Prop) : pV (.pointer (some ⟨j, off, none⟩)) k = k j off := propext ⟨fun ⟨c, d, h, hk⟩ => by cases h; exact hk, fun h => ⟨j, off, rfl, h⟩⟩
theorem pV_to (j : Nat) (k : Nat → Nat → Prop) : pV (ptrTo j) k = k j 0 := pV_p j 0 k
theorem oC_c (cells : List Value) (t : TypeId) (k : List Value → TypeId → Prop) (alt : Prop) : oC (cellsOb cells t) k alt = k cells t := by
  apply propext
  constructor
  · rintro (⟨c, d, h, hk⟩ | ⟨h, _⟩)
    · cases h; exact hk
    · cases h
  · intro h; exact .inl ⟨cells, t, rfl, h⟩
theorem gP_t (x : Prop) : gP True x = x := propext ⟨fun h => h.2, fun k => ⟨trivial, k⟩⟩
theorem gP_y {a x : Prop} (h : a) : gP a x = x := propext ⟨fun h => h.2, fun k => ⟨h, k⟩⟩
theorem vB_b' (b : Bool) (k : Bool → Prop) : vB (.bool b) k = k b := vB_b b k
theorem oV_s' {α : Type} (v : α) (k : α → Prop) : oV (some v) k = k v := oV_s v k
theorem bifP_t' (x y : Prop) : bifP true x y = x := bifP_t x y
theorem bifP_f' (x y : Prop) : bifP false x y = y := bifP_f x y
theorem pV_p' (j off : Nat) (k : Nat → Nat → Prop) : pV (.pointer (some ⟨j, off, none⟩)) k = k j off := pV_p j off k
theorem oC_c' (cells : List Value) (t : TypeId) (k : List Value → TypeId → Prop) (alt : Prop) : oC (cellsOb cells t) k alt = k cells t := oC_c cells t k alt
theorem same_tt : sameB true true = true := Eq.trans rfl rfl
theorem same_tf : sameB true false = false := Eq.trans rfl rfl
theorem same_ft : sameB false true = false := Eq.trans rfl rfl
theorem same_ff : sameB false false = true := Eq.trans rfl rfl
theorem same_t (b : Bool) : sameB b true = b := by cases b <;> rfl
theorem same_f (b : Bool) : sameB b false = !b := by cases b <;> rfl
theorem bifP_n (b : Bool) (x y : Prop) : bifP (!b) x y = bifP b y x := by cases b <;> simp [bifP]
def bsl (sz : Nat) (zero : Array Value) (ps : List (Nat × Value)) : Option (Array Value) := Instr.fill (fun j => some (j * sz, sz)) zero ps
theorem bsl0 (sz : Nat) (z : Array Value) : bsl sz z [] = some z := rfl
theorem bsl_cell {z : Array Value} {j : Nat} {v : Value} {l : List (Nat × Value)} (hv : cellV v = true) (hj : j < z.size) : bsl 1 z ((j, v) :: l) = bsl 1 (z.setIfInBounds j v) l := by
  unfold bsl
  simp only [Instr.fill, cells_one hv]
  simp
  intro h
  omega
theorem bsl1 {z v : Value} (h : cellV v = true) : bsl 1 #[z] [(0, v)] = some #[v] := by rw [bsl_cell h (by simp), bsl0]; rfl
theorem bsl2 {z z' v v' : Value} (h : cellV v = true) (h' : cellV v' = true) : bsl 1 #[z, z'] [(0, v), (1, v')] = some #[v, v'] := by rw [bsl_cell h (by simp), bsl_cell h' (by simp), bsl0]; rfl
theorem bsl3 {z z' z2 v v' v2 : Value} (h : cellV v = true) (h' : cellV v' = true) (h2 : cellV v2 = true) : bsl 1 #[z, z', z2] [(0, v), (1, v'), (2, v2)] = some #[v, v', v2] := by rw [bsl_cell h (by simp), bsl_cell h' (by simp), bsl_cell h2 (by simp), bsl0]; rfl
theorem bsl4 {z z' z2 z3 v v' v2 v3 : Value} (h : cellV v = true) (h' : cellV v' = true) (h2 : cellV v2 = true) (h3 : cellV v3 = true) : bsl 1 #[z, z', z2, z3] [(0, v), (1, v'), (2, v2), (3, v3)] = some #[v, v', v2, v3] := by rw [bsl_cell h (by simp), bsl_cell h' (by simp), bsl_cell h2 (by simp), bsl_cell h3 (by simp), bsl0]; rfl
section
variable (P : Program) (X : Caller) (Q : Out → Env → GH → Nat → Prop)
def sem : Pt → Prop
  | .C c ks e g lo => GC P X Q c ks e g lo
  | .O o ks e g lo => GO P X Q o ks e g lo
  | .R l k sp wr ks e g lo => GR P X Q l k sp wr ks e g lo
def farB (sp : List (Nat × (Nat × Nat))) (j : Nat) : Prop := ∀ x ∈ sp, j < x.2.1
/-- One operation on the heap that is walked. -/
def stepR (k : Pt → Prop) (dd : Option P3) (hop : Hop) (hide : List Nat) (l : List PI) (i : Nat) (sp : List (Nat × (Nat × Nat))) (wr : List Nat) (ks : List Fr) (e : Env) (g : GH) (lo : Nat) : Prop :=
  match hide with
  | [] => match hop with
    | .alloc t z => k (.R l (i + 1) ((i, (g.next, g.next + 1)) :: sp) wr ks (putE e dd (ptrTo g.next)) (g.push (cellsOb z t)) lo)
    | .box t x => k (.R l (i + 1) ((i, (g.next, g.next + 1)) :: sp) wr ks (putE e dd (ptrTo g.next)) (g.push (cellsOb (cellsOf (ev e x)) t)) lo)
    | .load n x => oV (loadF n (g.at g.next) (ev e x)) fun v => k (.R l (i + 1) ((i, (g.next, g.next)) :: sp) wr ks (putE e dd v) g lo)
    | .store n x y => pV (ev e x) fun j off => oC (g.get j) (fun cells t => gP ((cellsOf (ev e y)).length = n ∧ (cellsOf (ev e y)).all cellV = true ∧ off + (cellsOf (ev e y)).length ≤ cells.length ∧ j < g.next)
        (k (.R l (i + 1) ((i, (g.next, g.next)) :: sp) (i :: wr) ks (putE e dd undef) (g.set j (cellsOb (splice off cells (cellsOf (ev e y))) t)) (min lo j)))) (GR P X Q (⟨none, dd, none, some (.store n x y), []⟩ :: l) i sp wr ks e g lo)
    | .bslice t sz len zero parts => oV (bsl sz zero (evParts e parts)) fun cs => k (.R l (i + 1) ((i, (g.next, g.next + 1)) :: sp) wr ks (putE e dd (.slice (some ⟨g.next, 0, none⟩) len len)) (g.push (cellsOb cs.toList t)) lo)
    | p => GR P X Q (⟨none, dd, none, some p, []⟩ :: l) i sp wr ks e g lo
  | h :: hs => match hop with
    | .load n x => pV (ev e x) fun j off => oV (loadF n (g.at g.next) (.pointer (some ⟨j, off, none⟩))) fun v => gP (farB sp j ∧ anyIn wr (h :: hs) = false) (k (.R l (i + 1) ((i, (g.next, g.next)) :: sp) wr ks (putE e dd v) g lo))
    | .alloc t z => gP (anyIn wr (h :: hs) = false) (k (.R l (i + 1) ((i, (g.next, g.next + 1)) :: sp) wr ks (putE e dd (ptrTo g.next)) (g.push (cellsOb z t)) lo))
    | p => GR P X Q (⟨none, dd, none, some p, h :: hs⟩ :: l) i sp wr ks e g lo
def run : Nat → Pt → Prop
  | 0, _ => False
  | n + 1, s => match s with
    | .C c ks e g lo => match c with
      | .skip => run n (.O .normal ks e g lo)
      | .reg l => run n (.R l 0 [] [] ks e g lo)
      | .seq a b => run n (.C a (.seq b :: ks) e g lo)
      | .cond c a b => vB (ev e c) fun t => bifP t (run n (.C a ks e g lo)) (run n (.C b ks e g lo))
      | .block id b => run n (.C b (.blk id :: ks) e g lo)
      | .loop b => GC P X Q (.loop b) ks e g lo
      | .exit id => run n (.O (.exit id) ks e g lo)
      | .ret => Q .ret e g lo
    | .O o ks e g lo => match ks with
      | [] => Q o e g lo
      | f :: ks => match f with
        | .again b => GO P X Q o (.again b :: ks) e g lo
        | .seq b => match o with
          | .normal => run n (.C b ks e g lo)
          | o => run n (.O o ks e g lo)
        | .blk id => match o with
          | .normal => run n (.O .normal ks e g lo)
          | .exit j => bifP (Nat.beq j id) (run n (.O .normal ks e g lo)) (run n (.O (.exit j) ks e g lo))
          | .ret => run n (.O .ret ks e g lo)
    | .R l k sp wr ks e g lo => match l with
      | [] => run n (.O .normal ks e g lo)
      | ⟨gd, dd, pop, hop, hide⟩ :: l => match gd with
        | some (p, w) => vG (ev e (.s p)) w (run n (.R (⟨none, dd, pop, hop, hide⟩ :: l) k sp wr ks e g lo)) (run n (.R l (k + 1) sp wr ks (putE e dd undef) g lo))
        | none => match pop with
          | some p => oV (runP e p) fun v => run n (.R l (k + 1) sp wr ks (putE e dd v) g lo)
          | none => match hop with
            | some p => stepR P X Q (run n) dd p hide l k sp wr ks e g lo
            | none => False
def Wk (s : Pt) : Prop := ∃ n, run P X Q n s
end

section
variable {P : Program} {X : Caller} {Q : Out → Env → GH → Nat → Prop}
theorem GO.past {o : Out} {b : PC} {ks : List Fr} {e : Env} {g : GH} {lo : Nat} (ho : o ≠ .normal) (h : GO P X Q o ks e g lo) : GO P X Q o (.seq b :: ks) e g lo := by
  cases o with
  | normal => exact absurd rfl ho
  | exit j => exact GO.exit_seq h
  | ret => unfold GO at *; exact h
theorem stepR_sound {n : Nat} (ih : ∀ s, run P X Q n s → sem P X Q s) {dd : Option P3} {p : Hop} {hide : List Nat} {l : List PI} {i : Nat} {sp : List (Nat × (Nat × Nat))} {wr : List Nat} {ks : List Fr} {e : Env} {g : GH} {lo : Nat}
    (h : stepR P X Q (run P X Q n) dd p hide l i sp wr ks e g lo) : GR P X Q (⟨none, dd, none, some p, hide⟩ :: l) i sp wr ks e g lo := by
  unfold stepR at h
  split at h
  · split at h
    · exact GR.alloc rfl (ih _ h)
    · exact GR.box rfl rfl (ih _ h)
    · obtain ⟨v, hv, h⟩ := h
      exact GR.load rfl rfl hv (ih _ h)
    · obtain ⟨j, off, hx, ⟨cells, t, hj, ⟨h1, h2, h3, h4⟩, h⟩ | ⟨_, h⟩⟩ := h
      · exact GR.store rfl hx rfl rfl h1 h2 hj h3 h4 (ih _ h)
      · exact h
    · obtain ⟨cs, hc, h⟩ := h
      exact GR.bslice rfl rfl hc (ih _ h)
    · exact h
  · split at h
    · obtain ⟨j, off, hx, v, hv, ⟨h1, h2⟩, h⟩ := h
      exact GR.loadG rfl hx hv h1 h2 (ih _ h)
    · obtain ⟨h1, h⟩ := h
      exact GR.allocH rfl h1 (ih _ h)
    · exact h
theorem run_sound : ∀ (n : Nat) (s : Pt), run P X Q n s → sem P X Q s
  | 0, _, h => h.elim
  | n + 1, .C c ks e g lo, h => by
    have ih := run_sound n
    cases c with
    | skip => exact GC.skip (ih _ h)
    | reg l => exact GC.reg (ih _ h)
    | seq a b => exact GC.seq (ih _ h)
    | cond c a b => obtain ⟨t, ht, h1, h2⟩ := h; exact GC.cond ht (fun q => ih _ (h1 q)) (fun q => ih _ (h2 q))
    | block id b => exact GC.block (ih _ h)
    | loop b => exact h
    | exit id => exact GC.exit (ih _ h)
    | ret => exact GC.ret h
  | n + 1, .O o ks e g lo, h => by
    have ih := run_sound n
    cases ks with
    | nil => exact GO.nil h
    | cons f ks => cases f with
      | again b => exact h
      | seq b => cases o with
        | normal => exact GO.seq (ih _ h)
        | exit j => exact GO.past (by simp) (ih _ h)
        | ret => exact GO.past (by simp) (ih _ h)
      | blk id => cases o with
        | normal => exact GO.blk (ih _ h)
        | exit j =>
          obtain ⟨h1, h2⟩ := h
          cases hb : Nat.beq j id with
          | true =>
            obtain rfl := Nat.eq_of_beq_eq_true hb
            exact GO.exit_here (ih _ (h1 hb))
          | false => exact GO.exit_past hb (ih _ (h2 hb))
        | ret =>
          have h' := ih _ h
          unfold sem at *
          unfold GO at *
          exact h'
  | n + 1, .R l k sp wr ks e g lo, h => by
    have ih := run_sound n
    cases l with
    | nil => exact GR.nil (ih _ h)
    | cons x l =>
      obtain ⟨gd, dd, pop, hop, hide⟩ := x
      cases gd with
      | some pw =>
        obtain ⟨p, w⟩ := pw
        rcases h with ⟨b, hb, h1, h2⟩ | ⟨hb, h⟩
        · refine GR.guard hb (fun q => ?_) (fun q => ?_)
          · exact ih _ (h1 (by rw [q]; simp [sameB]))
          · exact ih _ (h2 (by rw [q]; cases w <;> rfl))
        · exact GR.not (want_undef hb) (ih _ h)
      | none => cases pop with
        | some p =>
          obtain ⟨v, hv, h⟩ := h
          exact GR.pop rfl hv (ih _ h)
        | none => cases hop with
          | some p => exact stepR_sound ih h
          | none => exact h.elim
theorem Wk.C {c : PC} {ks : List Fr} {e : Env} {g : GH} {lo : Nat} (h : Wk P X Q (.C c ks e g lo)) : GC P X Q c ks e g lo := let ⟨n, h⟩ := h; run_sound n _ h
theorem Wk.O {o : Out} {ks : List Fr} {e : Env} {g : GH} {lo : Nat} (h : Wk P X Q (.O o ks e g lo)) : GO P X Q o ks e g lo := let ⟨n, h⟩ := h; run_sound n _ h
theorem Wk.R {l : List PI} {k : Nat} {sp : List (Nat × (Nat × Nat))} {wr : List Nat} {ks : List Fr} {e : Env} {g : GH} {lo : Nat} (h : Wk P X Q (.R l k sp wr ks e g lo)) : GR P X Q l k sp wr ks e g lo := let ⟨n, h⟩ := h; run_sound n _ h

/-! ### The equations -/
theorem D_cg {s : Pt} {x0 : Prop} (_ : Tick = x0) : Wk P X Q s = Wk P X Q s := rfl
theorem D_of {s s' : Pt} (h : ∀ n, run P X Q (n + 1) s = run P X Q n s') : Wk P X Q s = Wk P X Q s' :=
  propext ⟨fun ⟨n, hn⟩ => by
    cases n with
    | zero => exact hn.elim
    | succ n => exact ⟨n, h n ▸ hn⟩, fun ⟨n, hn⟩ => ⟨n + 1, (h n).symm ▸ hn⟩⟩
theorem D_is {s : Pt} {p : Prop} (h : ∀ n, run P X Q (n + 1) s = p) : Wk P X Q s = p :=
  propext ⟨fun ⟨n, hn⟩ => by
    cases n with
    | zero => exact hn.elim
    | succ n => exact h n ▸ hn, fun hp => ⟨1, (h 0).symm ▸ hp⟩⟩
theorem D_oV {α : Type} {s : Pt} {o : Option α} {k : α → Pt} (h : ∀ n, run P X Q (n + 1) s = oV o fun v => run P X Q n (k v)) : Wk P X Q s = oV o fun v => Wk P X Q (k v) :=
  propext ⟨fun ⟨n, hn⟩ => by
    cases n with
    | zero => exact hn.elim
    | succ n => rw [h n] at hn; obtain ⟨v, hv, hn⟩ := hn; exact ⟨v, hv, n, hn⟩, fun ⟨v, hv, n, hn⟩ => ⟨n + 1, (h n).symm ▸ ⟨v, hv, hn⟩⟩⟩
theorem D_bif {s : Pt} {v : Value} {w : Bool → Bool} {a b : Pt} (h : ∀ n, run P X Q (n + 1) s = vB v fun t => bifP (w t) (run P X Q n a) (run P X Q n b)) : Wk P X Q s = vB v fun t => bifP (w t) (Wk P X Q a) (Wk P X Q b) :=
  propext ⟨fun ⟨n, hn⟩ => by
    cases n with
    | zero => exact hn.elim
    | succ n => rw [h n] at hn; obtain ⟨t, ht, h1, h2⟩ := hn; exact ⟨t, ht, fun q => ⟨n, h1 q⟩, fun q => ⟨n, h2 q⟩⟩, fun ⟨t, ht, h1, h2⟩ => by
    cases hw : w t with
    | true =>
      obtain ⟨n, hn⟩ := h1 hw
      have k : bifP (w t) (run P X Q n a) (run P X Q n b) := by rw [hw, bifP_t]; exact hn
      exact ⟨n + 1, (h n).symm ▸ ⟨t, ht, k⟩⟩
    | false =>
      obtain ⟨n, hn⟩ := h2 hw
      have k : bifP (w t) (run P X Q n a) (run P X Q n b) := by rw [hw, bifP_f]; exact hn
      exact ⟨n + 1, (h n).symm ▸ ⟨t, ht, k⟩⟩⟩
theorem D_vG {s : Pt} {v : Value} {w : Bool} {a b : Pt} (h : ∀ n, run P X Q (n + 1) s = vG v w (run P X Q n a) (run P X Q n b)) : Wk P X Q s = vG v w (Wk P X Q a) (Wk P X Q b) :=
  propext ⟨fun ⟨n, hn⟩ => by
    cases n with
    | zero => exact hn.elim
    | succ n =>
      rw [h n] at hn
      rcases hn with ⟨t, ht, h1, h2⟩ | ⟨ht, hn⟩
      · exact .inl ⟨t, ht, fun q => ⟨n, h1 q⟩, fun q => ⟨n, h2 q⟩⟩
      · exact .inr ⟨ht, n, hn⟩, fun hk => by
    rcases hk with ⟨t, ht, h1, h2⟩ | ⟨ht, n, hn⟩
    · cases hw : sameB t w with
      | true =>
        obtain ⟨n, hn⟩ := h1 hw
        have k : bifP (sameB t w) (run P X Q n a) (run P X Q n b) := by rw [hw, bifP_t]; exact hn
        exact ⟨n + 1, (h n).symm ▸ .inl ⟨t, ht, k⟩⟩
      | false =>
        obtain ⟨n, hn⟩ := h2 hw
        have k : bifP (sameB t w) (run P X Q n a) (run P X Q n b) := by rw [hw, bifP_f]; exact hn
        exact ⟨n + 1, (h n).symm ▸ .inl ⟨t, ht, k⟩⟩
    · exact ⟨n + 1, (h n).symm ▸ .inr ⟨ht, hn⟩⟩⟩
variable {ks : List Fr} {e : Env} {g : GH} {lo : Nat}
theorem dskip : Wk P X Q (.C .skip ks e g lo) = Wk P X Q (.O .normal ks e g lo) := D_of fun _ => rfl
theorem dreg {l : List PI} : Wk P X Q (.C (.reg l) ks e g lo) = Wk P X Q (.R l 0 [] [] ks e g lo) := D_of fun _ => rfl
theorem dseq {a b : PC} : Wk P X Q (.C (.seq a b) ks e g lo) = Wk P X Q (.C a (.seq b :: ks) e g lo) := D_of fun _ => rfl
theorem dcond {c : PO} {a b : PC} : Wk P X Q (.C (.cond c a b) ks e g lo) = vB (ev e c) fun t => bifP t (Wk P X Q (.C a ks e g lo)) (Wk P X Q (.C b ks e g lo)) := D_bif (w := id) fun _ => rfl
theorem dblock {id : Nat} {b : PC} : Wk P X Q (.C (.block id b) ks e g lo) = Wk P X Q (.C b (.blk id :: ks) e g lo) := D_of fun _ => rfl
theorem dexit {id : Nat} : Wk P X Q (.C (.exit id) ks e g lo) = Wk P X Q (.O (.exit id) ks e g lo) := D_of fun _ => rfl
theorem dret : Wk P X Q (.C .ret ks e g lo) = Q .ret e g lo := D_is fun _ => rfl
theorem dloop {b : PC} : Wk P X Q (.C (.loop b) ks e g lo) = GC P X Q (.loop b) ks e g lo := D_is fun _ => rfl
theorem dOnil {o : Out} : Wk P X Q (.O o [] e g lo) = Q o e g lo := D_is fun _ => rfl
theorem dOagain {o : Out} {b : PC} : Wk P X Q (.O o (.again b :: ks) e g lo) = GO P X Q o (.again b :: ks) e g lo := D_is fun _ => rfl
theorem dOseq {b : PC} : Wk P X Q (.O .normal (.seq b :: ks) e g lo) = Wk P X Q (.C b ks e g lo) := D_of fun _ => rfl
theorem dOblk {id : Nat} : Wk P X Q (.O .normal (.blk id :: ks) e g lo) = Wk P X Q (.O .normal ks e g lo) := D_of fun _ => rfl
theorem dXseq {j : Nat} {b : PC} : Wk P X Q (.O (.exit j) (.seq b :: ks) e g lo) = Wk P X Q (.O (.exit j) ks e g lo) := D_of fun _ => rfl
theorem dXblk {j id : Nat} : Wk P X Q (.O (.exit j) (.blk id :: ks) e g lo) = bifP (Nat.beq j id) (Wk P X Q (.O .normal ks e g lo)) (Wk P X Q (.O (.exit j) ks e g lo)) := by
  cases hb : Nat.beq j id with
  | true => rw [bifP_t]; refine D_of fun n => ?_; simp only [run, hb, bifP_t]
  | false => rw [bifP_f]; refine D_of fun n => ?_; simp only [run, hb, bifP_f]
variable {dd : Option P3} {l : List PI} {k : Nat} {sp : List (Nat × (Nat × Nat))} {wr : List Nat}
theorem dnil : Wk P X Q (.R [] k sp wr ks e g lo) = Wk P X Q (.O .normal ks e g lo) := D_of fun _ => rfl
theorem dguard {p : P3} {w : Bool} {pop : Option Pop} {hop : Option Hop} {hide : List Nat} : Wk P X Q (.R (⟨some (p, w), dd, pop, hop, hide⟩ :: l) k sp wr ks e g lo) = vG (ev e (.s p)) w (Wk P X Q (.R (⟨none, dd, pop, hop, hide⟩ :: l) k sp wr ks e g lo)) (Wk P X Q (.R l (k + 1) sp wr ks (putE e dd undef) g lo)) := D_vG fun _ => rfl
theorem dpop {p : Pop} {hop : Option Hop} {hide : List Nat} : Wk P X Q (.R (⟨none, dd, some p, hop, hide⟩ :: l) k sp wr ks e g lo) = oV (runP e p) fun v => Wk P X Q (.R l (k + 1) sp wr ks (putE e dd v) g lo) := D_oV fun _ => rfl
theorem dalloc {t : TypeId} {z : List Value} : Wk P X Q (.R (⟨none, dd, none, some (.alloc t z), []⟩ :: l) k sp wr ks e g lo) = Wk P X Q (.R l (k + 1) ((k, (g.next, g.next + 1)) :: sp) wr ks (putE e dd (ptrTo g.next)) (g.push (cellsOb z t)) lo) := D_of fun _ => rfl
theorem dbox {t : TypeId} {x : PO} : Wk P X Q (.R (⟨none, dd, none, some (.box t x), []⟩ :: l) k sp wr ks e g lo) = nV (cellsOf (ev e x)) fun cs => Wk P X Q (.R l (k + 1) ((k, (g.next, g.next + 1)) :: sp) wr ks (putE e dd (ptrTo g.next)) (g.push (cellsOb cs t)) lo) := by
  exact D_of fun _ => rfl
theorem dload {n : Option Nat} {x : PO} : Wk P X Q (.R (⟨none, dd, none, some (.load n x), []⟩ :: l) k sp wr ks e g lo) = oV (loadF n (g.at g.next) (ev e x)) fun v => Wk P X Q (.R l (k + 1) ((k, (g.next, g.next)) :: sp) wr ks (putE e dd v) g lo) := D_oV fun _ => rfl
theorem dbslice {t : TypeId} {sz len : Nat} {zero : Array Value} {parts : List (Nat × PO)} : Wk P X Q (.R (⟨none, dd, none, some (.bslice t sz len zero parts), []⟩ :: l) k sp wr ks e g lo) = oV (bsl sz zero (evParts e parts)) fun cs => Wk P X Q (.R l (k + 1) ((k, (g.next, g.next + 1)) :: sp) wr ks (putE e dd (.slice (some ⟨g.next, 0, none⟩) len len)) (g.push (cellsOb cs.toList t)) lo) := D_oV fun _ => rfl
theorem dstore {n : Nat} {x y : PO} : Wk P X Q (.R (⟨none, dd, none, some (.store n x y), []⟩ :: l) k sp wr ks e g lo) = pV (ev e x) fun j off => nV (cellsOf (ev e y)) fun vs => oC (g.get j) (fun cells t => gP (vs.length = n ∧ vs.all cellV = true ∧ off + vs.length ≤ cells.length ∧ j < g.next)
    (Wk P X Q (.R l (k + 1) ((k, (g.next, g.next)) :: sp) (k :: wr) ks (putE e dd undef) (g.set j (cellsOb (splice off cells vs) t)) (min lo j)))) (GR P X Q (⟨none, dd, none, some (.store n x y), []⟩ :: l) k sp wr ks e g lo) := by
  apply propext
  constructor
  · rintro ⟨m, hn⟩
    cases m with
    | zero => exact hn.elim
    | succ m =>
      obtain ⟨j, off, h1, ⟨c, t, h2, h3, h4⟩ | ⟨h2, h3⟩⟩ := hn
      · exact ⟨j, off, h1, .inl ⟨c, t, h2, h3, m, h4⟩⟩
      · exact ⟨j, off, h1, .inr ⟨h2, h3⟩⟩
  · rintro ⟨j, off, h1, ⟨c, t, h2, h3, m, h4⟩ | ⟨h2, h3⟩⟩
    · exact ⟨m + 1, j, off, h1, .inl ⟨c, t, h2, h3, h4⟩⟩
    · exact ⟨1, j, off, h1, .inr ⟨h2, h3⟩⟩
theorem dloadH {n : Option Nat} {x : PO} {h : Nat} {hs : List Nat} : Wk P X Q (.R (⟨none, dd, none, some (.load n x), h :: hs⟩ :: l) k sp wr ks e g lo) = pV (ev e x) fun j off => oV (loadF n (g.at g.next) (.pointer (some ⟨j, off, none⟩))) fun v => gP (farB sp j ∧ anyIn wr (h :: hs) = false) (Wk P X Q (.R l (k + 1) ((k, (g.next, g.next)) :: sp) wr ks (putE e dd v) g lo)) :=
  propext ⟨fun ⟨m, hn⟩ => by
    cases m with
    | zero => exact hn.elim
    | succ m => obtain ⟨j, off, h1, v, h2, h3, h4⟩ := hn; exact ⟨j, off, h1, v, h2, h3, m, h4⟩, fun ⟨j, off, h1, v, h2, h3, m, h4⟩ => ⟨m + 1, j, off, h1, v, h2, h3, h4⟩⟩
theorem dallocH {t : TypeId} {z : List Value} {h : Nat} {hs : List Nat} : Wk P X Q (.R (⟨none, dd, none, some (.alloc t z), h :: hs⟩ :: l) k sp wr ks e g lo) = gP (anyIn wr (h :: hs) = false) (Wk P X Q (.R l (k + 1) ((k, (g.next, g.next + 1)) :: sp) wr ks (putE e dd (ptrTo g.next)) (g.push (cellsOb z t)) lo)) :=
  propext ⟨fun ⟨m, hn⟩ => by
    cases m with
    | zero => exact hn.elim
    | succ m => obtain ⟨h1, h2⟩ := hn; exact ⟨h1, m, h2⟩, fun ⟨h1, m, h2⟩ => ⟨m + 1, h1, h2⟩⟩
theorem far_nil (j : Nat) : farB [] j = True := eq_true fun x hx => by cases hx
theorem far_cons {j i a b : Nat} {sp : List (Nat × (Nat × Nat))} (h : j < a) : farB ((i, (a, b)) :: sp) j = farB sp j :=
  propext ⟨fun k x hx => k x (List.mem_cons_of_mem _ hx), fun k x hx => by
    rcases List.mem_cons.1 hx with rfl | hx
    · exact h
    · exact k x hx⟩
end
end Go.Ds
