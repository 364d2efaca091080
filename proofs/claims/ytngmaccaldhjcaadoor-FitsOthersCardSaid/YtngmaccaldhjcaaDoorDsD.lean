import Derived.Test.YtngmaccaldhjcaaDoorDsC
set_option linter.all false
set_option linter.unusedSimpArgs false
set_option linter.unnecessarySimpa false
set_option linter.unusedVariables false
set_option linter.unusedSectionVars false
set_option linter.unusedSectionVars false
set_option linter.unusedVariables false
namespace Go.Ds
variable [Inhabited Bound]

/-! ## The same, as closures made once: what the kernel runs -/
section
variable {R : Type}
abbrev FP := Env → Option Value
abbrev FH := Caller → Env → AH → Option (Value × AH)
abbrev Sp := List (Nat × (Nat × Nat))
abbrev FR := Caller → Env → AH → Sp → List Nat → Option (Env × AH)
abbrev FD := Env → Value → (Env → Option (Env × AH)) → Option (Env × AH)
abbrev FC := Caller → Nat → Env → AH → Option (Out × Env × AH)

def getK {α : Type} (i : I8) (k : (E8 α → α) → R) : R :=
  match i with
  | .i0 => k E8.a0
  | .i1 => k E8.a1
  | .i2 => k E8.a2
  | .i3 => k E8.a3
  | .i4 => k E8.a4
  | .i5 => k E8.a5
  | .i6 => k E8.a6
  | .i7 => k E8.a7
theorem getK_eq {α : Type} (i : I8) (k : (E8 α → α) → R) : getK i k = k (fun e => E8.get e i) := by cases i <;> rfl

section
variable {α S : Type}
noncomputable def s0 (e : E8 α) (x : α) (k : E8 α → S) : S := E8.rec (motive := fun _ => S) (fun _ b c d f g h j => k ⟨x, b, c, d, f, g, h, j⟩) e
noncomputable def s1 (e : E8 α) (x : α) (k : E8 α → S) : S := E8.rec (motive := fun _ => S) (fun a _ c d f g h j => k ⟨a, x, c, d, f, g, h, j⟩) e
noncomputable def s2 (e : E8 α) (x : α) (k : E8 α → S) : S := E8.rec (motive := fun _ => S) (fun a b _ d f g h j => k ⟨a, b, x, d, f, g, h, j⟩) e
noncomputable def s3 (e : E8 α) (x : α) (k : E8 α → S) : S := E8.rec (motive := fun _ => S) (fun a b c _ f g h j => k ⟨a, b, c, x, f, g, h, j⟩) e
noncomputable def s4 (e : E8 α) (x : α) (k : E8 α → S) : S := E8.rec (motive := fun _ => S) (fun a b c d _ g h j => k ⟨a, b, c, d, x, g, h, j⟩) e
noncomputable def s5 (e : E8 α) (x : α) (k : E8 α → S) : S := E8.rec (motive := fun _ => S) (fun a b c d f _ h j => k ⟨a, b, c, d, f, x, h, j⟩) e
noncomputable def s6 (e : E8 α) (x : α) (k : E8 α → S) : S := E8.rec (motive := fun _ => S) (fun a b c d f g _ j => k ⟨a, b, c, d, f, g, x, j⟩) e
noncomputable def s7 (e : E8 α) (x : α) (k : E8 α → S) : S := E8.rec (motive := fun _ => S) (fun a b c d f g h _ => k ⟨a, b, c, d, f, g, h, x⟩) e
end
noncomputable def setK {α S : Type} (i : I8) (k : (E8 α → α → (E8 α → S) → S) → R) : R :=
  match i with
  | .i0 => k s0
  | .i1 => k s1
  | .i2 => k s2
  | .i3 => k s3
  | .i4 => k s4
  | .i5 => k s5
  | .i6 => k s6
  | .i7 => k s7
theorem setK_eq {α S : Type} (i : I8) (k : (E8 α → α → (E8 α → S) → S) → R) : setK i k = k (fun e x K => K (E8.set e i x)) := by
  cases i <;> (unfold setK; apply congrArg k; funext e x K; cases e; rfl)

/-- A value with its head written out. -/
noncomputable def vK {S : Type} (v : Value) (k : Value → S) : S := Value.rec (motive_1 := fun _ => S) (motive_2 := fun _ => Unit) (motive_3 := fun _ => Unit)
  (fun b => k (.bool b)) (fun kd n => k (.int kd n)) (fun a b => k (.float a b)) (fun a b c => k (.complex a b c)) (fun s => k (.string s)) (fun a => k (.pointer a))
  (fun a l c => k (.slice a l c)) (fun r => k (.map r)) (fun r => k (.chan r)) (fun f a b _ _ => k (.func f a b)) (k .nilFunc) (fun t v _ => k (.iface t v)) (k .nilIface)
  (fun a _ => k (.agg a)) (fun a _ => k (.tuple a)) (fun _ _ => ()) () (fun _ _ _ _ => ()) v
theorem vK_eq {S : Type} (v : Value) (k : Value → S) : vK v k = k v := by cases v <;> rfl
end

/-! ### Operands -/
section
variable {R : Type}
def slotK (p : P3) (k : (Env → Value) → R) : R :=
  bif Nat.blt p 512 then getK (digit (Nat.mod (Nat.div p 64) 8)) fun ga => getK (digit (Nat.mod (Nat.div p 8) 8)) fun gb => getK (digit (Nat.mod p 8)) fun gc => k (fun e => gc (gb (ga e.lo))) else k (fun e => e.hi p)
theorem slotK_eq (p : P3) (k : (Env → Value) → R) : slotK p k = k (fun e => Env.at e p) := by
  simp only [slotK, getK_eq, Env.at, Env3.get]
  cases Nat.blt p 512 <;> rfl
noncomputable def closeO (o : PO) (k : (Env → Value) → R) : R :=
  match o with
  | .s p => slotK p k
  | .c v => vK v fun v => k (fun _ => v)
theorem closeO_eq (o : PO) (k : (Env → Value) → R) : closeO o k = k (fun e => ev e o) := by
  cases o with
  | s p => simp only [closeO, slotK_eq]; rfl
  | c v => simp only [closeO, vK_eq]; rfl
noncomputable def closeOs (l : List PO) (k : (Env → List Value) → R) : R :=
  match l with
  | [] => k (fun _ => [])
  | o :: l => closeO o fun f => closeOs l fun g => k (fun e => f e :: g e)
theorem closeOs_eq (l : List PO) : ∀ k : (Env → List Value) → R, closeOs l k = k (fun e => evs e l) := by
  induction l with
  | nil => intro k; rfl
  | cons o l ih => intro k; simp only [closeOs, closeO_eq, ih]; rfl
noncomputable def closeParts (l : List (Nat × PO)) (k : (Env → List (Nat × Value)) → R) : R :=
  match l with
  | [] => k (fun _ => [])
  | (i, o) :: l => closeO o fun f => closeParts l fun g => k (fun e => (i, f e) :: g e)
theorem closeParts_eq (l : List (Nat × PO)) : ∀ k : (Env → List (Nat × Value)) → R, closeParts l k = k (fun e => evParts e l) := by
  induction l with
  | nil => intro k; rfl
  | cons x l ih => intro k; obtain ⟨i, o⟩ := x; simp only [closeParts, closeO_eq, ih]; rfl
noncomputable def closeOpt (o : Option PO) (k : (Env → Option Value) → R) : R :=
  match o with
  | none => k (fun _ => none)
  | some o => closeO o fun f => k (fun e => some (f e))
theorem closeOpt_eq (o : Option PO) (k : (Env → Option Value) → R) : closeOpt o k = k (fun e => evOpt e o) := by
  cases o with
  | none => rfl
  | some o => simp only [closeOpt, closeO_eq]; rfl

/-! ### Operations -/
noncomputable def closeP (p : Pop) (k : FP → R) : R :=
  match p with
  | .move x => closeO x fun x => k (fun e => some (x e))
  | .pick c a b => closeO c fun c => closeO a fun a => closeO b fun b => k (fun e => pickF (c e) (a e) (b e))
  | .bin op x y => closeO x fun x => closeO y fun y => k (fun e => binF op (x e) (y e))
  | .eqB g x y => closeO x fun x => closeO y fun y => k (fun e => eqBF g (x e) (y e))
  | .eqA g n x y => closeO x fun x => closeO y fun y => k (fun e => eqAF g n (x e) (y e))
  | .eqS g x => closeO x fun x => k (fun e => eqSF g (x e))
  | .un op x => closeO x fun x => k (fun e => unF op (x e))
  | .conv kd x => closeO x fun x => k (fun e => convF kd (x e))
  | .sconv x => closeO x fun x => k (fun e => sconvF (x e))
  | .build p s z l => closeParts l fun l => k (fun e => buildF p s z (l e))
  | .nilc x => closeO x fun x => k (fun e => nilcF (x e))
  | .mkf f a b => closeOs a fun a => closeOs b fun b => k (fun e => some (.func (.func f) (a e).toArray (b e).toArray))
  | .slcS x lo hi => closeO x fun x => closeOpt lo fun lo => closeOpt hi fun hi => k (fun e => slcSF (x e) (lo e) (hi e))
  | .slcL sz x lo hi => closeO x fun x => closeOpt lo fun lo => closeOpt hi fun hi => k (fun e => slcLF sz (x e) (lo e) (hi e))
  | .slcA n sz x lo hi => closeO x fun x => closeOpt lo fun lo => closeOpt hi fun hi => k (fun e => slcAF n sz (x e) (lo e) (hi e))
  | .slcM sz x lo hi top => closeO x fun x => closeOpt lo fun lo => closeO hi fun hi => closeO top fun top => k (fun e => slcMF sz (x e) (lo e) (hi e) (top e))
  | .faddr off x => closeO x fun x => k (fun e => faddrF off (x e))
  | .fld n off x => closeO x fun x => k (fun e => fldF n off (x e))
  | .iaddrA n sz x i => closeO x fun x => closeO i fun i => k (fun e => iaddrAF n sz (x e) (i e))
  | .iaddrS sz x i => closeO x fun x => closeO i fun i => k (fun e => iaddrSF sz (x e) (i e))
  | .idxA n sz g x i => closeO x fun x => closeO i fun i => k (fun e => idxAF n sz g (x e) (i e))
  | .idxS x i => closeO x fun x => closeO i fun i => k (fun e => idxSF (x e) (i e))
  | .ext x i => closeO x fun x => k (fun e => extF (x e) i)
  | .lenS x => closeO x fun x => k (fun e => lenSF (x e))
  | .lenL x => closeO x fun x => k (fun e => lenLF (x e))
  | .lenC n => k (fun _ => some (.int .i64 (.ofNat n)))
  | .mx x y => closeO x fun x => closeO y fun y => k (fun e => mxF (x e) (y e))
  | .mn x y => closeO x fun x => closeO y fun y => k (fun e => mnF (x e) (y e))
  | .mx3 x y z => closeO x fun x => closeO y fun y => closeO z fun z => k (fun e => mx3F (x e) (y e) (z e))
  | .mn3 x y z => closeO x fun x => closeO y fun y => closeO z fun z => k (fun e => mn3F (x e) (y e) (z e))
theorem closeP_eq (p : Pop) (k : FP → R) : closeP p k = k (fun e => runP e p) := by
  cases p <;> (simp only [closeP, closeO_eq, closeOs_eq, closeParts_eq, closeOpt_eq]; rfl)

noncomputable def closeH (p : Hop) (k : FH → R) : R :=
  match p with
  | .alloc t z => k (fun _ _ h => pushF h (cellsOb z t) ptrTo)
  | .box t x => closeO x fun x => k (fun _ e h => pushF h (cellsOb (cellsOf (x e)) t) ptrTo)
  | .load n x => closeO x fun x => k (fun _ e h => asSome h (loadF n h (x e)))
  | .store n x v => closeO x fun x => closeO v fun v => k (fun _ e h => asUnit (storeF n h (x e) (v e)))
  | .storeB n x v os => closeO x fun x => closeO v fun v => closeOs os fun os => k (fun _ e h => bif besideF h (x e) (os e) then asUnit (storeF n h (x e) (v e)) else none)
  | .bslice t sz len z l => closeParts l fun l => k (fun _ e h => bsliceF t sz len z h (l e))
  | .mkslice t b z l c => closeO l fun l => closeO c fun c => k (fun _ e h => mksliceF t b z h (l e) (c e))
  | .mkmap => k (fun _ _ h => pushF h (mapOb [] 0) fun id => .map (some id))
  | .look key z m x ok => closeO m fun m => closeO x fun x => k (fun _ e h => asSome h (lookF key z h (m e) (x e) ok))
  | .upd key m x v => closeO m fun m => closeO x fun x => closeO v fun v => k (fun _ e h => asUnit (updF key h (m e) (x e) (v e)))
  | .app t sz b s x => closeO s fun s => closeO x fun x => k (fun _ e h => bif strOk sz (x e) then appF t sz b h (s e) (x e) else none)
  | .cpy sz d s => closeO d fun d => closeO s fun s => k (fun _ e h => bif strOk sz (s e) then cpyF sz h (d e) (s e) else none)
  | .clr z s => closeO s fun s => k (fun _ e h => asUnit (clrF z h (s e)))
  | .fail => k (fun _ _ _ => none)
  | .slcH sz x lo hi => closeO x fun x => closeOpt lo fun lo => closeOpt hi fun hi => k (fun _ e h => asSome h (slcHF sz h (x e) (lo e) (hi e)))
  | .lenM m => closeO m fun m => k (fun _ e h => asSome h (lenMF h (m e)))
  | .callF f as => closeOs as fun as => k (fun call e h => call f (as e) h)
  | .callV f as => closeO f fun f => closeOs as fun as => k (fun call e h => callVF call h (f e) (as e))
  | .bytesOf t x => closeO x fun x => k (fun _ e h => bytesF t h (x e))
  | .textOf x => closeO x fun x => k (fun _ e h => asSome h (textF h (x e)))
  | .rangeS x => closeO x fun x => k (fun _ e h => rangeSF h (x e))
  | .nextS x => closeO x fun x => k (fun _ e h => nextF h (x e))
theorem closeH_eq (p : Hop) (k : FH → R) : closeH p k = k (fun call e h => runH call e h p) := by
  cases p <;> (simp only [closeH, closeO_eq, closeOs_eq, closeParts_eq, closeOpt_eq]; rfl)

/-! ### Regions -/
noncomputable def closeD (d : Option P3) (k : FD → R) : R :=
  match d with
  | none => k (fun e _ K => K e)
  | some p => bif Nat.blt p 512 then
      getK (digit (Nat.mod (Nat.div p 64) 8)) fun ga => getK (digit (Nat.mod (Nat.div p 8) 8)) fun gb => setK (digit (Nat.mod (Nat.div p 64) 8)) fun sa => setK (digit (Nat.mod (Nat.div p 8) 8)) fun sb => setK (digit (Nat.mod p 8)) fun sc =>
      k (fun e v K => fV v fun v => Env3.rec (motive := fun _ => Option (Env × AH)) (fun lo hi => sc (gb (ga lo)) v fun u => sb (ga lo) u fun u => sa lo u fun u => K ⟨u, hi⟩) e)
    else k (fun e v K => fV v fun v => K ⟨e.lo, fun j => if p = j then v else e.hi j⟩)
theorem closeD_eq (d : Option P3) (k : FD → R) : closeD d k = k (fun e v K => putEK e d v K) := by
  cases d with
  | none => rfl
  | some p =>
    simp only [closeD, getK_eq, setK_eq, putEK, Env.putK, Env3.putK, set3, E8.setK_eq]
    cases Nat.blt p 512 <;> rfl

noncomputable def rP (d : FD) (p : FP) (r : FR) : FR := fun call e h sp wr =>
  Option.rec (motive := fun _ => Option (Env × AH)) none (fun v => d e v fun e => r call e h sp wr) (p e)
noncomputable def rG (g : Env → Value) (want : Bool) (d : FD) (r k : FR) : FR := fun call e h sp wr =>
  match g e with
  | .bool b => bif (b == want) then k call e h sp wr else d e undef fun e => r call e h sp wr
  | .tuple _ => d e undef fun e => r call e h sp wr
  | _ => none
def rH (i : Nat) (hide : List Nat) (b : Bool) (d : FD) (p : FH) (r : FR) : FR := fun call e h sp wr =>
  match p call e ⟨h.tr, h.next, h.next, spansOf sp hide ++ h.hid, h.fams⟩ with
  | none => none
  | some (v, h') => match h' with
    | ⟨tr, next, low, _, fams⟩ =>
      bif (Nat.blt low h.next && !hide.isEmpty && !b) || anyIn wr hide then none
      else d e v fun e => r call e ⟨tr, next, bif Nat.blt h.low low then h.low else low, h.hid, fams⟩ ((i, (h.next, next)) :: sp) (bif Nat.blt low h.next then i :: wr else wr)
noncomputable def closeG (g : Option (P3 × Bool)) (d : FD) (r k : FR) (K : FR → R) : R :=
  match g with
  | none => K k
  | some (p, want) => slotK p fun f => K (rG f want d r k)
noncomputable def closeReg (l : List PI) (i : Nat) (K : FR → R) : R :=
  match l with
  | [] => K (fun _ e h _ _ => some (e, h))
  | ⟨g, d, pop, hop, hide⟩ :: l => closeReg l (Nat.succ i) fun r => closeD d fun d => match pop with
    | some p => closeP p fun p => closeG g d r (rP d p r) K
    | none => match hop with
      | some p => closeH p fun q => closeG g d r (rH i hide p.isB d q r) K
      | none => closeG g d r (fun _ _ _ _ _ => none) K
theorem closeG_eq (g : Option (P3 × Bool)) (d : FD) (r k : FR) (K : FR → R) :
    closeG g d r k K = K (fun call e h sp wr => match wantF e g with
      | none => none
      | some false => d e undef fun e => r call e h sp wr
      | some true => k call e h sp wr) := by
  cases g with
  | none => rfl
  | some x =>
    obtain ⟨p, want⟩ := x
    simp only [closeG, slotK_eq]
    apply congrArg K
    funext call e h sp wr
    simp only [rG, wantF]
    cases e.at p <;> try rfl
    rename_i b
    dsimp only
    cases (b == want) <;> rfl
theorem closeReg_eq (l : List PI) : ∀ (i : Nat) (K : FR → R), closeReg l i K = K (fun call e h sp wr => regGo call l i e h sp wr) := by
  induction l with
  | nil => intro i K; rfl
  | cons x l ih =>
    intro i K
    obtain ⟨g, d, pop, hop, hide⟩ := x
    simp only [closeReg, ih, closeD_eq]
    cases pop with
    | some p =>
      simp only [closeP_eq, closeG_eq]
      apply congrArg K
      funext call e h sp wr
      simp only [regGo, rP]
      cases wantF e g with
      | none => rfl
      | some b =>
        cases b with
        | false => rfl
        | true => dsimp only; cases runP e p <;> rfl
    | none => cases hop with
      | none =>
        simp only [closeG_eq]
        apply congrArg K
        funext call e h sp wr
        simp only [regGo]
        cases wantF e g with
        | none => rfl
        | some b => cases b <;> rfl
      | some p =>
        simp only [closeH_eq, closeG_eq]
        apply congrArg K
        funext call e h sp wr
        simp only [regGo, rH, stepH]
        cases wantF e g with
        | none => rfl
        | some b =>
          cases b with
          | false => rfl
          | true =>
            dsimp only
            cases runH call e ⟨h.tr, h.next, h.next, spansOf sp hide ++ h.hid, h.fams⟩ p with
            | none => rfl
            | some r =>
              obtain ⟨v, tr, next, low, hid, fams⟩ := r
              dsimp only
              cases (Nat.blt low h.next && !hide.isEmpty && !p.isB || anyIn wr hide) <;> rfl

/-! ### Code -/
abbrev FO := Option (Out × Env × AH)
noncomputable def cReg (r : FR) : FC := fun call _ e h =>
  Option.rec (motive := fun _ => FO) none (fun x => Prod.rec (motive := fun _ => FO) (fun e h => some (.normal, e, h)) x) (r call e h [] [])
def cSeq (a b : FC) : FC := fun call fuel e h =>
  match a call fuel e h with
  | some (.normal, e, h) => b call fuel e h
  | r => r
def cCond (c : Env → Value) (a b : FC) : FC := fun call fuel e h =>
  match c e with
  | .bool t => bif t then a call fuel e h else b call fuel e h
  | _ => none
def cBlock (id : Nat) (b : FC) : FC := fun call fuel e h =>
  match b call fuel e h with
  | some (.exit j, e, h) => bif Nat.beq j id then some (.normal, e, h) else some (.exit j, e, h)
  | r => r
def cLoop (b : FC) : FC := fun call fuel e h => loopN (b call fuel) fuel e h
noncomputable def closeC (c : PC) (K : FC → R) : R :=
  match c with
  | .skip => K (fun _ _ e h => some (.normal, e, h))
  | .reg l => closeReg l 0 fun r => K (cReg r)
  | .seq a b => closeC a fun a => closeC b fun b => K (cSeq a b)
  | .cond c a b => closeO c fun c => closeC a fun a => closeC b fun b => K (cCond c a b)
  | .block id b => closeC b fun b => K (cBlock id b)
  | .loop b => closeC b fun b => K (cLoop b)
  | .exit id => K (fun _ _ e h => some (.exit id, e, h))
  | .ret => K (fun _ _ e h => some (.ret, e, h))
theorem closeC_eq (c : PC) : ∀ K : FC → R, closeC c K = K (fun call fuel e h => evC call fuel c e h) := by
  induction c with
  | skip => intro K; rfl
  | reg l =>
    intro K
    simp only [closeC, closeReg_eq]
    apply congrArg K
    funext call fuel e h
    simp only [cReg, evC]
    cases regGo call l 0 e h [] [] <;> rfl
  | seq a b iha ihb => intro K; simp only [closeC, iha, ihb]; rfl
  | cond c a b iha ihb => intro K; simp only [closeC, closeO_eq, iha, ihb]; rfl
  | block id b ih => intro K; simp only [closeC, ih]; rfl
  | loop b ih => intro K; simp only [closeC, ih]; rfl
  | exit id => intro K; rfl
  | ret => intro K; rfl
end

noncomputable def fastF (P : Program) (f : FuncId) : Option (FC × List PR) :=
  match prepF P f with
  | none => none
  | some ⟨c, rs⟩ => closeC c fun c => some (c, rs)
theorem fastF_eq (P : Program) (f : FuncId) : fastF P f = (prepF P f).map fun x => ((fun call fuel e h => evC call fuel x.code e h), x.res) := by
  unfold fastF
  cases prepF P f with
  | none => rfl
  | some x => obtain ⟨c, rs⟩ := x; simp only [closeC_eq]; rfl

def Env.fillK {R : Type} (e : Env) (i : Nat) (l : List Value) (k : Env → R) : R :=
  match l with
  | [] => k e
  | v :: l => fV v fun v => Env.putK e (slot i) v fun e => Env.fillK e (Nat.succ i) l k

noncomputable def evK (P : Program) (X : Caller) (fuel : Nat) (n : Nat) : Caller :=
  Nat.rec (motive := fun _ => Caller) (fun _ _ _ => none) (fun _ call f args h => match X f args h with
    | some r => some r
    | none => match fastF P f with
      | none => none
      | some (c, rs) => bif Nat.ble (lenN args) 512 then Env.fillK Env.none 0 args fun e => match c call fuel e h with
        | some (.exit _, _, _) => none
        | some (_, e, h) => match resF h e rs with
          | some l => some (oneOf l, h)
          | none => none
        | none => none
        else none) n
end Go.Ds
