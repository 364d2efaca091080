import Derived.Test.YtngmaccaldhjcaaDoorDsA
set_option linter.all false
set_option linter.unusedSimpArgs false
set_option linter.unnecessarySimpa false
set_option linter.unusedVariables false
set_option linter.unusedSectionVars false
set_option linter.unusedSectionVars false
set_option linter.unusedVariables false
namespace Go.Ds
variable [Inhabited Bound]

/-! ## Integers -/
def ile (a b : Int) : Bool :=
  match a, b with
  | .ofNat a, .ofNat b => Nat.ble a b
  | .ofNat _, .negSucc _ => false
  | .negSucc _, .ofNat _ => true
  | .negSucc a, .negSucc b => Nat.ble b a
def ilt (a b : Int) : Bool :=
  match a, b with
  | .ofNat a, .ofNat b => Nat.blt a b
  | .ofNat _, .negSucc _ => false
  | .negSucc _, .ofNat _ => true
  | .negSucc a, .negSucc b => Nat.blt b a
def ieq (a b : Int) : Bool :=
  match a, b with
  | .ofNat a, .ofNat b => Nat.beq a b
  | .negSucc a, .negSucc b => Nat.beq a b
  | _, _ => false
def OPEN : Nat := 9223372036854775808
def wrapF (k : IntKind) (n : Int) : Int :=
  match k with
  | .i64 => bif (ile (.negSucc 9223372036854775807) n && ile n (.ofNat 9223372036854775807)) then n else IntKind.wrap .i64 n
  | .u64 => match n with
    | .ofNat m => bif Nat.blt m 18446744073709551616 then n else .ofNat (Nat.mod m 18446744073709551616)
    | n => IntKind.wrap .u64 n
  | k => IntKind.wrap k n
def kindEq : IntKind → IntKind → Bool
  | .i64, .i64 | .u64, .u64 | .u8, .u8 | .i32, .i32 | .i8, .i8 | .i16, .i16 | .u16, .u16 | .u32, .u32 => true
  | _, _ => false

/-! ## Objects and the heap -/
structure Ob where
  kind : Nat
  cells : List Value
  elem : TypeId
  fam : Nat
  slack : Bool
  ents : List MapEntry
  clock : Nat
  str : ByteArray
  pos : Nat
def dead : Ob := ⟨0, [], 0, 0, false, [], 0, ByteArray.empty, 0⟩
def cellsOb (cs : List Value) (t : TypeId) : Ob := ⟨1, cs, t, 0, false, [], 0, ByteArray.empty, 0⟩
def slackOb (cs : List Value) (t : TypeId) (fam : Nat) : Ob := ⟨1, cs, t, fam, true, [], 0, ByteArray.empty, 0⟩
def mapOb (es : List MapEntry) (clock : Nat) : Ob := ⟨2, [], 0, 0, false, es, clock, ByteArray.empty, 0⟩
def iterOb (s : ByteArray) (pos : Nat) : Ob := ⟨3, [], 0, 0, false, [], 0, s, pos⟩

structure AH where
  tr : T5 Ob
  next : Nat
  low : Nat
  hid : List (Nat × Nat)
  fams : T5 (List (Nat × Nat))
def AH.zero : AH := ⟨T5.all dead, 0, 0, [], T5.all []⟩
def inSpans : List (Nat × Nat) → Nat → Bool
  | [], _ => false
  | (lo, hi) :: l, i => bif Nat.ble lo i && Nat.blt i hi then true else inSpans l i
def AH.get (h : AH) (i : Nat) : Ob :=
  match h.hid with
  | [] => T5.get h.tr i
  | l => bif inSpans l i then dead else T5.get h.tr i
def AH.set (h : AH) (i : Nat) (x : Ob) : AH := ⟨T5.set h.tr i x, h.next, bif Nat.blt i h.low then i else h.low, h.hid, h.fams⟩
def AH.push (h : AH) (x : Ob) : AH := ⟨T5.set h.tr h.next x, Nat.succ h.next, h.low, h.hid, h.fams⟩
def AH.setFam (h : AH) (f : Nat) (l : List (Nat × Nat)) : AH := ⟨h.tr, h.next, h.low, h.hid, T5.set h.fams f l⟩

/-! ## Forcing: each hands its first argument on as it is; the kernel has it written out by then -/
section
variable {R : Type}
def fN (n : Nat) (k : Nat → R) : R :=
  match n with
  | 0 => k 0
  | m + 1 => k (Nat.succ m)
def fI (n : Int) (k : Int → R) : R :=
  match n with
  | .ofNat m => fN m fun m => k (.ofNat m)
  | .negSucc m => fN m fun m => k (.negSucc m)
def fB (b : Bool) (k : Bool → R) : R :=
  match b with
  | true => k true
  | false => k false
def fA (a : Addr) (k : Addr → R) : R :=
  match a with
  | ⟨b, o, none⟩ => fN b fun b => fN o fun o => k ⟨b, o, none⟩
  | a => k a
def fS (v : Value) (k : Value → R) : R :=
  match v with
  | .bool b => fB b fun b => k (.bool b)
  | .int kd n => fI n fun n => k (.int kd n)
  | .pointer (some a) => fA a fun a => k (.pointer (some a))
  | .slice (some a) l c => fA a fun a => fN l fun l => fN c fun c => k (.slice (some a) l c)
  | .map (some r) => fN r fun r => k (.map (some r))
  | v => k v
def fL (l : List Value) (k : List Value → R) : R :=
  match l with
  | [] => k []
  | x :: l => fS x fun x => fL l fun l => k (x :: l)
def fW (v : Value) (k : Value → R) : R :=
  match v with
  | .agg ⟨l⟩ => fL l fun l => k (.agg ⟨l⟩)
  | v => fS v k
def fT (l : List Value) (k : List Value → R) : R :=
  match l with
  | [] => k []
  | x :: l => fW x fun x => fT l fun l => k (x :: l)
def fV (v : Value) (k : Value → R) : R :=
  match v with
  | .agg ⟨l⟩ => fL l fun l => k (.agg ⟨l⟩)
  | .tuple ⟨l⟩ => fT l fun l => k (.tuple ⟨l⟩)
  | v => fS v k
def AH.setK (h : AH) (i : Nat) (x : Ob) (k : AH → R) : R :=
  match h with
  | ⟨tr, next, low, hid, fams⟩ => T5.setK tr i x fun tr => fN (bif Nat.blt i low then i else low) fun low => k ⟨tr, next, low, hid, fams⟩
end

/-! ## Temporaries -/
abbrev Env := Env3 Value
abbrev P3 := Nat
abbrev slot (i : Nat) : P3 := i
def Env.at (e : Env) (p : P3) : Value := Env3.get e p
def Env.put (e : Env) (p : P3) (v : Value) : Env := Env3.put e p v
def Env.putK {R : Type} (e : Env) (p : P3) (v : Value) (k : Env → R) : R := Env3.putK e p v k
def Env.none : Env := ⟨E8.all (E8.all (E8.all undef)), fun _ => undef⟩
def Env.fill (e : Env) : Nat → List Value → Env
  | _, [] => e
  | i, v :: l => Env.fill (Env.put e (slot i) v) (Nat.succ i) l

/-! ## Operands -/
def plainV : Value → Bool
  | .bool _ | .int _ _ | .string _ | .pointer none | .nilFunc | .nilIface | .float _ _ => true
  | .slice none 0 0 => true
  | .map none => true
  | _ => false
def plainC : Value → Bool
  | .agg cs => cs.toList.all plainV
  | .tuple cs => cs.toList.all plainV
  | v => plainV v
inductive PO where
  | s (p : P3)
  | c (v : Value)
def prepO : Operand → Option PO
  | .tmp t => bif Nat.blt t 512 then some (.s (slot t)) else none
  | .const v => bif plainC v then some (.c v) else none
  | .func f => some (.c (.func (.func f) #[] #[]))
  | .global _ => none
def ev (e : Env) : PO → Value
  | .s p => e.at p
  | .c v => v
def prepOs : List Operand → Option (List PO)
  | [] => some []
  | o :: l => match prepO o, prepOs l with
    | some v, some r => some (v :: r)
    | _, _ => none
def evs (e : Env) : List PO → List Value
  | [] => []
  | o :: l => ev e o :: evs e l
def prepParts : List (Nat × Operand) → Option (List (Nat × PO))
  | [] => some []
  | (i, o) :: l => match prepO o, prepParts l with
    | some v, some r => some ((i, v) :: r)
    | _, _ => none
def evParts (e : Env) : List (Nat × PO) → List (Nat × Value)
  | [] => []
  | (i, o) :: l => (i, ev e o) :: evParts e l
def prepOpt : Option Operand → Option (Option PO)
  | none => some none
  | some o => (prepO o).map some
def evOpt (e : Env) : Option PO → Option Value
  | none => none
  | some o => some (ev e o)

/-! ## The operations that touch no memory, made ready -/
inductive Pop where
  | move (x : PO)
  | pick (c a b : PO)
  | bin (op : BinOp) (x y : PO)
  | eqB (neg : Bool) (x y : PO)
  | eqA (neg : Bool) (n : Nat) (x y : PO)
  | eqS (neg : Bool) (x : PO)
  | un (op : UnOp) (x : PO)
  | conv (k : IntKind) (x : PO)
  | sconv (x : PO)
  | build (place : List (Nat × Nat)) (step : Option Nat) (zero : Array Value) (parts : List (Nat × PO))
  | nilc (x : PO)
  | mkf (f : FuncId) (first captured : List PO)
  | slcS (x : PO) (lo hi : Option PO)
  | slcL (sz : Nat) (x : PO) (lo hi : Option PO)
  | slcA (n sz : Nat) (x : PO) (lo hi : Option PO)
  | slcM (sz : Nat) (x : PO) (lo : Option PO) (hi mx : PO)
  | faddr (off : Nat) (x : PO)
  | fld (n : Option Nat) (off : Nat) (x : PO)
  | iaddrA (n sz : Nat) (x i : PO)
  | iaddrS (sz : Nat) (x i : PO)
  | idxA (n sz : Nat) (agg : Bool) (x i : PO)
  | idxS (x i : PO)
  | ext (x : PO) (i : Nat)
  | lenS (x : PO)
  | lenL (x : PO)
  | lenC (n : Nat)
  | mx (x y : PO)
  | mn (x y : PO)
  | mx3 (x y z : PO)
  | mn3 (x y z : PO)

def intB (op : BinOp) (k : IntKind) (a b : Int) : Option Value :=
  match op with
  | .add => some (.int k (wrapF k (a + b)))
  | .sub => some (.int k (wrapF k (a - b)))
  | .mul => some (.int k (wrapF k (a * b)))
  | .quo => bif ieq b (.ofNat 0) then none else some (.int k (wrapF k (a.tdiv b)))
  | .rem => bif ieq b (.ofNat 0) then none else some (.int k (a.tmod b))
  | .and => some (.int k (k.wrap ((BitVec.ofInt k.bits a) &&& (BitVec.ofInt k.bits b)).toNat))
  | .or => some (.int k (k.wrap ((BitVec.ofInt k.bits a) ||| (BitVec.ofInt k.bits b)).toNat))
  | .xor => some (.int k (k.wrap ((BitVec.ofInt k.bits a) ^^^ (BitVec.ofInt k.bits b)).toNat))
  | .andNot => some (.int k (k.wrap ((BitVec.ofInt k.bits a) &&& ~~~(BitVec.ofInt k.bits b)).toNat))
  | .eql => some (.bool (ieq a b))
  | .neq => some (.bool (!ieq a b))
  | .lss => some (.bool (ilt a b))
  | .leq => some (.bool (ile a b))
  | .gtr => some (.bool (ilt b a))
  | .geq => some (.bool (ile b a))
  | .shl => bif ilt b (.ofNat 0) then none else some (.int k (wrapF k (a * .ofNat (Nat.pow 2 (min b.toNat k.bits)))))
  | .shr => bif ilt b (.ofNat 0) then none else some (.int k (a.fdiv (.ofNat (Nat.pow 2 (min b.toNat k.bits)))))

def strB (op : BinOp) (a b : ByteArray) : Option Value :=
  match op with
  | .add => bif Nat.ble (a.size + b.size) 1099511627776 then some (.string (a ++ b)) else none
  | .eql => some (.bool (a.toList == b.toList))
  | .neq => some (.bool (!(a.toList == b.toList)))
  | .lss => some (.bool (Op.bytesLess a.toList b.toList))
  | .leq => some (.bool (Op.bytesLess a.toList b.toList || a.toList == b.toList))
  | .gtr => some (.bool (!(Op.bytesLess a.toList b.toList || a.toList == b.toList)))
  | .geq => some (.bool (!Op.bytesLess a.toList b.toList))
  | _ => none

def isShift : BinOp → Bool
  | .shl | .shr => true
  | _ => false
def binF (op : BinOp) (x y : Value) : Option Value :=
  match x with
  | .int k a => match y with
    | .int k' b => bif kindEq k k' || isShift op then intB op k a b else none
    | _ => none
  | .string a => match y with
    | .string b => strB op a b
    | _ => none
  | _ => none

def intEqs : List Value → List Value → Option Bool
  | [], m => match m with
    | [] => some true
    | _ => none
  | x :: l, m => match m with
    | [] => none
    | y :: m => match x with
      | .int k a => match y with
        | .int k' b => bif kindEq k k' then (bif ieq a b then intEqs l m else some false) else none
        | _ => none
      | _ => none

def eqAF (neg : Bool) (n : Nat) (x y : Value) : Option Value :=
  match x with
  | .agg a => match y with
    | .agg b => bif Nat.beq a.size n && Nat.beq b.size n then (intEqs a.toList b.toList).map fun r => .bool (bif neg then !r else r) else none
    | _ => none
  | _ => none
def eqBF (neg : Bool) (x y : Value) : Option Value :=
  match x with
  | .bool a => match y with
    | .bool b => some (.bool (bif neg then !(a == b) else a == b))
    | _ => none
  | _ => none

/-- Is a slice nil? -/
def eqSF (neg : Bool) (x : Value) : Option Value :=
  match x with
  | .slice a _ _ => some (.bool (bif neg then !a.isNone else a.isNone))
  | _ => none

def unF (op : UnOp) (x : Value) : Option Value :=
  match op with
  | .not => match x with
    | .bool b => some (.bool (!b))
    | _ => none
  | .neg => match x with
    | .int k n => some (.int k (wrapF k (0 - n)))
    | _ => none
  | _ => none

def asNat : Value → Option Nat
  | .int _ n => match n with
    | .ofNat n => some n
    | _ => none
  | _ => none
def lowF : Option Value → Option Nat
  | none => some 0
  | some v => asNat v
def highF (d : Nat) : Option Value → Option Nat
  | none => some d
  | some v => asNat v

def slcSF (x : Value) (lo hi : Option Value) : Option Value :=
  match x with
  | .string s => match lowF lo, highF s.size hi with
    | some l, some h => bif Nat.ble l h && Nat.ble h s.size then some (.string (s.extract l h)) else none
    | _, _ => none
  | _ => none
def slcLF (sz : Nat) (x : Value) (lo hi : Option Value) : Option Value :=
  match x with
  | .slice (some a) len cap => match lowF lo, highF len hi with
    | some l, some h =>
      bif Nat.beq cap (OPEN + sz) then
        bif Nat.ble l h && Nat.ble h len then some (.slice (some (a.add (l * sz))) (h - l) cap) else none
      else bif Nat.blt cap OPEN && Nat.ble l h && Nat.ble h cap then some (.slice (some (bif Nat.beq cap l then a else a.add (l * sz))) (h - l) (cap - l)) else none
    | _, _ => none
  | .slice none 0 0 => match lowF lo, highF 0 hi with
    | some 0, some 0 => some (.slice none 0 0)
    | _, _ => none
  | _ => none
/-- A slice with three indexes: its row is whole, so the next append to a full one moves. -/
def slcMF (sz : Nat) (x : Value) (lo : Option Value) (hi mx : Value) : Option Value :=
  match x with
  | .slice (some a) len cap => match lowF lo, asNat hi, asNat mx with
    | some l, some h, some m =>
      bif (Nat.beq cap (OPEN + sz) && Nat.blt 0 len && Nat.ble m len || Nat.blt cap OPEN && Nat.ble m cap) && Nat.ble l h && Nat.ble h m && Nat.blt m OPEN then
        some (.slice (some (bif Nat.beq m l then a else a.add (l * sz))) (h - l) (m - l))
      else none
    | _, _, _ => none
  | .slice none 0 0 => match lowF lo, asNat hi, asNat mx with
    | some 0, some 0, some 0 => some (.slice none 0 0)
    | _, _, _ => none
  | _ => none
def slcAF (n sz : Nat) (x : Value) (lo hi : Option Value) : Option Value :=
  match x with
  | .pointer (some a) => match lowF lo, highF n hi with
    | some l, some h => bif Nat.ble l h && Nat.ble h n then some (.slice (some (bif Nat.beq n l then a else a.add (l * sz))) (h - l) (n - l)) else none
    | _, _ => none
  | _ => none
def nilcF (x : Value) : Option Value :=
  match x with
  | .pointer (some a) => some (.pointer (some a))
  | .func (.func f) x y => some (.func (.func f) x y)
  | _ => none
def faddrF (off : Nat) (x : Value) : Option Value :=
  match x with
  | .pointer (some a) => some (.pointer (some (a.add off)))
  | _ => none
def partF (n : Option Nat) (cs : Array Value) (off : Nat) : Option Value :=
  match n with
  | some n => some (.agg (cs.extract off (off + n)))
  | none => cs[off]?
def fldF (n : Option Nat) (off : Nat) (x : Value) : Option Value :=
  match x with
  | .agg cs => partF n cs off
  | _ => none
def iaddrAF (n sz : Nat) (x i : Value) : Option Value :=
  match x with
  | .pointer (some a) => match asNat i with
    | some i => bif Nat.blt i n then some (.pointer (some (a.add (i * sz)))) else none
    | none => none
  | _ => none
def iaddrSF (sz : Nat) (x i : Value) : Option Value :=
  match x with
  | .slice (some a) n _ => match asNat i with
    | some i => bif Nat.blt i n then some (.pointer (some (a.add (i * sz)))) else none
    | none => none
  | _ => none
def idxAF (n sz : Nat) (agg : Bool) (x i : Value) : Option Value :=
  match x with
  | .agg cs => match asNat i with
    | some i => bif Nat.blt i n then partF (bif agg then some sz else none) cs (i * sz) else none
    | none => none
  | _ => none
def idxSF (x i : Value) : Option Value :=
  match x with
  | .string s => match asNat i with
    | some i => match s[i]? with
      | some b => some (.int .u8 b.toNat)
      | none => none
    | none => none
  | _ => none
def extF (x : Value) (i : Nat) : Option Value :=
  match x with
  | .tuple vs => vs[i]?
  | _ => none
def lenSF : Value → Option Value
  | .string s => some (.int .i64 (.ofNat s.size))
  | _ => none
def lenLF : Value → Option Value
  | .slice _ n _ => some (.int .i64 (.ofNat n))
  | _ => none
def mxF (x y : Value) : Option Value :=
  match x with
  | .int k a => match y with
    | .int _ b => some (.int k (bif ilt a b then b else a))
    | _ => none
  | _ => none
def mnF (x y : Value) : Option Value :=
  match x with
  | .int k a => match y with
    | .int _ b => some (.int k (bif ilt b a then b else a))
    | _ => none
  | _ => none
def mx3F (x y z : Value) : Option Value :=
  match mxF x y with
  | some u => mxF u z
  | none => none
def mn3F (x y z : Value) : Option Value :=
  match mnF x y with
  | some u => mnF u z
  | none => none
def pickF (c a b : Value) : Option Value :=
  match c with
  | .bool t => some (bif t then a else b)
  | _ => none
def convF (k : IntKind) : Value → Option Value
  | .int _ n => some (.int k (wrapF k n))
  | _ => none
def sconvF : Value → Option Value
  | .string s => some (.string s)
  | _ => none
def placeF (place : List (Nat × Nat)) (step : Option Nat) (j : Nat) : Option (Nat × Nat) :=
  match step with
  | some n => some (j * n, n)
  | none => place[j]?
def buildF (place : List (Nat × Nat)) (step : Option Nat) (zero : Array Value) (parts : List (Nat × Value)) : Option Value :=
  (Instr.fill (placeF place step) zero parts).map Value.agg

def runP (e : Env) : Pop → Option Value
  | .move x => some (ev e x)
  | .pick c a b => pickF (ev e c) (ev e a) (ev e b)
  | .bin op x y => binF op (ev e x) (ev e y)
  | .eqB g x y => eqBF g (ev e x) (ev e y)
  | .eqA g n x y => eqAF g n (ev e x) (ev e y)
  | .eqS g x => eqSF g (ev e x)
  | .un op x => unF op (ev e x)
  | .conv k x => convF k (ev e x)
  | .sconv x => sconvF (ev e x)
  | .build p s z l => buildF p s z (evParts e l)
  | .nilc x => nilcF (ev e x)
  | .mkf f a b => some (.func (.func f) (evs e a).toArray (evs e b).toArray)
  | .slcS x lo hi => slcSF (ev e x) (evOpt e lo) (evOpt e hi)
  | .slcL sz x lo hi => slcLF sz (ev e x) (evOpt e lo) (evOpt e hi)
  | .slcA n sz x lo hi => slcAF n sz (ev e x) (evOpt e lo) (evOpt e hi)
  | .slcM sz x lo hi top => slcMF sz (ev e x) (evOpt e lo) (ev e hi) (ev e top)
  | .faddr off x => faddrF off (ev e x)
  | .fld n off x => fldF n off (ev e x)
  | .iaddrA n sz x i => iaddrAF n sz (ev e x) (ev e i)
  | .iaddrS sz x i => iaddrSF sz (ev e x) (ev e i)
  | .idxA n sz g x i => idxAF n sz g (ev e x) (ev e i)
  | .idxS x i => idxSF (ev e x) (ev e i)
  | .ext x i => extF (ev e x) i
  | .lenS x => lenSF (ev e x)
  | .lenL x => lenLF (ev e x)
  | .lenC n => some (.int .i64 (.ofNat n))
  | .mx x y => mxF (ev e x) (ev e y)
  | .mn x y => mnF (ev e x) (ev e y)
  | .mx3 x y z => mx3F (ev e x) (ev e y) (ev e z)
  | .mn3 x y z => mn3F (ev e x) (ev e y) (ev e z)

/-! ## Making ready -/
section
variable (P : Program)
/-- An array of integers, or a struct of integers: how many? -/
def intField (f : Field) : Bool :=
  !(f.name == "_") && match P.underlying f.type with
    | some (.int _) => Nat.beq (P.cellsOf f.type) 1
    | _ => false
def offsOk : List Field → Nat → Bool
  | [], _ => true
  | f :: l, i => Nat.beq f.offset i && offsOk l (Nat.succ i)
def intArr (t : TypeId) : Option Nat :=
  bif P.eqGuardType P.depth t then none else
  match P.underlying t with
  | some (.array n e) => match P.underlying e with
    | some (.int _) => bif Nat.beq (P.cellsOf e) 1 then some n else none
    | _ => none
  | some (.struct fs) => bif !P.stoodInHeld t && fs.toList.all (intField P) && offsOk fs.toList 0 then some fs.size else none
  | _ => none
/-- All cells of a type are integers, at any depth: how many? -/
def flatGo (f : TypeId → Option Nat) : List Field → Nat → Option Nat
  | [], i => some i
  | fd :: l, i => bif !(fd.name == "_") && Nat.beq fd.offset i then (match f fd.type with
    | some m => bif Nat.beq (P.cellsOf fd.type) m then flatGo f l (i + m) else none
    | none => none) else none
def flatT : Nat → TypeId → Option Nat
  | 0, _ => none
  | d + 1, t => match P.underlying t with
    | some (.int _) => some 1
    | some (.array n e) => match flatT d e with
      | some m => bif Nat.beq (P.cellsOf e) m then some (n * m) else none
      | none => none
    | some (.struct fs) => bif P.stoodInHeld t then none else flatGo P (flatT d) fs.toList 0
    | _ => none
def flatArr (t : TypeId) : Option Nat :=
  match intArr P t with
  | some n => some n
  | none => bif P.eqGuardType P.depth t then none else match P.underlying t with
    | some (.int _) => none
    | _ => flatT P 6 t
def nilSl : PO → Bool
  | .c v => match v with
    | .slice none 0 0 => true
    | _ => false
  | _ => false
/-- Of a type: its cells if it is an aggregate (some (some n)), or none (some none). -/
def aggOf (t : TypeId) : Option (Option Nat) :=
  match P.underlying t with
  | some (.struct _) | some (.array _ _) => (P.info? t).map fun i => some i.size
  | some _ => some none
  | none => none
def placesOf : List Field → Option (List (Nat × Nat))
  | [] => some []
  | f :: l => match P.info? f.type, placesOf l with
    | some i, some r => some ((f.offset, i.size) :: r)
    | _, _ => none

def prepBin (op : BinOp) (t : TypeId) (x y : PO) : Option Pop :=
  match P.underlying t with
  | some (.int _) | some .string => some (.bin op x y)
  | some .bool => match op with
    | .eql => some (.eqB false x y)
    | .neq => some (.eqB true x y)
    | _ => none
  | some (.slice _) => match op with
    | .eql => bif nilSl y then some (.eqS false x) else none
    | .neq => bif nilSl y then some (.eqS true x) else none
    | _ => none
  | _ => match flatArr P t, op with
    | some n, .eql => some (.eqA false n x y)
    | some n, .neq => some (.eqA true n x y)
    | _, _ => none

def prepBuild (t : TypeId) (l : List (Nat × PO)) : Option Pop :=
  match P.info? t with
  | some i => match i.zero with
    | some z => bif plainC z then match P.underlying t with
      | some (.struct fs) => (placesOf P fs.toList).map fun p => .build p none z.cells l
      | some (.array _ el) => (P.info? el).map fun n => .build [] (some n.size) z.cells l
      | _ => none
      else none
    | none => none
  | none => none

def prepSlice (t : TypeId) (x : PO) (lo hi : Option PO) : Option Pop :=
  match P.underlying t with
  | some .string => some (.slcS x lo hi)
  | some (.slice e) => (P.info? e).bind fun i => bif Nat.beq i.size 0 then none else some (.slcL i.size x lo hi)
  | some (.array n e) => (P.info? e).bind fun i => bif Nat.beq i.size 0 || !Nat.blt n OPEN then none else some (.slcA n i.size x lo hi)
  | _ => none

def prepSliceM (t : TypeId) (x : PO) (lo : Option PO) (hi mx : PO) : Option Pop :=
  match P.underlying t with
  | some (.slice e) => (P.info? e).bind fun i => bif Nat.beq i.size 0 then none else some (.slcM i.size x lo hi mx)
  | _ => none

def prepLen (t : TypeId) (x : PO) : Option Pop :=
  match P.underlying t with
  | some .string => some (.lenS x)
  | some (.slice _) => some (.lenL x)
  | some (.array n _) => some (.lenC n)
  | _ => none

def fieldOf (s : TypeId) (f : Nat) : Option (Nat × TypeId) :=
  match P.underlying s with
  | some (.struct fs) => (fs[f]?).map fun fd => (fd.offset, fd.type)
  | _ => none

def prepP (op : Op) : Option Pop :=
  match op with
  | .move x | .assign x => (prepO x).map .move
  | .pick c a b => match prepO c, prepO a, prepO b with
    | some c, some a, some b => some (.pick c a b)
    | _, _, _ => none
  | .build t parts => (prepParts parts.toList).bind (prepBuild P t)
  | .nilCheck x => (prepO x).map .nilc
  | .binOp op t x y _ => match prepO x, prepO y with
    | some x, some y => prepBin P op t x y
    | _, _ => none
  | .unOp op _ x => (prepO x).map (.un op)
  | .convert s d x => match P.underlying s, P.underlying d with
    | some (.int _), some (.int k) => (prepO x).map (.conv k)
    | some .string, some .string => (prepO x).map .sconv
    | _, _ => none
  | .makeFunc (.func f) first captured => match prepOs first.toList, prepOs captured.toList with
    | some a, some b => some (.mkf f a b)
    | _, _ => none
  | .slice t x lo hi none => match prepO x, prepOpt lo, prepOpt hi with
    | some x, some lo, some hi => prepSlice P t x lo hi
    | _, _, _ => none
  | .slice t x lo (some hi) (some mx) => match prepO x, prepOpt lo, prepO hi, prepO mx with
    | some x, some lo, some hi, some mx => prepSliceM P t x lo hi mx
    | _, _, _, _ => none
  | .fieldAddr s x f => match fieldOf P s f, prepO x with
    | some (off, ft), some x => (P.info? ft).bind fun i => bif Nat.beq i.size 0 then none else some (.faddr off x)
    | _, _ => none
  | .field s x f => match fieldOf P s f, prepO x with
    | some (off, ft), some x => (aggOf P ft).map fun n => .fld n off x
    | _, _ => none
  | .indexAddr t x ix => match P.underlying t, prepO x, prepO ix with
    | some (.array n el), some x, some i => (P.info? el).map fun inf => .iaddrA n inf.size x i
    | some (.slice el), some x, some i => (P.info? el).map fun inf => .iaddrS inf.size x i
    | _, _, _ => none
  | .index t x ix => match P.underlying t, prepO x, prepO ix with
    | some (.array n el), some x, some i => match P.info? el, aggOf P el with
      | some inf, some g => some (.idxA n inf.size g.isSome x i)
      | _, _ => none
    | some .string, some x, some i => some (.idxS x i)
    | _, _, _ => none
  | .extract x i => (prepO x).map fun x => .ext x i
  | .call { callee := .builtin .len, args := as, argTypes := ts } => match prepOs as.toList, ts[0]? with
    | some [x], some t => prepLen P t x
    | _, _ => none
  | .call { callee := .builtin .max, args := as, .. } => match prepOs as.toList with
    | some [x, y] => some (.mx x y)
    | some [x, y, z] => some (.mx3 x y z)
    | _ => none
  | .call { callee := .builtin .min, args := as, .. } => match prepOs as.toList with
    | some [x, y] => some (.mn x y)
    | some [x, y, z] => some (.mn3 x y z)
    | _ => none
  | _ => none
end
end Go.Ds
