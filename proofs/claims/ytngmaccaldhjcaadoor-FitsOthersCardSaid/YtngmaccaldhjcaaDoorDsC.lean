import Derived.Test.YtngmaccaldhjcaaDoorDsB
set_option linter.all false
set_option linter.unusedSimpArgs false
set_option linter.unnecessarySimpa false
set_option linter.unusedVariables false
set_option linter.unusedSectionVars false
set_option linter.unusedSectionVars false
set_option linter.unusedVariables false
namespace Go.Ds
variable [Inhabited Bound]

/-! ## The operations that touch the heap, made ready -/
/-- How keys of a map are compared: 0 integers, 1 strings, n + 2: n integers in a row. -/
inductive Hop where
  | alloc (t : TypeId) (z : List Value)
  | box (t : TypeId) (x : PO)
  | load (n : Option Nat) (x : PO)
  | store (n : Nat) (x v : PO)
  /-- A store beside loads that it does not wait for, whose addresses are told. -/
  | storeB (n : Nat) (x v : PO) (os : List PO)
  | bslice (t : TypeId) (sz len : Nat) (zero : Array Value) (parts : List (Nat × PO))
  | mkslice (t : TypeId) (bytes : Nat) (zero : List Value) (l c : PO)
  | mkmap
  | look (key : Nat) (zero : Value) (m k : PO) (ok : Bool)
  | upd (key : Nat) (m k v : PO)
  | app (t : TypeId) (sz bytes : Nat) (s x : PO)
  | cpy (sz : Nat) (d s : PO)
  | clr (z : List Value) (s : PO)
  | slcH (sz : Nat) (x : PO) (lo hi : Option PO)
  | fail
  | lenM (m : PO)
  | callF (f : FuncId) (args : List PO)
  | callV (f : PO) (args : List PO)
  | bytesOf (t : TypeId) (x : PO)
  | textOf (x : PO)
  | rangeS (x : PO)
  | nextS (x : PO)

def takeN {α : Type} : Nat → List α → Option (List α)
  | 0, _ => some []
  | n + 1, l => match l with
    | [] => none
    | x :: l => match takeN n l with
      | some r => some (x :: r)
      | none => none
def dropN {α : Type} : Nat → List α → List α
  | 0, l => l
  | n + 1, l => match l with
    | [] => []
    | _ :: l => dropN n l
def lenN {α : Type} : List α → Nat
  | [] => 0
  | _ :: l => Nat.succ (lenN l)

/-- What is not known of a row that is only read. -/
def isJ : Value → Bool
  | .complex _ _ _ => true
  | _ => false
def known : Option (List Value) → Option (List Value)
  | some l => bif l.any isJ then none else some l
  | none => none
def readN (h : AH) (a : Addr) (n : Nat) : Option (List Value) :=
  match h.get a.block with
  | ⟨1, cells, _, _, _, _, _, _, _⟩ => takeN n (dropN a.off cells)
  | ⟨4, cells, _, _, _, _, _, _, _⟩ => known (takeN n (dropN a.off cells))
  | _ => none
def loadF (n : Option Nat) (h : AH) (x : Value) : Option Value :=
  match x with
  | .pointer (some a) => match n with
    | some n => (readN h a n).map fun l => .agg l.toArray
    | none => match readN h a 1 with
      | some [v] => some v
      | _ => none
  | _ => none

/-- Those of the family that hold cells from 'off' on are dead now. -/
def killGo (keep off : Nat) : List (Nat × Nat) → AH → AH
  | [], h => h
  | (i, n) :: l, h => bif Nat.blt off n && !Nat.beq i keep then killGo keep off l (h.set i dead) else killGo keep off l h
def killF (h : AH) (f keep off : Nat) : AH :=
  let ms := T5.get h.fams f
  (killGo keep off ms h).setFam f (ms.filter fun m => Nat.ble m.2 off || Nat.beq m.1 keep)

def splice : Nat → List Value → List Value → List Value
  | 0, l, new => new ++ dropN (lenN new) l
  | i + 1, l, new => match l with
    | [] => []
    | x :: l => x :: splice i l new

def writeF (h : AH) (a : Addr) (vs : List Value) : Option AH :=
  match h.get a.block with
  | ⟨1, cells, t, fam, slack, es, c, s, p⟩ =>
    bif Nat.ble (a.off + lenN vs) (lenN cells) && Nat.blt a.block h.next then
      bif slack then some ((killF h fam a.block a.off).set a.block ⟨1, splice a.off cells vs, t, fam, slack, es, c, s, p⟩)
      else some (h.set a.block ⟨1, splice a.off cells vs, t, fam, slack, es, c, s, p⟩)
    else none
  | _ => none

def cellV : Value → Bool
  | .agg _ | .tuple _ => false
  | _ => true
def cellsOf (v : Value) : List Value :=
  match v with
  | .agg cs => cs.toList
  | v => [v]
def storeF (n : Nat) (h : AH) (x v : Value) : Option AH :=
  match x with
  | .pointer (some a) => bif Nat.beq (lenN (cellsOf v)) n && (cellsOf v).all cellV then writeF h a (cellsOf v) else none
  | _ => none

def offB (j : Nat) : Value → Bool
  | .pointer (some a) => !Nat.beq a.block j
  | _ => false
/-- The object is plain, and the others lie elsewhere. -/
def besideF (h : AH) (x : Value) (vs : List Value) : Bool :=
  match x with
  | .pointer (some a) => (match h.get a.block with
    | ⟨k, _, _, _, sl, _, _, _, _⟩ => Nat.beq k 1 && !sl) && vs.all (offB a.block)
  | _ => false
def pushF (h : AH) (o : Ob) (v : Nat → Value) : Option (Value × AH) :=
  bif Nat.blt h.next LIM then some (v h.next, h.push o) else none
def ptrTo (id : Nat) : Value := .pointer (some ⟨id, 0, none⟩)

def repeatN (z : List Value) : Nat → List Value
  | 0 => []
  | n + 1 => z ++ repeatN z n

def byteV (b : UInt8) : Value := .int .u8 (.ofNat b.toNat)
def firstF (h : AH) (sz n : Nat) : Value → Option (List Value)
  | .slice (some a) _ _ => readN h a (n * sz)
  | .slice none _ _ => some []
  | .string s => takeN n (s.toList.map byteV)
  | _ => none
def lenF : Value → Option Nat
  | .slice _ n _ => some n
  | .string s => some s.size
  | _ => none

/-- In place. -/
def appIn (h : AH) (a : Addr) (stop n sCap : Nat) (new : List Value) : Option (Value × AH) :=
  bif new.all cellV then match writeF h ⟨a.block, stop, none⟩ new with
  | some h' => some (.slice (some a) n sCap, h')
  | none => none
  else none
/-- To new memory. -/
def appNew (h : AH) (t : TypeId) (sz n : Nat) (cs : List Value) : Option (Value × AH) :=
  bif Nat.blt h.next LIM then
    some (.slice (some ⟨h.next, 0, none⟩) n (OPEN + sz), (h.push (slackOb cs t h.next)).setFam h.next [(h.next, lenN cs)])
  else none
/-- In place or to new memory: nobody can tell. -/
def appMay (h : AH) (t : TypeId) (sz : Nat) (a : Addr) (fam n : Nat) (stop : Nat) (pre new : List Value) : Option (Value × AH) :=
  bif Nat.blt h.next LIM && Nat.blt a.block h.next && Nat.beq a.off 0 && new.all cellV then
    match killF h fam h.next stop with
    | ⟨tr, next, low, hid, fams⟩ =>
      some (.slice (some ⟨next, 0, none⟩) n (OPEN + sz),
        (AH.push ⟨tr, next, bif Nat.blt a.block low then a.block else low, hid, fams⟩ (slackOb (pre ++ new) t fam)).setFam fam ((next, lenN (pre ++ new)) :: T5.get fams fam))
  else none

def appF (t : TypeId) (sz bytes : Nat) (h : AH) (s x : Value) : Option (Value × AH) :=
  match s with
  | .slice base sLen sCap => match lenF x with
    | none => none
    | some n => bif Nat.blt 1073741824 ((sLen + n) * Nat.succ bytes) then none else bif Nat.beq n 0 then some (s, h) else match firstF h sz n x with
      | none => none
      | some new => match base with
        | none => bif Nat.beq sLen 0 && Nat.beq sCap 0 then appNew h t sz n new else none
        | some a => match h.get a.block with
          | ⟨1, cells, el, fam, slack, _, _, _, _⟩ =>
            bif Nat.beq sCap (OPEN + sz) then
              bif Nat.beq sLen 0 && Nat.blt 0 a.off then none
              else bif Nat.ble (a.off + sLen * sz + lenN new) (lenN cells) then appIn h a (a.off + sLen * sz) (sLen + n) sCap new
              else bif slack && Nat.beq el t then match takeN (a.off + sLen * sz) cells with
                | some pre => appMay h t sz a fam (sLen + n) (a.off + sLen * sz) pre new
                | none => none
              else none
            else bif !(Nat.blt sCap OPEN) then none else bif Nat.ble (sLen + n) sCap then appIn h a (a.off + sLen * sz) (sLen + n) sCap new
            else match takeN (sLen * sz) (dropN a.off cells) with
              | some old => appNew h t sz (sLen + n) (old ++ new)
              | none => none
          | _ => none
  | _ => none

def cpyF (sz : Nat) (h : AH) (d s : Value) : Option (Value × AH) :=
  match d with
  | .slice base dLen _ => match lenF s with
    | some n => match firstF h sz (Nat.min n dLen) s with
      | some new => match base with
        | some a => bif Nat.beq (Nat.min n dLen) 0 then some (.int .i64 (.ofNat 0), h) else bif !(new.all cellV) then none else match writeF h a new with
          | some h' => some (.int .i64 (.ofNat (Nat.min n dLen)), h')
          | none => none
        | none => some (.int .i64 (.ofNat (Nat.min n dLen)), h)
      | none => none
    | none => none
  | _ => none

/-- A slice is set to zero. -/
def clrF (z : List Value) (h : AH) (s : Value) : Option AH :=
  match s with
  | .slice base n _ => bif Nat.beq n 0 then some h else match base with
    | some a => bif (repeatN z n).all cellV then writeF h a (repeatN z n) else none
    | none => some h
  | _ => none

/-- A slice that may go beyond the length: what lies there is asked of the heap. -/
def slcHF (sz : Nat) (h : AH) (x : Value) (lo hi : Option Value) : Option Value :=
  match x with
  | .slice (some a) len cap => match lowF lo, highF len hi with
    | some l, some m =>
      bif Nat.beq cap (OPEN + sz) && Nat.blt len m && (Nat.blt 0 len || Nat.beq a.off 0) then match h.get a.block with
        | ⟨1, cells, _, _, _, _, _, _, _⟩ => bif Nat.blt a.block h.next && Nat.ble l m && Nat.ble (a.off + m * sz) (lenN cells) then some (.slice (some (a.add (l * sz))) (m - l) cap) else none
        | _ => none
      else slcLF sz x lo hi
    | _, _ => none
  | _ => slcLF sz x lo hi

/-! ### Maps -/
def keyEq (key : Nat) (a b : Value) : Option Bool :=
  match key with
  | 0 => match a with
    | .int k x => match b with
      | .int k' y => bif kindEq k k' then some (ieq x y) else none
      | _ => none
    | _ => none
  | 1 => match a with
    | .string x => match b with
      | .string y => some (x.toList == y.toList)
      | _ => none
    | _ => none
  | n + 2 => match a with
    | .agg x => match b with
      | .agg y => bif Nat.beq x.size n && Nat.beq y.size n then intEqs x.toList y.toList else none
      | _ => none
    | _ => none
def allInts : List Value → Bool
  | [] => true
  | x :: l => match x with
    | .int _ _ => allInts l
    | _ => false
def keyOk (key : Nat) (k : Value) : Bool :=
  match key with
  | 0 => match k with
    | .int _ _ => true
    | _ => false
  | 1 => match k with
    | .string _ => true
    | _ => false
  | n + 2 => match k with
    | .agg x => Nat.beq x.size n && allInts x.toList
    | _ => false
def findE (key : Nat) (k : Value) : List MapEntry → Nat → Option (Option (Nat × Value))
  | [], _ => some none
  | e :: es, i => match keyEq key k e.key with
    | some true => some (some (i, e.val))
    | some false => findE key k es (Nat.succ i)
    | none => none
def setE (k v : Value) : List MapEntry → Nat → List MapEntry
  | [], _ => []
  | e :: l, i => match i with
    | 0 => { e with key := k, val := v } :: l
    | i + 1 => e :: setE k v l i
def entsF (h : AH) (m : Value) : Option (List MapEntry) :=
  match m with
  | .map none => some []
  | .map (some r) => match h.get r with
    | ⟨2, _, _, _, _, es, _, _, _⟩ => some es
    | _ => none
  | _ => none
def lookF (key : Nat) (zero : Value) (h : AH) (m k : Value) (ok : Bool) : Option Value :=
  match entsF h m with
  | none => none
  | some es => match (bif keyOk key k then findE key k es 0 else none) with
    | none => none
    | some (some (_, v)) => some (bif ok then .tuple #[v, .bool true] else v)
    | some none => some (bif ok then .tuple #[zero, .bool false] else zero)
def updF (key : Nat) (h : AH) (m k v : Value) : Option AH :=
  match m with
  | .map (some r) => match h.get r with
    | ⟨2, _, _, _, _, es, c, _, _⟩ => bif Nat.blt r h.next then match (bif keyOk key k then findE key k es 0 else none) with
      | none => none
      | some (some (i, _)) => some (h.set r (mapOb (setE k v es i) c))
      | some none => some (h.set r (mapOb (es ++ [{ key := k, val := v, born := c }]) (Nat.succ c)))
      else none
    | _ => none
  | _ => none

/-! ### Strings -/
def textGo : List Value → ByteArray → Option ByteArray
  | [], s => some s
  | v :: l, s => match v with
    | .int .u8 n => textGo l (s.push (UInt8.ofNat n.toNat))
    | _ => none
def textF (h : AH) (x : Value) : Option Value :=
  match x with
  | .slice none _ _ => some (.string .empty)
  | .slice (some a) n _ => match readN h a n with
    | some l => (textGo l .empty).map .string
    | none => none
  | _ => none
def nextF (h : AH) (x : Value) : Option (Value × AH) :=
  match x with
  | .pointer (some ⟨r, 0, none⟩) => match h.get r with
    | ⟨3, _, _, _, _, _, _, s, pos⟩ => bif Nat.blt r h.next then
        bif Nat.blt pos s.size then match Utf8.decode s pos with
          | (c, w) => some (.tuple #[.bool true, .int .i64 (.ofNat pos), .int .i32 c], h.set r (iterOb s (pos + w)))
        else some (.tuple #[.bool false], h)
      else none
    | _ => none
  | _ => none

abbrev Caller := FuncId → List Value → AH → Option (Value × AH)

def bsliceF (t : TypeId) (sz len : Nat) (zero : Array Value) (h : AH) (l : List (Nat × Value)) : Option (Value × AH) :=
  match Instr.fill (fun j => some (j * sz, sz)) zero l with
  | some cs => pushF h (cellsOb cs.toList t) fun id => .slice (some ⟨id, 0, none⟩) len len
  | none => none
def mksliceF (t : TypeId) (bytes : Nat) (zero : List Value) (h : AH) (l c : Value) : Option (Value × AH) :=
  match asNat l, asNat c with
  | some l, some c => bif Nat.ble l c && Nat.ble (c * Nat.succ bytes) 1073741824 then
      pushF h (cellsOb (repeatN zero c) t) fun id => .slice (some ⟨id, 0, none⟩) l c
    else none
  | _, _ => none
def callVF (call : Caller) (h : AH) (f : Value) (vs : List Value) : Option (Value × AH) :=
  match f with
  | .func (.func f) first captured => call f (first.toList ++ vs ++ captured.toList) h
  | _ => none
def asSome (h : AH) : Option Value → Option (Value × AH)
  | some v => some (v, h)
  | none => none
def asUnit : Option AH → Option (Value × AH)
  | some h => some (undef, h)
  | none => none
def lenMF (h : AH) (m : Value) : Option Value :=
  match entsF h m with
  | some es => some (.int .i64 (.ofNat (lenN es)))
  | none => none
def bytesF (t : TypeId) (h : AH) (x : Value) : Option (Value × AH) :=
  match x with
  | .string s => bif Nat.beq s.size 0 then none else appNew h t 1 s.size (s.toList.map byteV)
  | _ => none
def rangeSF (h : AH) (x : Value) : Option (Value × AH) :=
  match x with
  | .string s => pushF h (iterOb s 0) ptrTo
  | _ => none

def strOk (sz : Nat) : Value → Bool
  | .string _ => Nat.beq sz 1
  | _ => true
def runH (call : Caller) (e : Env) (h : AH) : Hop → Option (Value × AH)
  | .alloc t z => pushF h (cellsOb z t) ptrTo
  | .box t x => pushF h (cellsOb (cellsOf (ev e x)) t) ptrTo
  | .load n x => asSome h (loadF n h (ev e x))
  | .store n x v => asUnit (storeF n h (ev e x) (ev e v))
  | .storeB n x v os => bif besideF h (ev e x) (evs e os) then asUnit (storeF n h (ev e x) (ev e v)) else none
  | .bslice t sz len z l => bsliceF t sz len z h (evParts e l)
  | .mkslice t b z l c => mksliceF t b z h (ev e l) (ev e c)
  | .mkmap => pushF h (mapOb [] 0) fun id => .map (some id)
  | .look key z m k ok => asSome h (lookF key z h (ev e m) (ev e k) ok)
  | .upd key m k v => asUnit (updF key h (ev e m) (ev e k) (ev e v))
  | .app t sz b s x => bif strOk sz (ev e x) then appF t sz b h (ev e s) (ev e x) else none
  | .cpy sz d s => bif strOk sz (ev e s) then cpyF sz h (ev e d) (ev e s) else none
  | .clr z s => asUnit (clrF z h (ev e s))
  | .fail => none
  | .slcH sz x lo hi => asSome h (slcHF sz h (ev e x) (evOpt e lo) (evOpt e hi))
  | .lenM m => asSome h (lenMF h (ev e m))
  | .callF f as => call f (evs e as) h
  | .callV f as => callVF call h (ev e f) (evs e as)
  | .bytesOf t x => bytesF t h (ev e x)
  | .textOf x => asSome h (textF h (ev e x))
  | .rangeS x => rangeSF h (ev e x)
  | .nextS x => nextF h (ev e x)

/-! ## Making ready -/
section
variable (P : Program)
def keyOf (t : TypeId) : Option Nat :=
  match P.underlying t with
  | some (.int _) => some 0
  | some .string => some 1
  | some (.array _ _) => (intArr P t).map fun n => n + 2
  | _ => none
/-- Size, bytes and zero of a type whose zero is plain and of that size. -/
def zeroOf (t : TypeId) : Option (Nat × Nat × Array Value) :=
  match P.info? t with
  | some i => match i.zero with
    | some z => bif plainC z && Nat.beq z.cells.size i.size && Nat.blt 0 i.size then some (i.size, i.bytes, z.cells) else none
    | none => none
  | none => none

def prepCall (c : Call) : Option Hop :=
  match c with
  | { callee := .builtin .append, args := as, argTypes := ts } => match prepOs as.toList, ts.toList with
    | some [s, x], [t, t'] => match P.underlying t with
      | some (.slice e) => match P.underlying t', zeroOf P e with
        | some (.slice _), some z => some (.app e z.1 z.2.1 s x)
        | some .string, some z => bif Nat.beq z.1 1 then some (.app e z.1 z.2.1 s x) else none
        | _, _ => none
      | _ => none
    | _, _ => none
  | { callee := .builtin .copy, args := as, argTypes := ts } => match prepOs as.toList, ts.toList with
    | some [d, s], t :: _ => match P.underlying t with
      | some (.slice e) => (P.info? e).bind fun i => bif Nat.beq i.size 0 then none else some (.cpy i.size d s)
      | _ => none
    | _, _ => none
  | { callee := .builtin .clear, args := as, argTypes := ts } => match prepOs as.toList, ts.toList with
    | some [s], t :: _ => match P.underlying t with
      | some (.slice e) => (zeroOf P e).map fun z => .clr z.2.2.toList s
      | _ => none
    | _, _ => none
  | { callee := .builtin .len, args := as, argTypes := ts } => match prepOs as.toList, ts.toList with
    | some [m], t :: _ => match P.underlying t with
      | some (.map _ _) => some (.lenM m)
      | _ => none
    | _, _ => none
  | { callee := .value (.func f), args := as, .. } => (prepOs as.toList).map (.callF f)
  | { callee := .value f, args := as, .. } => match prepO f, prepOs as.toList with
    | some f, some l => some (.callV f l)
    | _, _ => none
  | _ => none

def prepH (o : Oper) : Option Hop :=
  match o.op with
  | .alloc t => (zeroOf P t).map fun z => .alloc t z.2.2.toList
  | .box t x => (prepO x).map (.box t)
  | .load t a => match aggOf P t, prepO a with
    | some n, some a => some (.load n a)
    | _, _ => none
  | .store t a x => match P.info? t, prepO a, prepO x with
    | some i, some a, some x => some (.store i.size a x)
    | _, _, _ => none
  | .buildSlice t len parts => match P.underlying t, prepParts parts.toList with
    | some (.slice el), some l => match zeroOf P el with
      | some (sz, _, z) => bif Nat.ble (len * sz) 16777216 then some (.bslice el sz len (repeatN z.toList len).toArray l) else none
      | none => none
    | _, _ => none
  | .makeSlice t l c => match P.underlying t, prepO l, prepO c with
    | some (.slice el), some l, some c => (zeroOf P el).map fun z => .mkslice el z.2.1 z.2.2.toList l c
    | _, _, _ => none
  | .makeMap _ none => some .mkmap
  | .lookup t m k ok => match P.underlying t, prepO m, prepO k with
    | some (.map kt et), some m, some k => match keyOf P kt, P.info? et with
      | some key, some i => match i.zero with
        | some z => bif plainC z then some (.look key z m k ok) else none
        | none => none
      | _, _ => none
    | _, _, _ => none
  | .mapUpdate t m k v | .insert t m k v => match P.underlying t, prepO m, prepO k, prepO v with
    | some (.map kt _), some m, some k, some v => (keyOf P kt).map fun key => .upd key m k v
    | _, _, _, _ => none
  | .convert s d x => match P.underlying s, P.underlying d, prepO x with
    | some .string, some (.slice e), some x => match P.underlying e with
      | some (.int .u8) => some (.bytesOf e x)
      | _ => none
    | some (.slice e), some .string, some x => match P.underlying e with
      | some (.int .u8) => some (.textOf x)
      | _ => none
    | _, _, _ => none
  | .range t x => match P.underlying t, prepO x with
    | some .string, some x => some (.rangeS x)
    | _, _ => none
  | .next x true => (prepO x).map .nextS
  | .call c => prepCall P c
  | .panic _ => some .fail
  | .slice t x lo hi none => match prepO x, prepOpt lo, prepOpt hi with
    | some x, some lo, some hi => match P.underlying t with
      | some (.slice e) => (P.info? e).bind fun i => bif Nat.beq i.size 0 then none else some (.slcH i.size x lo hi)
      | _ => none
    | _, _, _ => none
  | .makeInterface _ _ => some .fail
  | _ => none

/-! ## Regions -/
def p3eq (p q : P3) : Bool := Nat.beq p q
def inP (p : P3) : List P3 → Bool
  | [] => false
  | q :: l => p3eq p q || inP p l
def poIn (l : List P3) : PO → Bool
  | .s p => inP p l
  | .c _ => true
def posIn (l : List P3) : List PO → Bool
  | [] => true
  | p :: ps => poIn l p && posIn l ps
def optL {α : Type} : Option α → List α
  | none => []
  | some x => [x]
def partL : List (Nat × PO) → List PO
  | [] => []
  | p :: l => p.2 :: partL l
def Pop.pos : Pop → List PO
  | .move x | .eqS _ x | .un _ x | .conv _ x | .sconv x | .nilc x | .faddr _ x | .fld _ _ x | .ext x _ | .lenS x | .lenL x => [x]
  | .bin _ x y | .eqB _ x y | .eqA _ _ x y | .iaddrA _ _ x y | .iaddrS _ x y | .idxA _ _ _ x y | .idxS x y | .mx x y | .mn x y => [x, y]
  | .mx3 x y z | .mn3 x y z => [x, y, z]
  | .pick a b c => [a, b, c]
  | .build _ _ _ l => partL l
  | .mkf _ a b => a ++ b
  | .slcS x lo hi | .slcL _ x lo hi | .slcA _ _ x lo hi => x :: (optL lo ++ optL hi)
  | .slcM _ x lo hi top => x :: hi :: top :: optL lo
  | .lenC _ => []
def Hop.pos : Hop → List PO
  | .alloc _ _ | .mkmap | .fail => []
  | .slcH _ x lo hi => x :: (optL lo ++ optL hi)
  | .clr _ x | .box _ x | .load _ x | .lenM x | .bytesOf _ x | .textOf x | .rangeS x | .nextS x => [x]
  | .store _ x y | .mkslice _ _ _ x y | .look _ _ x y _ | .app _ _ _ x y | .cpy _ x y => [x, y]
  | .upd _ x y z => [x, y, z]
  | .storeB _ x y os => x :: y :: os
  | .bslice _ _ _ _ l => partL l
  | .callF _ as => as
  | .callV f as => f :: as
def Hop.isB : Hop → Bool
  | .storeB _ _ _ _ => true
  | _ => false
structure PI where
  guard : Option (P3 × Bool)
  dst : Option P3
  pop : Option Pop
  hop : Option Hop
  hide : List Nat
end

def edgesOn : List Edge → List Nat
  | [] => []
  | e :: l => bif Region.binds .any e then e.on :: edgesOn l else edgesOn l
def allBelow (i : Nat) : List Nat → Bool
  | [] => true
  | j :: l => Nat.blt j i && allBelow i l
def nthN : List Nat → Nat → Nat
  | [], _ => 0
  | x :: l, i => match i with
    | 0 => x
    | i + 1 => nthN l i
def orBits (bs : List Nat) : List Nat → Nat
  | [] => 0
  | j :: l => Nat.lor (Nat.lor (Nat.pow 2 j) (nthN bs j)) (orBits bs l)
def hasBit (b j : Nat) : Bool := Nat.beq (Nat.mod (Nat.div b (Nat.pow 2 j)) 2) 1
/-- Every earlier operation that is not waited for names no temporary of this one. -/
def apartAll (ops : Array Oper) (o : Oper) (b : Nat) : List Oper → Nat → Bool
  | [], _ => true
  | x :: l, j => (hasBit b j || x.apart ops o) && apartAll ops o b l (Nat.succ j)
def unordered (b : Nat) : List Nat → List Nat
  | [] => []
  | j :: l => bif hasBit b j then unordered b l else j :: unordered b l
def guardOk (o : Oper) (b i : Nat) : Bool :=
  match o.guard with
  | none => true
  | some (g, _) => hasBit b g && Nat.blt g i
def looks (ops : Array Oper) (o : Oper) : List P3 := ((o.looksAt ops).filter fun t => Nat.blt t 512).map slot
def prepG (ops : Array Oper) (o : Oper) : Option (Option (P3 × Bool)) :=
  match o.guard with
  | none => some none
  | some (g, want) => match ops[g]? with
    | some og => match og.dst with
      | some d => bif Nat.blt d 512 then some (some (slot d, want)) else none
      | none => none
    | none => none
def prepD (n : Nat) (d : Option Tmp) : Option (Option P3) :=
  match d with
  | none => some none
  | some d => bif Nat.blt d n then some (some (slot d)) else none

/-- What is sliced here is set to zero later on. -/
def feeds (ops : Array Oper) (o : Oper) : Bool :=
  match o.op with
  | .slice _ _ _ _ none => match o.dst with
    | some d => ops.any fun x => match x.op with
      | .call { callee := .builtin .clear, args := as, .. } => match as.toList with
        | [.tmp t] => Nat.beq t d
        | _ => false
      | _ => false
    | none => false
  | _ => false
def prepQ (P : Program) (ops : Array Oper) (o : Oper) : Option Pop := bif feeds ops o then none else prepP P o.op
/-- None of these operations sets a temporary. -/
def noDst (ops : Array Oper) (t : Nat) : Nat → Nat → Bool
  | 0, _ => true
  | m + 1, j => (match ops[j]? with
    | some o => (match o.dst with
      | some d => !Nat.beq d t
      | none => true)
    | none => true) && noDst ops t m (Nat.succ j)
/-- The addresses of the loads that are not waited for. -/
def othersOf (ops : Array Oper) (i : Nat) : List Nat → Option (List PO)
  | [] => some []
  | j :: l => match ops[j]? with
    | some o => match o.op with
      | .load _ (.tmp t) => bif Nat.blt t 512 && noDst ops t (i - j) j then (match othersOf ops i l with
        | some r => some (.s (slot t) :: r)
        | none => none) else none
      | _ => none
    | none => none
def besideH (ops : Array Oper) (i : Nat) (hide : List Nat) (p : Hop) : Hop :=
  match p with
  | .store n x v => match hide with
    | [] => .store n x v
    | j :: l => match othersOf ops i (j :: l) with
      | some os => .storeB n x v os
      | none => .store n x v
  | p => p
/-- 'done': the operations so far; 'bs': whom each waits for; 'hs': which touch the heap. -/
def prepGo (P : Program) (n : Nat) (draw : Bool) (ops : Array Oper) (done : List Oper) (bs hs : List Nat) (i : Nat) : List Oper → Option (List PI)
  | [] => some []
  | o :: l =>
    let es := edgesOn o.after.toList
    let b := orBits bs es
    bif !draw || (allBelow i es && guardOk o b i && apartAll ops o b done 0) then
      match prepG ops o, prepD n o.dst with
      | some g, some d => match prepQ P ops o with
        | some p => bif !draw || posIn (looks ops o) p.pos then match prepGo P n draw ops (done ++ [o]) (bs ++ [b]) hs (Nat.succ i) l with
          | some r => some (⟨g, d, some p, none, []⟩ :: r)
          | none => none
          else none
        | none => match prepH P o with
          | some p => bif !draw || posIn (looks ops o) p.pos then match prepGo P n draw ops (done ++ [o]) (bs ++ [b]) (hs ++ [i]) (Nat.succ i) l with
            | some r => some (⟨g, d, none, some (bif draw then besideH ops i (unordered b hs) p else p), bif draw then unordered b hs else []⟩ :: r)
            | none => none
            else none
          | none => none
      | _, _ => none
    else none
def prep (P : Program) (n : Nat) (draw : Bool) (ops : Array Oper) : Option (List PI) := prepGo P n draw ops [] [] [] 0 ops.toList

def putEK {R : Type} (e : Env) (d : Option P3) (v : Value) (k : Env → R) : R :=
  match d with
  | some d => fV v fun v => Env.putK e d v k
  | none => k e
def wantF (e : Env) (g : Option (P3 × Bool)) : Option Bool :=
  match g with
  | none => some true
  | some (p, want) => match e.at p with
    | .bool b => some (b == want)
    | .tuple _ => some false
    | _ => none
def spanAt (sp : List (Nat × (Nat × Nat))) (j : Nat) : Nat × Nat :=
  match sp with
  | [] => (0, 0)
  | (i, s) :: l => bif Nat.beq i j then s else spanAt l j
def spansOf (sp : List (Nat × (Nat × Nat))) : List Nat → List (Nat × Nat)
  | [] => []
  | j :: l => match spanAt sp j with
    | (lo, hi) => bif Nat.blt lo hi then (lo, hi) :: spansOf sp l else spansOf sp l
def anyIn (l : List Nat) : List Nat → Bool
  | [] => false
  | j :: m => l.any (Nat.beq j) || anyIn l m

section
variable (call : Caller)

/-- One operation on the heap in a region: what it yields, the heap, its span, and whether it wrote to what was there. -/
def stepH (e : Env) (h : AH) (sp : List (Nat × (Nat × Nat))) (wr : List Nat) (hide : List Nat) (p : Hop) : Option (Value × AH × Bool) :=
  match runH call e ⟨h.tr, h.next, h.next, spansOf sp hide ++ h.hid, h.fams⟩ p with
  | none => none
  | some (v, h') => match h' with
    | ⟨tr, next, low, _, fams⟩ =>
      let w := Nat.blt low h.next
      bif (w && !hide.isEmpty && !p.isB) || anyIn wr hide then none
      else some (v, ⟨tr, next, bif Nat.blt h.low low then h.low else low, h.hid, fams⟩, w)

def regGo : List PI → (i : Nat) → Env → AH → List (Nat × (Nat × Nat)) → List Nat → Option (Env × AH)
  | [], _, e, h, _, _ => some (e, h)
  | p :: l, i, e, h, sp, wr => match p with
    | ⟨g, d, pop, hop, hide⟩ => match wantF e g with
      | none => none
      | some false => putEK e d undef fun e => regGo l (Nat.succ i) e h sp wr
      | some true => match pop with
        | some p => match runP e p with
          | none => none
          | some v => putEK e d v fun e => regGo l (Nat.succ i) e h sp wr
        | none => match hop with
          | none => none
          | some p => match stepH call e h sp wr hide p with
            | none => none
            | some (v, h', w) => putEK e d v fun e => regGo l (Nat.succ i) e h' ((i, (h.next, h'.next)) :: sp) (bif w then i :: wr else wr)
end

/-! ## Code -/
inductive PC where
  | skip
  | reg (l : List PI)
  | seq (a b : PC)
  | cond (c : PO) (a b : PC)
  | block (id : Nat) (b : PC)
  | loop (b : PC)
  | exit (id : Nat)
  | ret

def prepC (P : Program) (n : Nat) : Code → Option PC
  | .skip => some .skip
  | .region _ ops draw => (prep P n draw ops).map .reg
  | .seq a b => match prepC P n a, prepC P n b with
    | some a, some b => some (.seq a b)
    | _, _ => none
  | .cond c a b => match prepO c, prepC P n a, prepC P n b with
    | some c, some a, some b => some (.cond c a b)
    | _, _, _ => none
  | .block id b => (prepC P n b).map (.block id)
  | .loop b => (prepC P n b).map .loop
  | .exit id => some (.exit id)
  | .label _ => some .skip
  | .scope b => prepC P n b
  | .ret => some .ret
  | _ => none

inductive Out where
  | normal
  | exit (id : Nat)
  | ret

def loopN (body : Env → AH → Option (Out × Env × AH)) : Nat → Env → AH → Option (Out × Env × AH)
  | 0, _, _ => none
  | n + 1, e, h => match body e h with
    | some (.normal, e, h) => loopN body n e h
    | r => r

def evC (call : Caller) (fuel : Nat) : PC → Env → AH → Option (Out × Env × AH)
  | .skip, e, h => some (.normal, e, h)
  | .reg l, e, h => match regGo call l 0 e h [] [] with
    | some (e, h) => some (.normal, e, h)
    | none => none
  | .seq a b, e, h => match evC call fuel a e h with
    | some (.normal, e, h) => evC call fuel b e h
    | r => r
  | .cond c a b, e, h => match ev e c with
    | .bool t => bif t then evC call fuel a e h else evC call fuel b e h
    | _ => none
  | .block id b, e, h => match evC call fuel b e h with
    | some (.exit j, e, h) => bif Nat.beq j id then some (.normal, e, h) else some (.exit j, e, h)
    | r => r
  | .loop b, e, h => loopN (evC call fuel b) fuel e h
  | .exit id, e, h => some (.exit id, e, h)
  | .ret, e, h => some (.ret, e, h)

/-! ## Functions -/
inductive PR where
  | tmp (p : P3)
  | cell (p : P3) (n : Option Nat)
structure PF where
  code : PC
  res : List PR
def prepR (P : Program) : List ResultVar → Option (List PR)
  | [] => some []
  | r :: l => match prepR P l with
    | none => none
    | some rs => match r with
      | .tmp t => bif Nat.blt t 512 then some (.tmp (slot t) :: rs) else none
      | .cell a t => match aggOf P t with
        | some n => bif Nat.blt a 512 then some (.cell (slot a) n :: rs) else none
        | none => none
def prepF (P : Program) (f : FuncId) : Option PF :=
  match P.funcs[f]? with
  | none => none
  | some fn => match fn.body with
    | none => none
    | some c => bif fn.name == "runtime.NumGoroutine" || Nat.blt 512 fn.ntmps then none else match prepC P fn.ntmps c, prepR P fn.results.toList with
      | some c, some r => some ⟨c, r⟩
      | _, _ => none

def resF (h : AH) (e : Env) : List PR → Option (List Value)
  | [] => some []
  | r :: l => match resF h e l with
    | none => none
    | some vs => match r with
      | .tmp p => some (e.at p :: vs)
      | .cell p n => match loadF n h (e.at p) with
        | some v => some (v :: vs)
        | none => none
def oneOf : List Value → Value
  | [] => .tuple #[]
  | v :: l => match l with
    | [] => v
    | l => .tuple (v :: l).toArray

def evF (P : Program) (X : Caller) (fuel : Nat) : Nat → Caller
  | 0, _, _, _ => none
  | d + 1, f, args, h => match X f args h with
    | some r => some r
    | none => match prepF P f with
      | none => none
      | some ⟨c, rs⟩ => bif Nat.ble (lenN args) 512 then match evC (evF P X fuel d) fuel c (Env.fill Env.none 0 args) h with
        | some (.exit _, _, _) => none
        | some (_, e, h) => match resF h e rs with
          | some l => some (oneOf l, h)
          | none => none
        | none => none
        else none
end Go.Ds
