import Derived.Test.YtngmaccaldhjcaaDoorDtJ
set_option linter.all false
set_option linter.unusedSimpArgs false
set_option linter.unnecessarySimpa false
set_option linter.unusedVariables false
set_option linter.unusedSectionVars false
set_option linter.unusedSectionVars false
set_option linter.unusedVariables false
namespace Go.Ds
/-! ## The set of the walk -/
def loadK (n : Option Nat) (cells : List Value) (off : Nat) : Option Value :=
  match n with
  | some n => (known (takeN n (dropN off cells))).map fun l => .agg l.toArray
  | none => match known (takeN 1 (dropN off cells)) with
    | some [v] => some v
    | _ => none
def obLoad (n : Option Nat) (o : Ob) (off : Nat) : Option Value :=
  match o with
  | ⟨1, cells, _, _, _, _, _, _, _⟩ => match n with
    | none => cells[off]?
    | some n => if n ≤ cells.length - off then some (.agg ((cells.drop off).take n).toArray) else none
  | ⟨4, cells, _, _, _, _, _, _, _⟩ => loadK n cells off
  | _ => none
theorem load_eq (n : Option Nat) (g : GH) (j off lo : Nat) : loadF n (g.at lo) (.pointer (some ⟨j, off, none⟩)) = obLoad n (g.get j) off := by
  have hr : ∀ m, readN (g.at lo) ⟨j, off, none⟩ m = match g.get j with
      | ⟨1, cells, _, _, _, _, _, _, _⟩ => takeN m (dropN off cells)
      | ⟨4, cells, _, _, _, _, _, _, _⟩ => known (takeN m (dropN off cells))
      | _ => none := fun m => rfl
  have tk : ∀ (m : Nat) (l : List Value), takeN m l = if m ≤ l.length then some (l.take m) else none := by
    intro m
    induction m with
    | zero => intro l; simp [takeN]
    | succ m ih =>
      intro l
      cases l with
      | nil => simp [takeN]
      | cons x l =>
        simp only [takeN, ih, List.length_cons, List.take_succ_cons]
        by_cases c : m ≤ l.length
        · rw [if_pos c, if_pos (by omega)]
        · rw [if_neg c, if_neg (by omega)]
  unfold loadF obLoad
  simp only [hr]
  generalize g.get j = o
  obtain ⟨kd, cells, el, fam, slack, es, cl, st, po⟩ := o
  match kd with
  | 0 => cases n <;> rfl
  | 2 => cases n <;> rfl
  | 3 => cases n <;> rfl
  | 4 => cases n <;> rfl
  | k + 5 => cases n <;> rfl
  | 1 =>
    simp only [dropN_drop, tk, List.length_drop]
    cases n with
    | none =>
      simp only
      by_cases c : off < cells.length
      · rw [if_pos (by omega), List.drop_eq_getElem_cons c, List.getElem?_eq_getElem c]
        rfl
      · rw [if_neg (by omega), List.getElem?_eq_none (by omega)]
    | some n =>
      simp only
      by_cases c : n ≤ cells.length - off
      · rw [if_pos c, if_pos c]; rfl
      · rw [if_neg c, if_neg c]; rfl
theorem ob_one (cells : List Value) (t : TypeId) (fam : Nat) (sl : Bool) (es : List MapEntry) (c : Nat) (s : ByteArray) (p off : Nat) : obLoad none ⟨1, cells, t, fam, sl, es, c, s, p⟩ off = cells[off]? := rfl
theorem ob_agg (n : Nat) (cells : List Value) (t : TypeId) (fam : Nat) (sl : Bool) (es : List MapEntry) (c : Nat) (s : ByteArray) (p off : Nat) : obLoad (some n) ⟨1, cells, t, fam, sl, es, c, s, p⟩ off = if n ≤ cells.length - off then some (.agg ((cells.drop off).take n).toArray) else none := rfl
theorem ob_c1 (cells : List Value) (t : TypeId) (off : Nat) : obLoad none (cellsOb cells t) off = cells[off]? := rfl
theorem ob_cn (n : Nat) (cells : List Value) (t : TypeId) (off : Nat) : obLoad (some n) (cellsOb cells t) off = if n ≤ cells.length - off then some (.agg ((cells.drop off).take n).toArray) else none := rfl
theorem ob_s1 (cells : List Value) (t : TypeId) (f off : Nat) : obLoad none (slackOb cells t f) off = cells[off]? := rfl
theorem ob_sn (n : Nat) (cells : List Value) (t : TypeId) (f off : Nat) : obLoad (some n) (slackOb cells t f) off = if n ≤ cells.length - off then some (.agg ((cells.drop off).take n).toArray) else none := rfl
theorem rP_move (e : Env) (x : PO) : runP e (.move x) = some (ev e x) := Eq.trans rfl rfl
theorem rP_pick (e : Env) (c : PO) (a : PO) (b : PO) : runP e (.pick c a b) = pickF (ev e c) (ev e a) (ev e b) := Eq.trans rfl rfl
theorem rP_bin (e : Env) (op : BinOp) (x : PO) (y : PO) : runP e (.bin op x y) = binF op (ev e x) (ev e y) := Eq.trans rfl rfl
theorem rP_eqB (e : Env) (g : Bool) (x : PO) (y : PO) : runP e (.eqB g x y) = eqBF g (ev e x) (ev e y) := Eq.trans rfl rfl
theorem rP_eqA (e : Env) (g : Bool) (n : Nat) (x : PO) (y : PO) : runP e (.eqA g n x y) = eqAF g n (ev e x) (ev e y) := Eq.trans rfl rfl
theorem rP_eqS (e : Env) (g : Bool) (x : PO) : runP e (.eqS g x) = eqSF g (ev e x) := Eq.trans rfl rfl
theorem eqS_t (g : Bool) (l c : Nat) : eqSF g (.slice none l c) = some (.bool (!g)) := by cases g <;> rfl
theorem eqS_f (g : Bool) (a : Addr) (l c : Nat) : eqSF g (.slice (some a) l c) = some (.bool g) := by cases g <;> rfl
theorem rP_un (e : Env) (op : UnOp) (x : PO) : runP e (.un op x) = unF op (ev e x) := Eq.trans rfl rfl
theorem rP_conv (e : Env) (k : IntKind) (x : PO) : runP e (.conv k x) = convF k (ev e x) := Eq.trans rfl rfl
theorem rP_sconv (e : Env) (x : PO) : runP e (.sconv x) = sconvF (ev e x) := Eq.trans rfl rfl
theorem rP_build (e : Env) (p : List (Nat × Nat)) (s : Option Nat) (z : Array Value) (l : List (Nat × PO)) : runP e (.build p s z l) = buildF p s z (evParts e l) := Eq.trans rfl rfl
theorem rP_nilc (e : Env) (x : PO) : runP e (.nilc x) = nilcF (ev e x) := Eq.trans rfl rfl
theorem rP_mkf (e : Env) (f : FuncId) (a : List PO) (b : List PO) : runP e (.mkf f a b) = some (.func (.func f) (evs e a).toArray (evs e b).toArray) := Eq.trans rfl rfl
theorem rP_slcS (e : Env) (x : PO) (lo : Option PO) (hi : Option PO) : runP e (.slcS x lo hi) = slcSF (ev e x) (evOpt e lo) (evOpt e hi) := Eq.trans rfl rfl
theorem rP_slcL (e : Env) (sz : Nat) (x : PO) (lo : Option PO) (hi : Option PO) : runP e (.slcL sz x lo hi) = slcLF sz (ev e x) (evOpt e lo) (evOpt e hi) := Eq.trans rfl rfl
theorem rP_slcA (e : Env) (n : Nat) (sz : Nat) (x : PO) (lo : Option PO) (hi : Option PO) : runP e (.slcA n sz x lo hi) = slcAF n sz (ev e x) (evOpt e lo) (evOpt e hi) := Eq.trans rfl rfl
theorem rP_slcM (e : Env) (sz : Nat) (x : PO) (lo : Option PO) (hi mx : PO) : runP e (.slcM sz x lo hi mx) = slcMF sz (ev e x) (evOpt e lo) (ev e hi) (ev e mx) := Eq.trans rfl rfl
theorem rP_faddr (e : Env) (off : Nat) (x : PO) : runP e (.faddr off x) = faddrF off (ev e x) := Eq.trans rfl rfl
theorem rP_fld (e : Env) (n : Option Nat) (off : Nat) (x : PO) : runP e (.fld n off x) = fldF n off (ev e x) := Eq.trans rfl rfl
theorem rP_iaddrA (e : Env) (n : Nat) (sz : Nat) (x : PO) (i : PO) : runP e (.iaddrA n sz x i) = iaddrAF n sz (ev e x) (ev e i) := Eq.trans rfl rfl
theorem rP_iaddrS (e : Env) (sz : Nat) (x : PO) (i : PO) : runP e (.iaddrS sz x i) = iaddrSF sz (ev e x) (ev e i) := Eq.trans rfl rfl
theorem rP_idxA (e : Env) (n : Nat) (sz : Nat) (g : Bool) (x : PO) (i : PO) : runP e (.idxA n sz g x i) = idxAF n sz g (ev e x) (ev e i) := Eq.trans rfl rfl
theorem rP_idxS (e : Env) (x : PO) (i : PO) : runP e (.idxS x i) = idxSF (ev e x) (ev e i) := Eq.trans rfl rfl
theorem rP_ext (e : Env) (x : PO) (i : Nat) : runP e (.ext x i) = extF (ev e x) i := Eq.trans rfl rfl
theorem rP_lenS (e : Env) (x : PO) : runP e (.lenS x) = lenSF (ev e x) := Eq.trans rfl rfl
theorem rP_lenL (e : Env) (x : PO) : runP e (.lenL x) = lenLF (ev e x) := Eq.trans rfl rfl
theorem rP_lenC (e : Env) (n : Nat) : runP e (.lenC n) = some (.int .i64 (.ofNat n)) := Eq.trans rfl rfl
theorem rP_mx (e : Env) (x : PO) (y : PO) : runP e (.mx x y) = mxF (ev e x) (ev e y) := Eq.trans rfl rfl
theorem rP_mn (e : Env) (x : PO) (y : PO) : runP e (.mn x y) = mnF (ev e x) (ev e y) := Eq.trans rfl rfl
theorem rP_mx3 (e : Env) (x y z : PO) : runP e (.mx3 x y z) = mx3F (ev e x) (ev e y) (ev e z) := Eq.trans rfl rfl
theorem rP_mn3 (e : Env) (x y z : PO) : runP e (.mn3 x y z) = mn3F (ev e x) (ev e y) (ev e z) := Eq.trans rfl rfl
theorem ib_add (k : IntKind) (a b : Int) : intB .add k a b = some (.int k (wrapF k (a + b))) := Eq.trans rfl rfl
theorem ib_sub (k : IntKind) (a b : Int) : intB .sub k a b = some (.int k (wrapF k (a - b))) := Eq.trans rfl rfl
theorem ib_mul (k : IntKind) (a b : Int) : intB .mul k a b = some (.int k (wrapF k (a * b))) := Eq.trans rfl rfl
theorem ib_quo {k : IntKind} {a b : Int} (h : ¬ b = 0) : intB .quo k a b = some (.int k (wrapF k (a.tdiv b))) := by
  show (bif ieq b (.ofNat 0) then none else _) = _
  rw [eq_i, ofNat0, dec_f h]; rfl
theorem ib_rem {k : IntKind} {a b : Int} (h : ¬ b = 0) : intB .rem k a b = some (.int k (a.tmod b)) := by
  show (bif ieq b (.ofNat 0) then none else _) = _
  rw [eq_i, ofNat0, dec_f h]; rfl
theorem ib_and (k : IntKind) (a b : Int) : intB .and k a b = some (.int k (k.wrap ((BitVec.ofInt k.bits a) &&& (BitVec.ofInt k.bits b)).toNat)) := Eq.trans rfl rfl
theorem ib_or (k : IntKind) (a b : Int) : intB .or k a b = some (.int k (k.wrap ((BitVec.ofInt k.bits a) ||| (BitVec.ofInt k.bits b)).toNat)) := Eq.trans rfl rfl
theorem ib_xor (k : IntKind) (a b : Int) : intB .xor k a b = some (.int k (k.wrap ((BitVec.ofInt k.bits a) ^^^ (BitVec.ofInt k.bits b)).toNat)) := Eq.trans rfl rfl
theorem ib_andNot (k : IntKind) (a b : Int) : intB .andNot k a b = some (.int k (k.wrap ((BitVec.ofInt k.bits a) &&& ~~~(BitVec.ofInt k.bits b)).toNat)) := Eq.trans rfl rfl
theorem ib_eql (k : IntKind) (a b : Int) : intB .eql k a b = some (.bool (decide (a = b))) := by rw [← eq_i]; rfl
theorem ib_neq (k : IntKind) (a b : Int) : intB .neq k a b = some (.bool (!decide (a = b))) := by rw [← eq_i]; rfl
theorem ib_lss (k : IntKind) (a b : Int) : intB .lss k a b = some (.bool (decide (a < b))) := by rw [← lt_i]; rfl
theorem ib_leq (k : IntKind) (a b : Int) : intB .leq k a b = some (.bool (decide (a ≤ b))) := by rw [← le_i]; rfl
theorem ib_gtr (k : IntKind) (a b : Int) : intB .gtr k a b = some (.bool (decide (b < a))) := by rw [← lt_i]; rfl
theorem ib_geq (k : IntKind) (a b : Int) : intB .geq k a b = some (.bool (decide (b ≤ a))) := by rw [← le_i]; rfl
theorem ib_shl {k : IntKind} {a b : Int} (h : ¬ b < 0) : intB .shl k a b = some (.int k (wrapF k (a * .ofNat (Nat.pow 2 (min b.toNat k.bits))))) := by
  show (bif ilt b (.ofNat 0) then none else _) = _
  rw [lt_i, ofNat0, dec_f h]; rfl
theorem ib_shr {k : IntKind} {a b : Int} (h : ¬ b < 0) : intB .shr k a b = some (.int k (a.fdiv (.ofNat (Nat.pow 2 (min b.toNat k.bits))))) := by
  show (bif ilt b (.ofNat 0) then none else _) = _
  rw [lt_i, ofNat0, dec_f h]; rfl
theorem btf : (true == false) = false := Eq.trans rfl rfl
theorem bft : (false == true) = false := Eq.trans rfl rfl
theorem spl_s (n : Nat) (a : Value) (l m : List Value) : splice (n + 1) (a :: l) m = a :: splice n l m := Eq.trans rfl rfl
theorem spl_1 (a b : Value) (l : List Value) : splice 0 (a :: l) [b] = b :: l := Eq.trans rfl rfl
theorem spl_2 (a b c d : Value) (l : List Value) : splice 0 (a :: b :: l) [c, d] = c :: d :: l := Eq.trans rfl rfl
theorem spl_3 (a b x c d y : Value) (l : List Value) : splice 0 (a :: b :: x :: l) [c, d, y] = c :: d :: y :: l := Eq.trans rfl rfl
theorem spl_4 (a b x z c d y u : Value) (l : List Value) : splice 0 (a :: b :: x :: z :: l) [c, d, y, u] = c :: d :: y :: u :: l := Eq.trans rfl rfl
theorem ev_c1 (e : Env) (v : Value) : ev e (.c v) = v := Eq.trans rfl rfl
theorem evs_n1 (e : Env) : evs e [] = [] := Eq.trans rfl rfl
theorem evs_c1 (e : Env) (o : PO) (l : List PO) : evs e (o :: l) = ev e o :: evs e l := Eq.trans rfl rfl
theorem evo_n (e : Env) : evOpt e none = none := Eq.trans rfl rfl
theorem evo_s (e : Env) (o : PO) : evOpt e (some o) = some (ev e o) := Eq.trans rfl rfl
attribute [go_sem low] load_eq
attribute [go_sem] ob_one ob_agg ob_c1 ob_cn ob_s1 ob_sn List.length_cons List.length_nil
attribute [go_sem] rP_move rP_pick rP_bin rP_eqB rP_eqA rP_eqS eqS_t eqS_f rP_un rP_conv rP_sconv rP_build rP_nilc rP_mkf rP_slcS rP_slcL rP_slcA rP_slcM rP_faddr rP_fld rP_iaddrA rP_iaddrS rP_idxA rP_idxS rP_ext rP_lenS rP_lenL rP_lenC rP_mx rP_mn rP_mx3 rP_mn3 ib_add ib_sub ib_mul ib_quo ib_rem ib_and ib_or ib_xor ib_andNot ib_eql ib_neq ib_lss ib_leq ib_gtr ib_geq ib_shl ib_shr ev_c1 evs_n1 evs_c1 evo_n evo_s ev_put ev_none parts_nil parts_cons bin_i64 bin_u64 bin_u8 bin_i32 bin_u16 bin_str lt_i le_i eq_i wr64 Nat.succ_eq_add_one Nat.add_zero Nat.zero_mul decide_true decide_false dec_t dec_f fill1 nilcF List.drop_zero List.take_succ_cons List.take_zero List.take_nil List.drop_succ_cons faddrF Nat.add_right_cancel_iff beq_self_eq_true ofNat0 List.append_nil List.toList_toArray build2 GH.push_next GH.set_next Int.zero_add Int.add_zero Bool.not_true Bool.not_false Bool.true_and Bool.and_true Bool.false_and Bool.and_false cond_true cond_false unF eqBF pickF lenL_slice lenS_str ptrTo Addr.add nat_i asNat_nat Nat.zero_add GH.get_push GH.ok_push cellsOf blt_d ble_d beq_d Nat.mul_one Nat.one_mul decide_eq_true_eq decide_not Bool.not_eq_true ne_eq not_false_eq_true not_true_eq_false List.getElem?_cons_zero List.getElem?_cons_succ Option.some.injEq Nat.one_ne_zero Nat.left_eq_add Nat.add_eq_left Nat.add_left_cancel_iff ite_true ite_false
attribute [go_sem] spl_s spl_1 spl_2 spl_3 spl_4 btf bft bsl0 bsl1 bsl2 bsl3 bsl4 and_true true_and Int.natCast_zero Int.natCast_add Int.natCast_one and_self cellV_bool cellV_int cellV_str cellV_slc fill_nil fill_cons List.all_cons List.all_nil
end Go.Ds
