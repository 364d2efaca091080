import Derived.Test.YtnpapnpedcbfnaaDoorDtG
import Derived.Test.YtnpapnpedcbfnaaDoorDtO
import Derived.Test.YtnpapnpedcbfnaaDoorKc
import Derived.Test.YtnpapnpedcbfnaaDoorVm
import Derived.Test.YtnpapnpedcbfnaaDoorKt
set_option linter.all false
set_option linter.unusedSimpArgs false
set_option linter.unnecessarySimpa false
set_option linter.unusedVariables false
set_option linter.unusedSectionVars false
set_option maxRecDepth 100000
set_option maxHeartbeats 4000000
set_option linter.unusedSimpArgs false
set_option linter.unusedVariables false
namespace Go.Proofs.YtnpapnpedcbfnaaDoor
open Go.Ds Go.Vs
def ints (D : List Int) : List Value := D.map (Value.int .i64)
theorem ints_get {D : List Int} {i : Nat} (h : i < D.length) : (ints D)[i]? = some (.int .i64 (D.getD i 0)) := by
  simp [ints, h]
theorem ints_len (D : List Int) : (ints D).length = D.length := by simp [ints]
theorem ints_app (D E : List Int) : ints (D ++ E) = ints D ++ ints E := by simp [ints]
theorem ints_cell (D : List Int) : (ints D).all cellV = true := by simp [ints, cellV]
theorem ints_set (O : List Int) (n : Nat) (x : Int) : (ints O).set n (.int .i64 x) = ints (O.set n x) := by simp [ints, List.map_set]
theorem getD_get {α : Type} (d : α) {D : List α} {i : Nat} (h : i < D.length) : D[i]? = some (D.getD i d) := by simp [h]
/-! ## Shops -/
def bitI (x : Int) (k : Nat) : Bool := decide ((x / 2 ^ k) % 2 = 1)
def setF (L : List Int) (i : Nat) : Nat := (L.getD i 0).toNat
def okI (L : List Int) (i : Nat) : Bool := decide (0 ≤ L.getD i 0) && decide (L.getD i 0 < 2 ^ L.length) && !bitI (L.getD i 0) i
def symI (L : List Int) (i : Nat) : Bool := (List.range L.length).all fun k => bitI (L.getD i 0) k == bitI (L.getD k 0) i
def shopB (L : List Int) : Bool := decide (1 ≤ L.length) && decide (L.length ≤ 10) && ((List.range L.length).all (okI L) && (List.range L.length).all (symI L))
def posB (L : List Int) (v l : Int) : Bool := decide (0 ≤ v) && decide (v < 2 ^ L.length) && decide (0 ≤ l) && decide (l < L.length) && bitI v l.toNat
def eArg : Value := .int .i64 2
def winsV (L : List Int) (v l : Int) : Value := if shopB L && posB L v l then .tuple #[.bool (won (setF L) L.length v.toNat l.toNat), .int .i64 0] else .tuple #[.bool false, eArg]
def ePlan : Int := 10
def mvV (L : List Int) (v l : Int) : Value := if shopB L && posB L v l then (match Go.Vs.move (setF L) L.length v.toNat l.toNat with
  | some k => .tuple #[.int .i64 (k : Int), .int .i64 0]
  | none => .tuple #[.int .i64 0, .int .i64 ePlan]) else .tuple #[.int .i64 0, eArg]
/-- The hats with which the one who begins wins. -/
def begF (A : Nat → Nat) (n : Nat) : Nat → Nat
  | 0 => 0
  | i + 1 => if won A n (2 ^ i) i = true then begF A n i else begF A n i ||| 2 ^ i
def stV (L : List Int) : Value := if shopB L then .tuple #[.int .i64 (begF (setF L) L.length L.length : Nat), .int .i64 0] else .tuple #[.int .i64 0, eArg]
/-- The table of trailing zeros lies at the beginning. -/
def isU8 (n : Nat) : Value → Bool
  | .int .u8 (.ofNat m) => Nat.beq m n
  | _ => false
def tabOk (o : Ob) : Bool :=
  match o with
  | ⟨kd, cells, _, _, _, _, _, _, po⟩ => Nat.beq kd 4 && Nat.beq po 2 && (List.range 10).all fun k => match cells[tzIx k]? with
    | some v => isU8 k v
    | none => false
def HasTab (g : GH) : Prop := 0 < g.next ∧ tabOk (g.get 0) = true
theorem HasTab.kept {g g' : GH} (h : HasTab g) (k : Kept g g') : HasTab g' := ⟨Nat.lt_of_lt_of_le h.1 k.next, by rw [k.gets 0 h.1]; exact h.2⟩
theorem HasTab.ext {g g' : GH} (h : HasTab g) (k : GExt g g' g.next) : HasTab g' := h.kept k.kept
structure Xfr (X : Caller) : Prop where
  pres : ∀ i, @CallPres i X
  free : ∀ f, (f ≠ 67 ∧ f ≠ 27 ∧ f ≠ 29 ∧ f ≠ 31 ∧ f ≠ 16) → ∀ l h, X f l h = none
structure Xok (X : Caller) : Prop extends Xfr X where
  alive : ∀ g : GH, HasTab g → Rets Tryd.prog X 16 [] g (fun v g' lo => g.next ≤ lo ∧ v = .bool true)
  tz : ∀ (g : GH) (x : Nat), HasTab g → 1 ≤ x → x < 1024 → Rets Tryd.prog X 67 [.int .u64 (x : Int)] g (fun v g' lo => g.next ≤ lo ∧ v = .int .i64 (low x : Nat))
  wins : ∀ (g : GH) (s : Value) (L : List Int) (v l : Int), L ≠ [] → L.length ≤ 40 → SlR g s (ints L) → Rets Tryd.prog X 29 [s, .int .i64 v, .int .i64 l] g (fun u g' lo => g.next ≤ lo ∧ u = winsV L v l)
  move : ∀ (g : GH) (s : Value) (L : List Int) (v l : Int), L ≠ [] → L.length ≤ 40 → SlR g s (ints L) → Rets Tryd.prog X 31 [s, .int .i64 v, .int .i64 l] g (fun u g' lo => g.next ≤ lo ∧ u = mvV L v l)
  starts : ∀ (g : GH) (s : Value) (L : List Int), L ≠ [] → L.length ≤ 40 → SlR g s (ints L) → Rets Tryd.prog X 27 [s] g (fun u g' lo => g.next ≤ lo ∧ u = stV L)
/-! ## Bits -/
theorem shr_fact (x : Int) (k : Nat) (hk : k ≤ 60) : x.fdiv (Int.ofNat (Nat.pow 2 (min (k : Int).toNat 64))) = x / 2 ^ k := by
  have h1 : min (k : Int).toNat 64 = k := by omega
  rw [h1]
  have h2 : (Int.ofNat (Nat.pow 2 k)) = (2 : Int) ^ k := by
    show ((2 ^ k : Nat) : Int) = _
    simp
  rw [h2, Int.fdiv_eq_ediv_of_nonneg]
  exact Int.le_of_lt (Int.pow_pos (by decide))
theorem and1 (y : Int) : intB .and .i64 y 1 = some (.int .i64 (y % 2)) := by
  rw [ib_and]
  have h : ((BitVec.ofInt 64 y) &&& (BitVec.ofInt 64 1)).toNat = (y % 2).toNat := by
    have e : (BitVec.ofInt 64 1).toNat = 1 := rfl
    rw [BitVec.toNat_and, e, Nat.and_one_is_mod, BitVec.toNat_ofInt]
    omega
  show some (Value.int .i64 (IntKind.i64.wrap ((BitVec.ofInt 64 y) &&& (BitVec.ofInt 64 1)).toNat)) = _
  rw [h, wrap_nat (by omega)]
  congr 2
  omega
theorem or_i {a b : Nat} (ha : a < 9223372036854775808) (hb : b < 9223372036854775808) : intB .or .i64 (a : Int) (b : Int) = some (.int .i64 ((a ||| b : Nat) : Int)) := by
  rw [ib_or]; exact congrArg (fun z => some (Value.int .i64 z)) (or64 ha hb)
theorem and_i {a b : Nat} (ha : a < 9223372036854775808) (hb : b < 9223372036854775808) : intB .and .i64 (a : Int) (b : Int) = some (.int .i64 ((a &&& b : Nat) : Int)) := by
  rw [ib_and]; exact congrArg (fun z => some (Value.int .i64 z)) (and64 ha hb)
theorem andn_i {a b : Nat} (ha : a < 9223372036854775808) (hb : b < 9223372036854775808) : intB .andNot .i64 (a : Int) (b : Int) = some (.int .i64 ((andn a b : Nat) : Int)) := by
  rw [ib_andNot]; exact congrArg (fun z => some (Value.int .i64 z)) (andn64 ha hb)
theorem shl_i {k : Nat} (hk : k < 62) : intB .shl .i64 1 (k : Int) = some (.int .i64 ((2 ^ k : Nat) : Int)) := by
  rw [ib_shl (by omega)]
  have h1 : min (k : Int).toNat IntKind.i64.bits = k := by
    show min (k : Int).toNat 64 = k
    omega
  rw [h1]
  have h2 := two_lt hk
  have e : (1 * Int.ofNat (Nat.pow 2 k)) = ((2 ^ k : Nat) : Int) := by
    show (1 * ((2 ^ k : Nat) : Int)) = _
    rw [Int.one_mul]
  rw [e, wr64 (by generalize 2 ^ k = t at *; omega) (by generalize 2 ^ k = t at *; omega)]
theorem bitI_nat (x k : Nat) : bitI (x : Int) k = x.testBit k := by
  unfold bitI
  rw [Nat.testBit_eq_decide_div_mod_eq]
  have : ((x : Int) / 2 ^ k) % 2 = ((x / 2 ^ k % 2 : Nat) : Int) := by simp
  rw [this]
  exact decide_eq_decide.2 (by omega)
/-- has -/
theorem has_rets {X : Caller} (hX : Xfr X) (x : Int) (k : Nat) (hk : k ≤ 60) (g : GH) : Rets Tryd.prog X 45 [.int .i64 x, .int .i64 (k : Int)] g (fun v g' lo => g.next ≤ lo ∧ v = .bool (bitI x k)) := by
  have h1 := shr_fact x k hk
  have h2 := and1 (x / 2 ^ k)
  have h3 : ¬ (k : Int) < 0 := by omega
  unfold bitI
  refine Rets.run hX.pres p45 (hX.free 45 (by decide) _ _) rfl fun ho => ?_
  simp +decide (disch := first | assumption | exact cellV_int _ _ | exact cellV_bool _ | omega | (simp only [GH.pn, GH.sn] <;> omega) | (with_reducible ((repeat (first | apply GH.ok_push | apply GH.ok_set)); assumption)) | ((try simp only [GH.push_hid, GH.set_hid]); first | assumption | (refine GH.vis ?_ ?_ <;> first | assumption | ((try simp only [GH.pn, GH.sn]) <;> omega)))) only [go_sem, ↓reduceIte, Nat.reduceEqDiff, Nat.reduceAdd, Int.reduceToNat, Int.reduceAdd, Int.reduceNeg, Int.reduceSub, Int.reduceMul, Int.reduceLT, Int.reduceLE, Int.reduceEq, ↓GH.gp_eq, ↓GH.gp_ne, ↓GH.gs_eq, ↓GH.gs_ne, GH.push_next, GH.set_next, ib_shr h3, h1, h2]
  intro hx0
  exact ⟨by omega, rfl⟩
end Go.Proofs.YtnpapnpedcbfnaaDoor
set_option maxRecDepth 100000
set_option maxHeartbeats 4000000
set_option linter.unusedSimpArgs false
set_option linter.unusedVariables false
namespace Go.Proofs.YtnpapnpedcbfnaaDoor
open Go.Ds Go.Vs
theorem with_rets {X : Caller} (hX : Xfr X) (x k : Nat) (hx : x < 1024) (hk : k ≤ 20) (g : GH) : Rets Tryd.prog X 53 [.int .i64 (x : Int), .int .i64 (k : Int)] g (fun v g' lo => g.next ≤ lo ∧ v = .int .i64 ((x ||| 2 ^ k : Nat) : Int)) := by
  have h1 := shl_i (k := k) (by omega)
  have h3 := two_lt (k := k) (by omega)
  have h2 := or_i (a := x) (b := 2 ^ k) (by omega) (by omega)
  refine Rets.run hX.pres p53 (hX.free 53 (by decide) _ _) rfl fun ho => ?_
  simp +decide (disch := first | assumption | exact cellV_int _ _ | exact cellV_bool _ | omega | (simp only [GH.pn, GH.sn] <;> omega) | (with_reducible ((repeat (first | apply GH.ok_push | apply GH.ok_set)); assumption)) | ((try simp only [GH.push_hid, GH.set_hid]); first | assumption | (refine GH.vis ?_ ?_ <;> first | assumption | ((try simp only [GH.pn, GH.sn]) <;> omega)))) only [go_sem, ↓reduceIte, Nat.reduceEqDiff, Nat.reduceAdd, Int.reduceToNat, Int.reduceAdd, Int.reduceNeg, Int.reduceSub, Int.reduceMul, Int.reduceLT, Int.reduceLE, Int.reduceEq, ↓GH.gp_eq, ↓GH.gp_ne, ↓GH.gs_eq, ↓GH.gs_ne, GH.push_next, GH.set_next, h1, h2]
  intro hx0
  exact ⟨by omega, rfl⟩
theorem without_rets {X : Caller} (hX : Xfr X) (x k : Nat) (hx : x < 1024) (hk : k ≤ 20) (g : GH) : Rets Tryd.prog X 52 [.int .i64 (x : Int), .int .i64 (k : Int)] g (fun v g' lo => g.next ≤ lo ∧ v = .int .i64 (del x k : Nat)) := by
  have h1 := shl_i (k := k) (by omega)
  have h3 := two_lt (k := k) (by omega)
  have h2 := andn_i (a := x) (b := 2 ^ k) (by omega) (by omega)
  rw [andn_del (by omega) (by omega)] at h2
  refine Rets.run hX.pres p52 (hX.free 52 (by decide) _ _) rfl fun ho => ?_
  simp +decide (disch := first | assumption | exact cellV_int _ _ | exact cellV_bool _ | omega | (simp only [GH.pn, GH.sn] <;> omega) | (with_reducible ((repeat (first | apply GH.ok_push | apply GH.ok_set)); assumption)) | ((try simp only [GH.push_hid, GH.set_hid]); first | assumption | (refine GH.vis ?_ ?_ <;> first | assumption | ((try simp only [GH.pn, GH.sn]) <;> omega)))) only [go_sem, ↓reduceIte, Nat.reduceEqDiff, Nat.reduceAdd, Int.reduceToNat, Int.reduceAdd, Int.reduceNeg, Int.reduceSub, Int.reduceMul, Int.reduceLT, Int.reduceLE, Int.reduceEq, ↓GH.gp_eq, ↓GH.gp_ne, ↓GH.gs_eq, ↓GH.gs_ne, GH.push_next, GH.set_next, h1, h2]
  intro hx0
  exact ⟨by omega, rfl⟩
theorem allHats_rets {X : Caller} (hX : Xfr X) (L : List Int) (hL : L.length ≤ 10) (s : Value) (g : GH) (hs : SlR g s (ints L)) : Rets Tryd.prog X 51 [s] g (fun v g' lo => g.next ≤ lo ∧ v = .int .i64 (2 ^ L.length - 1)) := by
  have hl := hs.len
  rw [ints_len] at hl
  have h1 := shl_i (k := L.length) (by omega)
  have h3 := two_lt (k := L.length) (by omega)
  have e : ((2 ^ L.length : Nat) : Int) = 2 ^ L.length := by simp
  rw [e] at h1
  have h4 : (2 : Int) ^ L.length < 4611686018427387904 := by rw [← e]; omega
  have h5 : (0 : Int) < 2 ^ L.length := Int.pow_pos (by decide)
  generalize (2 : Int) ^ L.length = t at *
  refine Rets.run hX.pres p51 (hX.free 51 (by decide) _ _) rfl fun ho => ?_
  simp +decide (disch := first | assumption | exact cellV_int _ _ | exact cellV_bool _ | omega | (simp only [GH.pn, GH.sn] <;> omega) | (with_reducible ((repeat (first | apply GH.ok_push | apply GH.ok_set)); assumption)) | ((try simp only [GH.push_hid, GH.set_hid]); first | assumption | (refine GH.vis ?_ ?_ <;> first | assumption | ((try simp only [GH.pn, GH.sn]) <;> omega)))) only [go_sem, ↓reduceIte, Nat.reduceEqDiff, Nat.reduceAdd, Int.reduceToNat, Int.reduceAdd, Int.reduceNeg, Int.reduceSub, Int.reduceMul, Int.reduceLT, Int.reduceLE, Int.reduceEq, ↓GH.gp_eq, ↓GH.gp_ne, ↓GH.gs_eq, ↓GH.gs_ne, GH.push_next, GH.set_next, hl, h1]
  intro hx0
  exact ⟨by omega, rfl⟩
theorem isSet_rets {X : Caller} (hX : Xfr X) (L : List Int) (hL : L.length ≤ 10) (x : Int) (s : Value) (g : GH) (hs : SlR g s (ints L)) : Rets Tryd.prog X 44 [s, .int .i64 x] g (fun v g' lo => g.next ≤ lo ∧ v = .bool (decide (0 ≤ x) && decide (x < 2 ^ L.length))) := by
  have h5 : (0 : Int) < 2 ^ L.length := Int.pow_pos (by decide)
  generalize hr : (decide (0 ≤ x) && decide (x < 2 ^ L.length)) = r
  refine Rets.run hX.pres p44 (hX.free 44 (by decide) _ _) rfl fun ho => ?_
  by_cases c : 0 ≤ x
  · simp +decide (disch := first | assumption | exact cellV_int _ _ | exact cellV_bool _ | omega | (simp only [GH.pn, GH.sn] <;> omega) | (with_reducible ((repeat (first | apply GH.ok_push | apply GH.ok_set)); assumption)) | ((try simp only [GH.push_hid, GH.set_hid]); first | assumption | (refine GH.vis ?_ ?_ <;> first | assumption | ((try simp only [GH.pn, GH.sn]) <;> omega)))) only [go_sem, ↓reduceIte, Nat.reduceEqDiff, Nat.reduceAdd, Int.reduceToNat, Int.reduceAdd, Int.reduceNeg, Int.reduceSub, Int.reduceMul, Int.reduceLT, Int.reduceLE, Int.reduceEq, ↓GH.gp_eq, ↓GH.gp_ne, ↓GH.gs_eq, ↓GH.gs_ne, GH.push_next, GH.set_next, c]
    refine CallD.calm (allHats_rets hX L hL s g hs) ?_
    rintro v g1 hx1 rfl
    by_cases c2 : x ≤ 2 ^ L.length - 1
    · simp +decide (disch := first | assumption | exact cellV_int _ _ | exact cellV_bool _ | omega | (simp only [GH.pn, GH.sn] <;> omega) | (with_reducible ((repeat (first | apply GH.ok_push | apply GH.ok_set)); assumption)) | ((try simp only [GH.push_hid, GH.set_hid]); first | assumption | (refine GH.vis ?_ ?_ <;> first | assumption | ((try simp only [GH.pn, GH.sn]) <;> omega)))) only [go_sem, ↓reduceIte, Nat.reduceEqDiff, Nat.reduceAdd, Int.reduceToNat, Int.reduceAdd, Int.reduceNeg, Int.reduceSub, Int.reduceMul, Int.reduceLT, Int.reduceLE, Int.reduceEq, ↓GH.gp_eq, ↓GH.gp_ne, ↓GH.gs_eq, ↓GH.gs_ne, GH.push_next, GH.set_next, c, c2]
      intro hx0
      exact ⟨by omega, by rw [← hr, decide_eq_true c, decide_eq_true (by omega)]; rfl⟩
    · simp +decide (disch := first | assumption | exact cellV_int _ _ | exact cellV_bool _ | omega | (simp only [GH.pn, GH.sn] <;> omega) | (with_reducible ((repeat (first | apply GH.ok_push | apply GH.ok_set)); assumption)) | ((try simp only [GH.push_hid, GH.set_hid]); first | assumption | (refine GH.vis ?_ ?_ <;> first | assumption | ((try simp only [GH.pn, GH.sn]) <;> omega)))) only [go_sem, ↓reduceIte, Nat.reduceEqDiff, Nat.reduceAdd, Int.reduceToNat, Int.reduceAdd, Int.reduceNeg, Int.reduceSub, Int.reduceMul, Int.reduceLT, Int.reduceLE, Int.reduceEq, ↓GH.gp_eq, ↓GH.gp_ne, ↓GH.gs_eq, ↓GH.gs_ne, GH.push_next, GH.set_next, c, c2]
      intro hx0
      exact ⟨by omega, by rw [← hr, decide_eq_true c, decide_eq_false (by omega)]; rfl⟩
  · simp +decide (disch := first | assumption | exact cellV_int _ _ | exact cellV_bool _ | omega | (simp only [GH.pn, GH.sn] <;> omega) | (with_reducible ((repeat (first | apply GH.ok_push | apply GH.ok_set)); assumption)) | ((try simp only [GH.push_hid, GH.set_hid]); first | assumption | (refine GH.vis ?_ ?_ <;> first | assumption | ((try simp only [GH.pn, GH.sn]) <;> omega)))) only [go_sem, ↓reduceIte, Nat.reduceEqDiff, Nat.reduceAdd, Int.reduceToNat, Int.reduceAdd, Int.reduceNeg, Int.reduceSub, Int.reduceMul, Int.reduceLT, Int.reduceLE, Int.reduceEq, ↓GH.gp_eq, ↓GH.gp_ne, ↓GH.gs_eq, ↓GH.gs_ne, GH.push_next, GH.set_next, c]
    intro hx0
    exact ⟨by omega, by rw [← hr, decide_eq_false c]; rfl⟩
theorem isHat_rets {X : Caller} (hX : Xfr X) (L : List Int) (hL : L.length ≤ 40) (x : Int) (s : Value) (g : GH) (hs : SlR g s (ints L)) : Rets Tryd.prog X 60 [s, .int .i64 x] g (fun v g' lo => g.next ≤ lo ∧ v = .bool (decide (0 ≤ x) && decide (x < L.length))) := by
  have hl := hs.len
  rw [ints_len] at hl
  generalize hr : (decide (0 ≤ x) && decide (x < L.length)) = r
  refine Rets.run hX.pres p60 (hX.free 60 (by decide) _ _) rfl fun ho => ?_
  by_cases c : 0 ≤ x
  · by_cases c2 : x < L.length
    · simp +decide (disch := first | assumption | exact cellV_int _ _ | exact cellV_bool _ | omega | (simp only [GH.pn, GH.sn] <;> omega) | (with_reducible ((repeat (first | apply GH.ok_push | apply GH.ok_set)); assumption)) | ((try simp only [GH.push_hid, GH.set_hid]); first | assumption | (refine GH.vis ?_ ?_ <;> first | assumption | ((try simp only [GH.pn, GH.sn]) <;> omega)))) only [go_sem, ↓reduceIte, Nat.reduceEqDiff, Nat.reduceAdd, Int.reduceToNat, Int.reduceAdd, Int.reduceNeg, Int.reduceSub, Int.reduceMul, Int.reduceLT, Int.reduceLE, Int.reduceEq, ↓GH.gp_eq, ↓GH.gp_ne, ↓GH.gs_eq, ↓GH.gs_ne, GH.push_next, GH.set_next, c, c2, hl]
      intro hx0
      exact ⟨by omega, by rw [← hr, decide_eq_true c, decide_eq_true c2]; rfl⟩
    · simp +decide (disch := first | assumption | exact cellV_int _ _ | exact cellV_bool _ | omega | (simp only [GH.pn, GH.sn] <;> omega) | (with_reducible ((repeat (first | apply GH.ok_push | apply GH.ok_set)); assumption)) | ((try simp only [GH.push_hid, GH.set_hid]); first | assumption | (refine GH.vis ?_ ?_ <;> first | assumption | ((try simp only [GH.pn, GH.sn]) <;> omega)))) only [go_sem, ↓reduceIte, Nat.reduceEqDiff, Nat.reduceAdd, Int.reduceToNat, Int.reduceAdd, Int.reduceNeg, Int.reduceSub, Int.reduceMul, Int.reduceLT, Int.reduceLE, Int.reduceEq, ↓GH.gp_eq, ↓GH.gp_ne, ↓GH.gs_eq, ↓GH.gs_ne, GH.push_next, GH.set_next, c, c2, hl]
      intro hx0
      exact ⟨by omega, by rw [← hr, decide_eq_true c, decide_eq_false c2]; rfl⟩
  · simp +decide (disch := first | assumption | exact cellV_int _ _ | exact cellV_bool _ | omega | (simp only [GH.pn, GH.sn] <;> omega) | (with_reducible ((repeat (first | apply GH.ok_push | apply GH.ok_set)); assumption)) | ((try simp only [GH.push_hid, GH.set_hid]); first | assumption | (refine GH.vis ?_ ?_ <;> first | assumption | ((try simp only [GH.pn, GH.sn]) <;> omega)))) only [go_sem, ↓reduceIte, Nat.reduceEqDiff, Nat.reduceAdd, Int.reduceToNat, Int.reduceAdd, Int.reduceNeg, Int.reduceSub, Int.reduceMul, Int.reduceLT, Int.reduceLE, Int.reduceEq, ↓GH.gp_eq, ↓GH.gp_ne, ↓GH.gs_eq, ↓GH.gs_ne, GH.push_next, GH.set_next, c]
    intro hx0
    exact ⟨by omega, by rw [← hr, decide_eq_false c]; rfl⟩
theorem all_bad {p : Nat → Bool} {n i : Nat} (hi : i < n) (h : p i = false) : (List.range n).all p = false := by
  rw [List.all_eq_false]
  exact ⟨i, List.mem_range.2 hi, by rw [h]; simp⟩
theorem all_step {p : Nat → Bool} {i : Nat} (h : (List.range i).all p = true) (hp : p i = true) : (List.range (i + 1)).all p = true := by
  rw [List.range_succ, List.all_append, h]; simp [hp]
theorem IsShop_rets {X : Caller} (hX : Xfr X) (L : List Int) (hL : L.length ≤ 40) (s : Value) (g : GH) (hs : SlR g s (ints L)) :
    Rets Tryd.prog X 17 [s] g (fun v g' lo => g.next ≤ lo ∧ v = .bool (shopB L)) := by
  have hl := hs.len
  rw [ints_len] at hl
  refine Rets.run hX.pres p17 (hX.free 17 (by decide) _ _) rfl fun ho => ?_
  by_cases q1 : (L.length : Int) < 1
  · simp +decide (disch := first | assumption | exact cellV_int _ _ | exact cellV_bool _ | omega | (simp only [GH.pn, GH.sn] <;> omega) | (with_reducible ((repeat (first | apply GH.ok_push | apply GH.ok_set)); assumption)) | ((try simp only [GH.push_hid, GH.set_hid]); first | assumption | (refine GH.vis ?_ ?_ <;> first | assumption | ((try simp only [GH.pn, GH.sn]) <;> omega)))) only [go_sem, ↓reduceIte, Nat.reduceEqDiff, Nat.reduceAdd, Int.reduceToNat, Int.reduceAdd, Int.reduceNeg, Int.reduceSub, Int.reduceMul, Int.reduceLT, Int.reduceLE, Int.reduceEq, ↓GH.gp_eq, ↓GH.gp_ne, ↓GH.gs_eq, ↓GH.gs_ne, GH.push_next, GH.set_next, hl, q1]
    intro hx0
    exact ⟨Nat.le_refl _, by unfold shopB; rw [decide_eq_false (by omega)]; rfl⟩
  by_cases q2 : (10 : Int) < L.length
  · simp +decide (disch := first | assumption | exact cellV_int _ _ | exact cellV_bool _ | omega | (simp only [GH.pn, GH.sn] <;> omega) | (with_reducible ((repeat (first | apply GH.ok_push | apply GH.ok_set)); assumption)) | ((try simp only [GH.push_hid, GH.set_hid]); first | assumption | (refine GH.vis ?_ ?_ <;> first | assumption | ((try simp only [GH.pn, GH.sn]) <;> omega)))) only [go_sem, ↓reduceIte, Nat.reduceEqDiff, Nat.reduceAdd, Int.reduceToNat, Int.reduceAdd, Int.reduceNeg, Int.reduceSub, Int.reduceMul, Int.reduceLT, Int.reduceLE, Int.reduceEq, ↓GH.gp_eq, ↓GH.gp_ne, ↓GH.gs_eq, ↓GH.gs_ne, GH.push_next, GH.set_next, hl, q1, q2]
    intro hx0
    exact ⟨Nat.le_refl _, by unfold shopB; rw [decide_eq_false (p := L.length ≤ 10) (by omega), Bool.and_false]; rfl⟩
  have hL10 : L.length ≤ 10 := by omega
  have hsb : shopB L = ((List.range L.length).all (okI L) && (List.range L.length).all (symI L)) := by
    unfold shopB
    rw [decide_eq_true (p := 1 ≤ L.length) (by omega), decide_eq_true hL10]; rfl
  simp +decide (disch := first | assumption | exact cellV_int _ _ | exact cellV_bool _ | omega | (simp only [GH.pn, GH.sn] <;> omega) | (with_reducible ((repeat (first | apply GH.ok_push | apply GH.ok_set)); assumption)) | ((try simp only [GH.push_hid, GH.set_hid]); first | assumption | (refine GH.vis ?_ ?_ <;> first | assumption | ((try simp only [GH.pn, GH.sn]) <;> omega)))) only [go_sem, ↓reduceIte, Nat.reduceEqDiff, Nat.reduceAdd, Int.reduceToNat, Int.reduceAdd, Int.reduceNeg, Int.reduceSub, Int.reduceMul, Int.reduceLT, Int.reduceLE, Int.reduceEq, ↓GH.gp_eq, ↓GH.gp_ne, ↓GH.gs_eq, ↓GH.gs_ne, GH.push_next, GH.set_next, hl, q1, q2]
  refine Wk.loops (fun m e g' lo => g.next ≤ lo ∧ Kept g g' ∧ ∃ i : Nat, i + m = L.length ∧ (ev e (.s 0) = s ∧ ev e (.s 14) = s ∧ ev e (.s 15) = .int .i64 (L.length : Int) ∧ ev e (.s 16) = .int .i64 i) ∧ (List.range i).all (okI L) = true ∧ (List.range i).all (symI L) = true)
    (fun e g' lo => g.next ≤ lo ∧ shopB L = true) (n := L.length) ?_ ?_ ?_
  · exact ⟨Nat.le_refl _, Kept.refl _, 0, by omega, (by simp +decide (disch := first | assumption | (apply GH.ok_push; assumption) | exact cellV_int _ _ | exact cellV_bool _ | omega) only [go_sem, ↓reduceIte, Nat.reduceEqDiff, Nat.reduceAdd, Int.reduceToNat]; first | done | exact rfl), rfl, rfl⟩
  · rintro e g' lo - - ⟨hlo, h⟩
    simp +decide (disch := first | assumption | exact cellV_int _ _ | exact cellV_bool _ | omega | (simp only [GH.pn, GH.sn] <;> omega) | (with_reducible ((repeat (first | apply GH.ok_push | apply GH.ok_set)); assumption)) | ((try simp only [GH.push_hid, GH.set_hid]); first | assumption | (refine GH.vis ?_ ?_ <;> first | assumption | ((try simp only [GH.pn, GH.sn]) <;> omega)))) only [go_sem, ↓reduceIte, Nat.reduceEqDiff, Nat.reduceAdd, Int.reduceToNat, Int.reduceAdd, Int.reduceNeg, Int.reduceSub, Int.reduceMul, Int.reduceLT, Int.reduceLE, Int.reduceEq, ↓GH.gp_eq, ↓GH.gp_ne, ↓GH.gs_eq, ↓GH.gs_ne, GH.push_next, GH.set_next]
    intro hx0
    exact ⟨hlo, by rw [h]⟩
  · rintro m e g' lo ho' hl' ih out ⟨hlo, hk, i, hi, he, hp, hq⟩
    have hkn := hk.next
    by_cases ci : i < L.length
    case neg =>
      have ci' : ¬ (i : Int) < L.length := by omega
      simp +decide (disch := first | assumption | exact cellV_int _ _ | exact cellV_bool _ | omega | (simp only [GH.pn, GH.sn] <;> omega) | (with_reducible ((repeat (first | apply GH.ok_push | apply GH.ok_set)); assumption)) | ((try simp only [GH.push_hid, GH.set_hid]); first | assumption | (refine GH.vis ?_ ?_ <;> first | assumption | ((try simp only [GH.pn, GH.sn]) <;> omega)))) only [go_sem, ↓reduceIte, Nat.reduceEqDiff, Nat.reduceAdd, Int.reduceToNat, Int.reduceAdd, Int.reduceNeg, Int.reduceSub, Int.reduceMul, Int.reduceLT, Int.reduceLE, Int.reduceEq, ↓GH.gp_eq, ↓GH.gp_ne, ↓GH.gs_eq, ↓GH.gs_ne, GH.push_next, GH.set_next, he, ci']
      have : i = L.length := by omega
      subst this
      exact out _ _ _ ⟨hlo, by rw [hsb, hp, hq]; rfl⟩
    have ci' : (i : Int) < L.length := by omega
    have hsk := hs.kept hk
    obtain ⟨j1, o1, hj1, hp1, hp2⟩ := hsk.ptr (ints_get (D := L) (i := i) ci)
    have hp1 := hp1 (i : Int) rfl
    simp +decide (disch := first | assumption | exact cellV_int _ _ | exact cellV_bool _ | omega | (simp only [GH.pn, GH.sn] <;> omega) | (with_reducible ((repeat (first | apply GH.ok_push | apply GH.ok_set)); assumption)) | ((try simp only [GH.push_hid, GH.set_hid]); first | assumption | (refine GH.vis ?_ ?_ <;> first | assumption | ((try simp only [GH.pn, GH.sn]) <;> omega)))) only [go_sem, ↓reduceIte, Nat.reduceEqDiff, Nat.reduceAdd, Int.reduceToNat, Int.reduceAdd, Int.reduceNeg, Int.reduceSub, Int.reduceMul, Int.reduceLT, Int.reduceLE, Int.reduceEq, ↓GH.gp_eq, ↓GH.gp_ne, ↓GH.gs_eq, ↓GH.gs_ne, GH.push_next, GH.set_next, he, ci', hp1, hp2]
    refine CallD.calm (isSet_rets hX L hL10 (L.getD i 0) s g' hsk) ?_
    rintro v g1 hx1 rfl
    have hn1 := hx1.next
    have hsk1 := hsk.ext hx1
    have hk1 := hk.ext hx1
    cases c1 : (decide (0 ≤ L.getD i 0) && decide (L.getD i 0 < 2 ^ L.length)) with
    | false =>
      simp +decide (disch := first | assumption | exact cellV_int _ _ | exact cellV_bool _ | omega | (simp only [GH.pn, GH.sn] <;> omega) | (with_reducible ((repeat (first | apply GH.ok_push | apply GH.ok_set)); assumption)) | ((try simp only [GH.push_hid, GH.set_hid]); first | assumption | (refine GH.vis ?_ ?_ <;> first | assumption | ((try simp only [GH.pn, GH.sn]) <;> omega)))) only [go_sem, ↓reduceIte, Nat.reduceEqDiff, Nat.reduceAdd, Int.reduceToNat, Int.reduceAdd, Int.reduceNeg, Int.reduceSub, Int.reduceMul, Int.reduceLT, Int.reduceLE, Int.reduceEq, ↓GH.gp_eq, ↓GH.gp_ne, ↓GH.gs_eq, ↓GH.gs_ne, GH.push_next, GH.set_next, he]
      intro hx0
      exact ⟨hlo, by rw [hsb, all_bad ci (show okI L i = false by unfold okI; rw [c1]; rfl)]; rfl⟩
    | true =>
    simp +decide (disch := first | assumption | exact cellV_int _ _ | exact cellV_bool _ | omega | (simp only [GH.pn, GH.sn] <;> omega) | (with_reducible ((repeat (first | apply GH.ok_push | apply GH.ok_set)); assumption)) | ((try simp only [GH.push_hid, GH.set_hid]); first | assumption | (refine GH.vis ?_ ?_ <;> first | assumption | ((try simp only [GH.pn, GH.sn]) <;> omega)))) only [go_sem, ↓reduceIte, Nat.reduceEqDiff, Nat.reduceAdd, Int.reduceToNat, Int.reduceAdd, Int.reduceNeg, Int.reduceSub, Int.reduceMul, Int.reduceLT, Int.reduceLE, Int.reduceEq, ↓GH.gp_eq, ↓GH.gp_ne, ↓GH.gs_eq, ↓GH.gs_ne, GH.push_next, GH.set_next, he]
    refine CallD.calm (has_rets hX (L.getD i 0) i (by omega) g1) ?_
    rintro v g2 hx2 rfl
    have hn2 := hx2.next
    have hsk2 := hsk1.ext hx2
    have hk2 := hk1.ext hx2
    cases c2 : bitI (L.getD i 0) i with
    | true =>
      simp +decide (disch := first | assumption | exact cellV_int _ _ | exact cellV_bool _ | omega | (simp only [GH.pn, GH.sn] <;> omega) | (with_reducible ((repeat (first | apply GH.ok_push | apply GH.ok_set)); assumption)) | ((try simp only [GH.push_hid, GH.set_hid]); first | assumption | (refine GH.vis ?_ ?_ <;> first | assumption | ((try simp only [GH.pn, GH.sn]) <;> omega)))) only [go_sem, ↓reduceIte, Nat.reduceEqDiff, Nat.reduceAdd, Int.reduceToNat, Int.reduceAdd, Int.reduceNeg, Int.reduceSub, Int.reduceMul, Int.reduceLT, Int.reduceLE, Int.reduceEq, ↓GH.gp_eq, ↓GH.gp_ne, ↓GH.gs_eq, ↓GH.gs_ne, GH.push_next, GH.set_next, he]
      intro hx0
      exact ⟨hlo, by rw [hsb, all_bad ci (show okI L i = false by unfold okI; rw [c1, c2]; rfl)]; rfl⟩
    | false =>
    have hok : okI L i = true := by unfold okI; rw [c1, c2]; rfl
    simp +decide (disch := first | assumption | exact cellV_int _ _ | exact cellV_bool _ | omega | (simp only [GH.pn, GH.sn] <;> omega) | (with_reducible ((repeat (first | apply GH.ok_push | apply GH.ok_set)); assumption)) | ((try simp only [GH.push_hid, GH.set_hid]); first | assumption | (refine GH.vis ?_ ?_ <;> first | assumption | ((try simp only [GH.pn, GH.sn]) <;> omega)))) only [go_sem, ↓reduceIte, Nat.reduceEqDiff, Nat.reduceAdd, Int.reduceToNat, Int.reduceAdd, Int.reduceNeg, Int.reduceSub, Int.reduceMul, Int.reduceLT, Int.reduceLE, Int.reduceEq, ↓GH.gp_eq, ↓GH.gp_ne, ↓GH.gs_eq, ↓GH.gs_ne, GH.push_next, GH.set_next, he, hl]
    refine Wk.loops (fun m' e' g' lo' => g.next ≤ lo' ∧ Kept g g' ∧ ∃ k : Nat, k + m' = L.length ∧ (ev e' (.s 0) = s ∧ ev e' (.s 14) = s ∧ ev e' (.s 15) = .int .i64 (L.length : Int) ∧ ev e' (.s 16) = .int .i64 i ∧ ev e' (.s 3) = .int .i64 i ∧ ev e' (.s 4) = .int .i64 (L.getD i 0) ∧ ev e' (.s 31) = .int .i64 (L.length : Int) ∧ ev e' (.s 32) = .int .i64 k) ∧ (List.range k).all (fun k => bitI (L.getD i 0) k == bitI (L.getD k 0) i) = true)
      (fun e' g' lo' => g.next ≤ lo' ∧ Kept g g' ∧ (ev e' (.s 0) = s ∧ ev e' (.s 14) = s ∧ ev e' (.s 15) = .int .i64 (L.length : Int) ∧ ev e' (.s 16) = .int .i64 i) ∧ symI L i = true) (n := L.length) ?_ ?_ ?_
    · exact ⟨hlo, hk2, 0, by omega, (by simp +decide (disch := first | assumption | (apply GH.ok_push; assumption) | exact cellV_int _ _ | exact cellV_bool _ | omega) only [go_sem, ↓reduceIte, Nat.reduceEqDiff, Nat.reduceAdd, Int.reduceToNat, he]; first | done | exact rfl), rfl⟩
    · rintro e' g' lo' - - ⟨hlo', hk', he', hsy⟩
      simp +decide (disch := first | assumption | exact cellV_int _ _ | exact cellV_bool _ | omega | (simp only [GH.pn, GH.sn] <;> omega) | (with_reducible ((repeat (first | apply GH.ok_push | apply GH.ok_set)); assumption)) | ((try simp only [GH.push_hid, GH.set_hid]); first | assumption | (refine GH.vis ?_ ?_ <;> first | assumption | ((try simp only [GH.pn, GH.sn]) <;> omega)))) only [go_sem, ↓reduceIte, Nat.reduceEqDiff, Nat.reduceAdd, Int.reduceToNat, Int.reduceAdd, Int.reduceNeg, Int.reduceSub, Int.reduceMul, Int.reduceLT, Int.reduceLE, Int.reduceEq, ↓GH.gp_eq, ↓GH.gp_ne, ↓GH.gs_eq, ↓GH.gs_ne, GH.push_next, GH.set_next, he']
      exact ih (m - 1) _ _ _ (by omega) ⟨hlo', hk', i + 1, by omega, (by simp +decide (disch := first | assumption | (apply GH.ok_push; assumption) | exact cellV_int _ _ | exact cellV_bool _ | omega) only [go_sem, ↓reduceIte, Nat.reduceEqDiff, Nat.reduceAdd, Int.reduceToNat, he']; first | done | exact rfl), all_step hp hok, all_step hq hsy⟩
    · rintro m' e' g' lo' ho' hl' ih' out' ⟨hlo', hk', k, hkm, he', hpk⟩
      have hkn' := hk'.next
      by_cases ck : k < L.length
      case neg =>
        have ck' : ¬ (k : Int) < L.length := by omega
        simp +decide (disch := first | assumption | exact cellV_int _ _ | exact cellV_bool _ | omega | (simp only [GH.pn, GH.sn] <;> omega) | (with_reducible ((repeat (first | apply GH.ok_push | apply GH.ok_set)); assumption)) | ((try simp only [GH.push_hid, GH.set_hid]); first | assumption | (refine GH.vis ?_ ?_ <;> first | assumption | ((try simp only [GH.pn, GH.sn]) <;> omega)))) only [go_sem, ↓reduceIte, Nat.reduceEqDiff, Nat.reduceAdd, Int.reduceToNat, Int.reduceAdd, Int.reduceNeg, Int.reduceSub, Int.reduceMul, Int.reduceLT, Int.reduceLE, Int.reduceEq, ↓GH.gp_eq, ↓GH.gp_ne, ↓GH.gs_eq, ↓GH.gs_ne, GH.push_next, GH.set_next, he', ck']
        have : k = L.length := by omega
        subst this
        exact out' _ _ _ ⟨hlo', hk', (by simp +decide (disch := first | assumption | (apply GH.ok_push; assumption) | exact cellV_int _ _ | exact cellV_bool _ | omega) only [go_sem, ↓reduceIte, Nat.reduceEqDiff, Nat.reduceAdd, Int.reduceToNat, he']; first | done | exact rfl), hpk⟩
      have ck' : (k : Int) < L.length := by omega
      have hskk := hs.kept hk'
      obtain ⟨j2, o2, hj2, hq1, hq2⟩ := hskk.ptr (ints_get (D := L) (i := k) ck)
      have hq1 := hq1 (k : Int) rfl
      simp +decide (disch := first | assumption | exact cellV_int _ _ | exact cellV_bool _ | omega | (simp only [GH.pn, GH.sn] <;> omega) | (with_reducible ((repeat (first | apply GH.ok_push | apply GH.ok_set)); assumption)) | ((try simp only [GH.push_hid, GH.set_hid]); first | assumption | (refine GH.vis ?_ ?_ <;> first | assumption | ((try simp only [GH.pn, GH.sn]) <;> omega)))) only [go_sem, ↓reduceIte, Nat.reduceEqDiff, Nat.reduceAdd, Int.reduceToNat, Int.reduceAdd, Int.reduceNeg, Int.reduceSub, Int.reduceMul, Int.reduceLT, Int.reduceLE, Int.reduceEq, ↓GH.gp_eq, ↓GH.gp_ne, ↓GH.gs_eq, ↓GH.gs_ne, GH.push_next, GH.set_next, he', ck']
      refine CallD.calm (has_rets hX (L.getD i 0) k (by omega) g') ?_
      rintro v g3 hx3 rfl
      have hn3 := hx3.next
      have hsk3 := hskk.ext hx3
      obtain ⟨j3, o3, hj3, hr1, hr2⟩ := hsk3.ptr (ints_get (D := L) (i := k) ck)
      have hr1 := hr1 (k : Int) rfl
      have hjj := hq1.symm.trans hr1
      simp only [Option.some.injEq, Value.pointer.injEq, Addr.mk.injEq, and_true] at hjj
      obtain ⟨rfl, rfl⟩ := hjj
      simp +decide (disch := first | assumption | exact cellV_int _ _ | exact cellV_bool _ | omega | (simp only [GH.pn, GH.sn] <;> omega) | (with_reducible ((repeat (first | apply GH.ok_push | apply GH.ok_set)); assumption)) | ((try simp only [GH.push_hid, GH.set_hid]); first | assumption | (refine GH.vis ?_ ?_ <;> first | assumption | ((try simp only [GH.pn, GH.sn]) <;> omega)))) only [go_sem, ↓reduceIte, Nat.reduceEqDiff, Nat.reduceAdd, Int.reduceToNat, Int.reduceAdd, Int.reduceNeg, Int.reduceSub, Int.reduceMul, Int.reduceLT, Int.reduceLE, Int.reduceEq, ↓GH.gp_eq, ↓GH.gp_ne, ↓GH.gs_eq, ↓GH.gs_ne, GH.push_next, GH.set_next, he', hr1, hr2]
      refine CallD.calm (has_rets hX (L.getD k 0) i (by omega) g3) ?_
      rintro v g4 hx4 rfl
      have hn4 := hx4.next
      have hk4 := (hk'.ext hx3).ext hx4
      cases cb : (bitI (L.getD i 0) k == bitI (L.getD k 0) i) with
      | true =>
        simp +decide (disch := first | assumption | exact cellV_int _ _ | exact cellV_bool _ | omega | (simp only [GH.pn, GH.sn] <;> omega) | (with_reducible ((repeat (first | apply GH.ok_push | apply GH.ok_set)); assumption)) | ((try simp only [GH.push_hid, GH.set_hid]); first | assumption | (refine GH.vis ?_ ?_ <;> first | assumption | ((try simp only [GH.pn, GH.sn]) <;> omega)))) only [go_sem, ↓reduceIte, Nat.reduceEqDiff, Nat.reduceAdd, Int.reduceToNat, Int.reduceAdd, Int.reduceNeg, Int.reduceSub, Int.reduceMul, Int.reduceLT, Int.reduceLE, Int.reduceEq, ↓GH.gp_eq, ↓GH.gp_ne, ↓GH.gs_eq, ↓GH.gs_ne, GH.push_next, GH.set_next, he', cb]
        exact ih' (m' - 1) _ _ _ (by omega) ⟨hlo', hk4, k + 1, by omega, (by simp +decide (disch := first | assumption | (apply GH.ok_push; assumption) | exact cellV_int _ _ | exact cellV_bool _ | omega) only [go_sem, ↓reduceIte, Nat.reduceEqDiff, Nat.reduceAdd, Int.reduceToNat, he']; first | done | exact rfl), all_step hpk cb⟩
      | false =>
        simp +decide (disch := first | assumption | exact cellV_int _ _ | exact cellV_bool _ | omega | (simp only [GH.pn, GH.sn] <;> omega) | (with_reducible ((repeat (first | apply GH.ok_push | apply GH.ok_set)); assumption)) | ((try simp only [GH.push_hid, GH.set_hid]); first | assumption | (refine GH.vis ?_ ?_ <;> first | assumption | ((try simp only [GH.pn, GH.sn]) <;> omega)))) only [go_sem, ↓reduceIte, Nat.reduceEqDiff, Nat.reduceAdd, Int.reduceToNat, Int.reduceAdd, Int.reduceNeg, Int.reduceSub, Int.reduceMul, Int.reduceLT, Int.reduceLE, Int.reduceEq, ↓GH.gp_eq, ↓GH.gp_ne, ↓GH.gs_eq, ↓GH.gs_ne, GH.push_next, GH.set_next, he', cb]
        intro hx0
        refine ⟨hlo', ?_⟩
        rw [hsb, all_bad ci (show symI L i = false from all_bad ck cb), Bool.and_false]
end Go.Proofs.YtnpapnpedcbfnaaDoor
set_option maxRecDepth 100000
set_option maxHeartbeats 4000000
set_option linter.unusedSimpArgs false
set_option linter.unusedVariables false
namespace Go.Proofs.YtnpapnpedcbfnaaDoor
open Go.Ds Go.Vs
def b01 (b : Bool) : Int := if b = true then 1 else 0
theorem rem_fact {x : Int} (hx : 0 ≤ x) (k : Nat) : (x / 2 ^ k).tmod 2 = b01 (bitI x k) := by
  have h : 0 ≤ x / 2 ^ k := Int.ediv_nonneg hx (Int.le_of_lt (Int.pow_pos (by decide)))
  rw [Int.tmod_eq_emod_of_nonneg h]
  unfold b01 bitI
  by_cases c : (x / 2 ^ k) % 2 = 1
  · rw [c]; simp
  · rw [decide_eq_false c]; simp; omega
theorem all_at {p : Nat → Bool} {n i : Nat} (h : (List.range n).all p = true) (hi : i < n) : p i = true := List.all_eq_true.1 h i (List.mem_range.2 hi)
theorem refIsShop_rets {X : Caller} (hX : Xfr X) (L : List Int) (hL : L.length ≤ 40) (s : Value) (g : GH) (hs : SlR g s (ints L)) :
    Rets Tryd.prog X 18 [s] g (fun v g' lo => g.next ≤ lo ∧ v = .bool (shopB L)) := by
  have hl := hs.len
  rw [ints_len] at hl
  refine Rets.run hX.pres p18 (hX.free 18 (by decide) _ _) rfl fun ho => ?_
  by_cases q1 : (L.length : Int) < 1
  · simp +decide (disch := first | assumption | exact cellV_int _ _ | exact cellV_bool _ | omega | (simp only [GH.pn, GH.sn] <;> omega) | (with_reducible ((repeat (first | apply GH.ok_push | apply GH.ok_set)); assumption)) | ((try simp only [GH.push_hid, GH.set_hid]); first | assumption | (refine GH.vis ?_ ?_ <;> first | assumption | ((try simp only [GH.pn, GH.sn]) <;> omega)))) only [go_sem, ↓reduceIte, Nat.reduceEqDiff, Nat.reduceAdd, Int.reduceToNat, Int.reduceAdd, Int.reduceNeg, Int.reduceSub, Int.reduceMul, Int.reduceLT, Int.reduceLE, Int.reduceEq, ↓GH.gp_eq, ↓GH.gp_ne, ↓GH.gs_eq, ↓GH.gs_ne, GH.push_next, GH.set_next, hl, q1]
    intro hx0
    exact ⟨Nat.le_refl _, by unfold shopB; rw [decide_eq_false (by omega)]; rfl⟩
  by_cases q2 : (10 : Int) < L.length
  · simp +decide (disch := first | assumption | exact cellV_int _ _ | exact cellV_bool _ | omega | (simp only [GH.pn, GH.sn] <;> omega) | (with_reducible ((repeat (first | apply GH.ok_push | apply GH.ok_set)); assumption)) | ((try simp only [GH.push_hid, GH.set_hid]); first | assumption | (refine GH.vis ?_ ?_ <;> first | assumption | ((try simp only [GH.pn, GH.sn]) <;> omega)))) only [go_sem, ↓reduceIte, Nat.reduceEqDiff, Nat.reduceAdd, Int.reduceToNat, Int.reduceAdd, Int.reduceNeg, Int.reduceSub, Int.reduceMul, Int.reduceLT, Int.reduceLE, Int.reduceEq, ↓GH.gp_eq, ↓GH.gp_ne, ↓GH.gs_eq, ↓GH.gs_ne, GH.push_next, GH.set_next, hl, q1, q2]
    intro hx0
    exact ⟨Nat.le_refl _, by unfold shopB; rw [decide_eq_false (p := L.length ≤ 10) (by omega), Bool.and_false]; rfl⟩
  have hL10 : L.length ≤ 10 := by omega
  have hsb : shopB L = ((List.range L.length).all (okI L) && (List.range L.length).all (symI L)) := by
    unfold shopB
    rw [decide_eq_true (p := 1 ≤ L.length) (by omega), decide_eq_true hL10]; rfl
  have hsh := shl_i (k := L.length) (by omega)
  have e2 : ((2 ^ L.length : Nat) : Int) = 2 ^ L.length := by simp
  rw [e2] at hsh
  simp +decide (disch := first | assumption | exact cellV_int _ _ | exact cellV_bool _ | omega | (simp only [GH.pn, GH.sn] <;> omega) | (with_reducible ((repeat (first | apply GH.ok_push | apply GH.ok_set)); assumption)) | ((try simp only [GH.push_hid, GH.set_hid]); first | assumption | (refine GH.vis ?_ ?_ <;> first | assumption | ((try simp only [GH.pn, GH.sn]) <;> omega)))) only [go_sem, ↓reduceIte, Nat.reduceEqDiff, Nat.reduceAdd, Int.reduceToNat, Int.reduceAdd, Int.reduceNeg, Int.reduceSub, Int.reduceMul, Int.reduceLT, Int.reduceLE, Int.reduceEq, ↓GH.gp_eq, ↓GH.gp_ne, ↓GH.gs_eq, ↓GH.gs_ne, GH.push_next, GH.set_next, hl, q1, q2]
  refine Wk.loops (fun m e g' lo => g.next ≤ lo ∧ Kept g g' ∧ ∃ i : Nat, i + m = L.length ∧ (ev e (.s 0) = s ∧ ev e (.s 3) = .int .i64 (L.length : Int) ∧ ev e (.s 4) = .int .i64 i) ∧ (List.range i).all (okI L) = true)
    (fun e g' lo => g.next ≤ lo ∧ Kept g g' ∧ (ev e (.s 0) = s ∧ ev e (.s 3) = .int .i64 (L.length : Int)) ∧ (List.range L.length).all (okI L) = true) (n := L.length) ?_ ?_ ?_
  · exact ⟨Nat.le_refl _, Kept.refl _, 0, by omega, (by simp +decide (disch := first | assumption | (apply GH.ok_push; assumption) | exact cellV_int _ _ | exact cellV_bool _ | omega) only [go_sem, ↓reduceIte, Nat.reduceEqDiff, Nat.reduceAdd, Int.reduceToNat]; first | done | exact rfl), rfl⟩
  · rintro e g' lo hog hlg ⟨hlo, hk, he, hall⟩
    rw [hall, Bool.true_and] at hsb
    simp +decide (disch := first | assumption | exact cellV_int _ _ | exact cellV_bool _ | omega | (simp only [GH.pn, GH.sn] <;> omega) | (with_reducible ((repeat (first | apply GH.ok_push | apply GH.ok_set)); assumption)) | ((try simp only [GH.push_hid, GH.set_hid]); first | assumption | (refine GH.vis ?_ ?_ <;> first | assumption | ((try simp only [GH.pn, GH.sn]) <;> omega)))) only [go_sem, ↓reduceIte, Nat.reduceEqDiff, Nat.reduceAdd, Int.reduceToNat, Int.reduceAdd, Int.reduceNeg, Int.reduceSub, Int.reduceMul, Int.reduceLT, Int.reduceLE, Int.reduceEq, ↓GH.gp_eq, ↓GH.gp_ne, ↓GH.gs_eq, ↓GH.gs_ne, GH.push_next, GH.set_next, he]
    refine Wk.loops (fun m e g' lo => g.next ≤ lo ∧ Kept g g' ∧ ∃ i : Nat, i + m = L.length ∧ (ev e (.s 0) = s ∧ ev e (.s 3) = .int .i64 (L.length : Int) ∧ ev e (.s 5) = .int .i64 i) ∧ (List.range i).all (symI L) = true)
      (fun e g' lo => g.next ≤ lo ∧ shopB L = true) (n := L.length) ?_ ?_ ?_
    · exact ⟨hlo, hk, 0, by omega, (by simp +decide (disch := first | assumption | (apply GH.ok_push; assumption) | exact cellV_int _ _ | exact cellV_bool _ | omega) only [go_sem, ↓reduceIte, Nat.reduceEqDiff, Nat.reduceAdd, Int.reduceToNat, he]; first | done | exact rfl), rfl⟩
    · rintro e g' lo - - ⟨hlo, h⟩
      simp +decide (disch := first | assumption | exact cellV_int _ _ | exact cellV_bool _ | omega | (simp only [GH.pn, GH.sn] <;> omega) | (with_reducible ((repeat (first | apply GH.ok_push | apply GH.ok_set)); assumption)) | ((try simp only [GH.push_hid, GH.set_hid]); first | assumption | (refine GH.vis ?_ ?_ <;> first | assumption | ((try simp only [GH.pn, GH.sn]) <;> omega)))) only [go_sem, ↓reduceIte, Nat.reduceEqDiff, Nat.reduceAdd, Int.reduceToNat, Int.reduceAdd, Int.reduceNeg, Int.reduceSub, Int.reduceMul, Int.reduceLT, Int.reduceLE, Int.reduceEq, ↓GH.gp_eq, ↓GH.gp_ne, ↓GH.gs_eq, ↓GH.gs_ne, GH.push_next, GH.set_next]
      intro hx0
      exact ⟨hlo, by rw [h]⟩
    · rintro m e g' lo ho' hl' ih out ⟨hlo, hk, i, hi, he, hp⟩
      have hkn := hk.next
      by_cases ci : i < L.length
      case neg =>
        have ci' : ¬ (i : Int) < L.length := by omega
        simp +decide (disch := first | assumption | exact cellV_int _ _ | exact cellV_bool _ | omega | (simp only [GH.pn, GH.sn] <;> omega) | (with_reducible ((repeat (first | apply GH.ok_push | apply GH.ok_set)); assumption)) | ((try simp only [GH.push_hid, GH.set_hid]); first | assumption | (refine GH.vis ?_ ?_ <;> first | assumption | ((try simp only [GH.pn, GH.sn]) <;> omega)))) only [go_sem, ↓reduceIte, Nat.reduceEqDiff, Nat.reduceAdd, Int.reduceToNat, Int.reduceAdd, Int.reduceNeg, Int.reduceSub, Int.reduceMul, Int.reduceLT, Int.reduceLE, Int.reduceEq, ↓GH.gp_eq, ↓GH.gp_ne, ↓GH.gs_eq, ↓GH.gs_ne, GH.push_next, GH.set_next, he, ci']
        have : i = L.length := by omega
        subst this
        exact out _ _ _ ⟨hlo, by rw [hsb, hp]⟩
      have ci' : (i : Int) < L.length := by omega
      simp +decide (disch := first | assumption | exact cellV_int _ _ | exact cellV_bool _ | omega | (simp only [GH.pn, GH.sn] <;> omega) | (with_reducible ((repeat (first | apply GH.ok_push | apply GH.ok_set)); assumption)) | ((try simp only [GH.push_hid, GH.set_hid]); first | assumption | (refine GH.vis ?_ ?_ <;> first | assumption | ((try simp only [GH.pn, GH.sn]) <;> omega)))) only [go_sem, ↓reduceIte, Nat.reduceEqDiff, Nat.reduceAdd, Int.reduceToNat, Int.reduceAdd, Int.reduceNeg, Int.reduceSub, Int.reduceMul, Int.reduceLT, Int.reduceLE, Int.reduceEq, ↓GH.gp_eq, ↓GH.gp_ne, ↓GH.gs_eq, ↓GH.gs_ne, GH.push_next, GH.set_next, he, ci']
      refine Wk.loops (fun m' e' g' lo' => g.next ≤ lo' ∧ Kept g g' ∧ ∃ k : Nat, k + m' = L.length ∧ (ev e' (.s 0) = s ∧ ev e' (.s 3) = .int .i64 (L.length : Int) ∧ ev e' (.s 5) = .int .i64 i ∧ ev e' (.s 6) = .int .i64 k) ∧ (List.range k).all (fun k => bitI (L.getD i 0) k == bitI (L.getD k 0) i) = true)
        (fun e' g' lo' => g.next ≤ lo' ∧ Kept g g' ∧ (ev e' (.s 0) = s ∧ ev e' (.s 3) = .int .i64 (L.length : Int) ∧ ev e' (.s 5) = .int .i64 i) ∧ symI L i = true) (n := L.length) ?_ ?_ ?_
      · exact ⟨hlo, hk, 0, by omega, (by simp +decide (disch := first | assumption | (apply GH.ok_push; assumption) | exact cellV_int _ _ | exact cellV_bool _ | omega) only [go_sem, ↓reduceIte, Nat.reduceEqDiff, Nat.reduceAdd, Int.reduceToNat, he]; first | done | exact rfl), rfl⟩
      · rintro e' g' lo' - - ⟨hlo', hk', he', hsy⟩
        simp +decide (disch := first | assumption | exact cellV_int _ _ | exact cellV_bool _ | omega | (simp only [GH.pn, GH.sn] <;> omega) | (with_reducible ((repeat (first | apply GH.ok_push | apply GH.ok_set)); assumption)) | ((try simp only [GH.push_hid, GH.set_hid]); first | assumption | (refine GH.vis ?_ ?_ <;> first | assumption | ((try simp only [GH.pn, GH.sn]) <;> omega)))) only [go_sem, ↓reduceIte, Nat.reduceEqDiff, Nat.reduceAdd, Int.reduceToNat, Int.reduceAdd, Int.reduceNeg, Int.reduceSub, Int.reduceMul, Int.reduceLT, Int.reduceLE, Int.reduceEq, ↓GH.gp_eq, ↓GH.gp_ne, ↓GH.gs_eq, ↓GH.gs_ne, GH.push_next, GH.set_next, he']
        exact ih (m - 1) _ _ _ (by omega) ⟨hlo', hk', i + 1, by omega, (by simp +decide (disch := first | assumption | (apply GH.ok_push; assumption) | exact cellV_int _ _ | exact cellV_bool _ | omega) only [go_sem, ↓reduceIte, Nat.reduceEqDiff, Nat.reduceAdd, Int.reduceToNat, he']; first | done | exact rfl), all_step hp hsy⟩
      · rintro m' e' g' lo' ho' hl' ih' out' ⟨hlo', hk', k, hkm, he', hpk⟩
        have hkn' := hk'.next
        by_cases ck : k < L.length
        case neg =>
          have ck' : ¬ (k : Int) < L.length := by omega
          simp +decide (disch := first | assumption | exact cellV_int _ _ | exact cellV_bool _ | omega | (simp only [GH.pn, GH.sn] <;> omega) | (with_reducible ((repeat (first | apply GH.ok_push | apply GH.ok_set)); assumption)) | ((try simp only [GH.push_hid, GH.set_hid]); first | assumption | (refine GH.vis ?_ ?_ <;> first | assumption | ((try simp only [GH.pn, GH.sn]) <;> omega)))) only [go_sem, ↓reduceIte, Nat.reduceEqDiff, Nat.reduceAdd, Int.reduceToNat, Int.reduceAdd, Int.reduceNeg, Int.reduceSub, Int.reduceMul, Int.reduceLT, Int.reduceLE, Int.reduceEq, ↓GH.gp_eq, ↓GH.gp_ne, ↓GH.gs_eq, ↓GH.gs_ne, GH.push_next, GH.set_next, he', ck']
          have : k = L.length := by omega
          subst this
          exact out' _ _ _ ⟨hlo', hk', (by simp +decide (disch := first | assumption | (apply GH.ok_push; assumption) | exact cellV_int _ _ | exact cellV_bool _ | omega) only [go_sem, ↓reduceIte, Nat.reduceEqDiff, Nat.reduceAdd, Int.reduceToNat, he']; first | done | exact rfl), hpk⟩
        have ck' : (k : Int) < L.length := by omega
        have hskk := hs.kept hk'
        obtain ⟨j1, o1, hj1, hp1, hp2⟩ := hskk.ptr (ints_get (D := L) (i := i) ci)
        have hp1 := hp1 (i : Int) rfl
        obtain ⟨j2, o2, hj2, hq1, hq2⟩ := hskk.ptr (ints_get (D := L) (i := k) ck)
        have hq1 := hq1 (k : Int) rfl
        have hni : 0 ≤ L.getD i 0 := by
          have := all_at hall ci
          unfold okI at this
          simp only [Bool.and_eq_true, decide_eq_true_eq] at this
          exact this.1.1
        have hnk : 0 ≤ L.getD k 0 := by
          have := all_at hall ck
          unfold okI at this
          simp only [Bool.and_eq_true, decide_eq_true_eq] at this
          exact this.1.1
        have r1 := shr_fact (L.getD i 0) k (by omega)
        have r2 := rem_fact hni k
        have r3 := shr_fact (L.getD k 0) i (by omega)
        have r4 := rem_fact hnk i
        have n1 : ¬ (k : Int) < 0 := by omega
        have n2 : ¬ (i : Int) < 0 := by omega
        cases cb : (bitI (L.getD i 0) k == bitI (L.getD k 0) i) with
        | true =>
          have hb : b01 (bitI (L.getD i 0) k) = b01 (bitI (L.getD k 0) i) := by rw [beq_iff_eq.1 cb]
          rw [hb] at r2
          simp +decide (disch := first | assumption | exact cellV_int _ _ | exact cellV_bool _ | omega | (simp only [GH.pn, GH.sn] <;> omega) | (with_reducible ((repeat (first | apply GH.ok_push | apply GH.ok_set)); assumption)) | ((try simp only [GH.push_hid, GH.set_hid]); first | assumption | (refine GH.vis ?_ ?_ <;> first | assumption | ((try simp only [GH.pn, GH.sn]) <;> omega)))) only [go_sem, ↓reduceIte, Nat.reduceEqDiff, Nat.reduceAdd, Int.reduceToNat, Int.reduceAdd, Int.reduceNeg, Int.reduceSub, Int.reduceMul, Int.reduceLT, Int.reduceLE, Int.reduceEq, ↓GH.gp_eq, ↓GH.gp_ne, ↓GH.gs_eq, ↓GH.gs_ne, GH.push_next, GH.set_next, he', ck', hp1, hp2, hq1, hq2, ib_shr n1, ib_shr n2, r1, r2, r3, r4]
          exact ih' (m' - 1) _ _ _ (by omega) ⟨hlo', hk', k + 1, by omega, (by simp +decide (disch := first | assumption | (apply GH.ok_push; assumption) | exact cellV_int _ _ | exact cellV_bool _ | omega) only [go_sem, ↓reduceIte, Nat.reduceEqDiff, Nat.reduceAdd, Int.reduceToNat, he']; first | done | exact rfl), all_step hpk cb⟩
        | false =>
          have hb : ¬ b01 (bitI (L.getD i 0) k) = b01 (bitI (L.getD k 0) i) := by
            cases u1 : bitI (L.getD i 0) k <;> cases u2 : bitI (L.getD k 0) i <;> rw [u1, u2] at cb <;> first | (cases cb; done) | decide
          simp +decide (disch := first | assumption | exact cellV_int _ _ | exact cellV_bool _ | omega | (simp only [GH.pn, GH.sn] <;> omega) | (with_reducible ((repeat (first | apply GH.ok_push | apply GH.ok_set)); assumption)) | ((try simp only [GH.push_hid, GH.set_hid]); first | assumption | (refine GH.vis ?_ ?_ <;> first | assumption | ((try simp only [GH.pn, GH.sn]) <;> omega)))) only [go_sem, ↓reduceIte, Nat.reduceEqDiff, Nat.reduceAdd, Int.reduceToNat, Int.reduceAdd, Int.reduceNeg, Int.reduceSub, Int.reduceMul, Int.reduceLT, Int.reduceLE, Int.reduceEq, ↓GH.gp_eq, ↓GH.gp_ne, ↓GH.gs_eq, ↓GH.gs_ne, GH.push_next, GH.set_next, he', ck', hp1, hp2, hq1, hq2, ib_shr n1, ib_shr n2, r1, r2, r3, r4, hb]
          intro hx0
          exact ⟨hlo', by rw [hsb, all_bad ci (show symI L i = false from all_bad ck cb)]⟩
  · rintro m e g' lo ho' hl' ih out ⟨hlo, hk, i, hi, he, hp⟩
    have hkn := hk.next
    by_cases ci : i < L.length
    case neg =>
      have ci' : ¬ (i : Int) < L.length := by omega
      simp +decide (disch := first | assumption | exact cellV_int _ _ | exact cellV_bool _ | omega | (simp only [GH.pn, GH.sn] <;> omega) | (with_reducible ((repeat (first | apply GH.ok_push | apply GH.ok_set)); assumption)) | ((try simp only [GH.push_hid, GH.set_hid]); first | assumption | (refine GH.vis ?_ ?_ <;> first | assumption | ((try simp only [GH.pn, GH.sn]) <;> omega)))) only [go_sem, ↓reduceIte, Nat.reduceEqDiff, Nat.reduceAdd, Int.reduceToNat, Int.reduceAdd, Int.reduceNeg, Int.reduceSub, Int.reduceMul, Int.reduceLT, Int.reduceLE, Int.reduceEq, ↓GH.gp_eq, ↓GH.gp_ne, ↓GH.gs_eq, ↓GH.gs_ne, GH.push_next, GH.set_next, he, ci']
      have : i = L.length := by omega
      subst this
      exact out _ _ _ ⟨hlo, hk, (by simp +decide (disch := first | assumption | (apply GH.ok_push; assumption) | exact cellV_int _ _ | exact cellV_bool _ | omega) only [go_sem, ↓reduceIte, Nat.reduceEqDiff, Nat.reduceAdd, Int.reduceToNat, he]; first | done | exact rfl), hp⟩
    have ci' : (i : Int) < L.length := by omega
    have hsk := hs.kept hk
    obtain ⟨j1, o1, hj1, hp1, hp2⟩ := hsk.ptr (ints_get (D := L) (i := i) ci)
    have hp1 := hp1 (i : Int) rfl
    by_cases c1 : L.getD i 0 < 0
    · simp +decide (disch := first | assumption | exact cellV_int _ _ | exact cellV_bool _ | omega | (simp only [GH.pn, GH.sn] <;> omega) | (with_reducible ((repeat (first | apply GH.ok_push | apply GH.ok_set)); assumption)) | ((try simp only [GH.push_hid, GH.set_hid]); first | assumption | (refine GH.vis ?_ ?_ <;> first | assumption | ((try simp only [GH.pn, GH.sn]) <;> omega)))) only [go_sem, ↓reduceIte, Nat.reduceEqDiff, Nat.reduceAdd, Int.reduceToNat, Int.reduceAdd, Int.reduceNeg, Int.reduceSub, Int.reduceMul, Int.reduceLT, Int.reduceLE, Int.reduceEq, ↓GH.gp_eq, ↓GH.gp_ne, ↓GH.gs_eq, ↓GH.gs_ne, GH.push_next, GH.set_next, he, ci', hp1, hp2, c1]
      intro hx0
      exact ⟨hlo, by rw [hsb, all_bad ci (show okI L i = false by unfold okI; rw [decide_eq_false (p := 0 ≤ L.getD i 0) (by omega)]; rfl)]; rfl⟩
    by_cases c2 : 2 ^ L.length ≤ L.getD i 0
    · simp +decide (disch := first | assumption | exact cellV_int _ _ | exact cellV_bool _ | omega | (simp only [GH.pn, GH.sn] <;> omega) | (with_reducible ((repeat (first | apply GH.ok_push | apply GH.ok_set)); assumption)) | ((try simp only [GH.push_hid, GH.set_hid]); first | assumption | (refine GH.vis ?_ ?_ <;> first | assumption | ((try simp only [GH.pn, GH.sn]) <;> omega)))) only [go_sem, ↓reduceIte, Nat.reduceEqDiff, Nat.reduceAdd, Int.reduceToNat, Int.reduceAdd, Int.reduceNeg, Int.reduceSub, Int.reduceMul, Int.reduceLT, Int.reduceLE, Int.reduceEq, ↓GH.gp_eq, ↓GH.gp_ne, ↓GH.gs_eq, ↓GH.gs_ne, GH.push_next, GH.set_next, he, ci', hp1, hp2, c1, hsh, c2]
      intro hx0
      exact ⟨hlo, by rw [hsb, all_bad ci (show okI L i = false by unfold okI; rw [decide_eq_false (p := L.getD i 0 < 2 ^ L.length) (by omega), Bool.and_false]; rfl)]; rfl⟩
    have r1 := shr_fact (L.getD i 0) i (by omega)
    have r2 := rem_fact (show 0 ≤ L.getD i 0 by omega) i
    have n2 : ¬ (i : Int) < 0 := by omega
    cases c3 : bitI (L.getD i 0) i with
    | true =>
      rw [c3] at r2
      have r2' : (L.getD i 0 / 2 ^ i).tmod 2 = 1 := r2
      simp +decide (disch := first | assumption | exact cellV_int _ _ | exact cellV_bool _ | omega | (simp only [GH.pn, GH.sn] <;> omega) | (with_reducible ((repeat (first | apply GH.ok_push | apply GH.ok_set)); assumption)) | ((try simp only [GH.push_hid, GH.set_hid]); first | assumption | (refine GH.vis ?_ ?_ <;> first | assumption | ((try simp only [GH.pn, GH.sn]) <;> omega)))) only [go_sem, ↓reduceIte, Nat.reduceEqDiff, Nat.reduceAdd, Int.reduceToNat, Int.reduceAdd, Int.reduceNeg, Int.reduceSub, Int.reduceMul, Int.reduceLT, Int.reduceLE, Int.reduceEq, ↓GH.gp_eq, ↓GH.gp_ne, ↓GH.gs_eq, ↓GH.gs_ne, GH.push_next, GH.set_next, he, ci', hp1, hp2, c1, hsh, c2, ib_shr n2, r1, r2']
      intro hx0
      exact ⟨hlo, by rw [hsb, all_bad ci (show okI L i = false by unfold okI; rw [c3, Bool.and_comm]; rfl)]; rfl⟩
    | false =>
      rw [c3] at r2
      have r2' : (L.getD i 0 / 2 ^ i).tmod 2 = 0 := r2
      simp +decide (disch := first | assumption | exact cellV_int _ _ | exact cellV_bool _ | omega | (simp only [GH.pn, GH.sn] <;> omega) | (with_reducible ((repeat (first | apply GH.ok_push | apply GH.ok_set)); assumption)) | ((try simp only [GH.push_hid, GH.set_hid]); first | assumption | (refine GH.vis ?_ ?_ <;> first | assumption | ((try simp only [GH.pn, GH.sn]) <;> omega)))) only [go_sem, ↓reduceIte, Nat.reduceEqDiff, Nat.reduceAdd, Int.reduceToNat, Int.reduceAdd, Int.reduceNeg, Int.reduceSub, Int.reduceMul, Int.reduceLT, Int.reduceLE, Int.reduceEq, ↓GH.gp_eq, ↓GH.gp_ne, ↓GH.gs_eq, ↓GH.gs_ne, GH.push_next, GH.set_next, he, ci', hp1, hp2, c1, hsh, c2, ib_shr n2, r1, r2']
      exact ih (m - 1) _ _ _ (by omega) ⟨hlo, hk, i + 1, by omega, (by simp +decide (disch := first | assumption | (apply GH.ok_push; assumption) | exact cellV_int _ _ | exact cellV_bool _ | omega) only [go_sem, ↓reduceIte, Nat.reduceEqDiff, Nat.reduceAdd, Int.reduceToNat, he]; first | done | exact rfl), all_step hp (by unfold okI; rw [c3, decide_eq_true (p := 0 ≤ L.getD i 0) (by omega), decide_eq_true (p := L.getD i 0 < 2 ^ L.length) (by omega)]; rfl)⟩
end Go.Proofs.YtnpapnpedcbfnaaDoor
set_option maxRecDepth 100000
set_option maxHeartbeats 4000000
set_option linter.unusedSimpArgs false
set_option linter.unusedVariables false
namespace Go.Proofs.YtnpapnpedcbfnaaDoor
open Go.Ds Go.Vs
/-! ## How many pairs the largest matchings of each set have -/
theorem shop_ok {L : List Int} (h : shopB L = true) : 1 ≤ L.length ∧ L.length ≤ 10 ∧ ∀ i, i < L.length → L.getD i 0 = (setF L i : Int) ∧ setF L i < 2 ^ L.length ∧ (setF L i).testBit i = false ∧ ∀ k, k < L.length → (setF L i).testBit k = (setF L k).testBit i := by
  unfold shopB at h
  simp only [Bool.and_eq_true, decide_eq_true_eq] at h
  obtain ⟨⟨h1, h2⟩, h3, h4⟩ := h
  have key : ∀ i, i < L.length → L.getD i 0 = (setF L i : Int) := fun i hi => by
    have := all_at h3 hi
    unfold okI at this
    simp only [Bool.and_eq_true, decide_eq_true_eq] at this
    unfold setF
    omega
  refine ⟨h1, h2, fun i hi => ?_⟩
  have h5 := all_at h3 hi
  have hki := key i hi
  unfold okI at h5
  rw [hki, bitI_nat] at h5
  simp only [Bool.and_eq_true, decide_eq_true_eq, Bool.not_eq_true'] at h5
  have e2 : ((2 ^ L.length : Nat) : Int) = 2 ^ L.length := by simp
  refine ⟨hki, by rw [← e2] at h5; exact Int.ofNat_lt.1 h5.1.2, h5.2, fun k hk => ?_⟩
  have h6 := all_at (all_at h4 hi) hk
  rw [hki, key k hk, bitI_nat, bitI_nat] at h6
  exact beq_iff_eq.1 h6
theorem getD_set (T : List Int) (i j : Nat) (x : Int) (hi : i < T.length) : (T.set i x).getD j 0 = if i = j then x else T.getD j 0 := by
  rw [List.getD_eq_getElem?_getD, List.getD_eq_getElem?_getD, List.getElem?_set]
  by_cases c : i = j
  · subst c; simp [hi]
  · rw [if_neg c, if_neg c]
theorem conv_u64 {i : Nat} (hi : i < 9223372036854775808) : convF IntKind.u64 (Value.int IntKind.i64 (i : Int)) = some (Value.int IntKind.u64 (i : Int)) := by
  have h : Nat.blt i 18446744073709551616 = true := by rw [blt_d]; simp; omega
  show some (Value.int IntKind.u64 (bif Nat.blt i 18446744073709551616 then (i : Int) else .ofNat (Nat.mod i 18446744073709551616))) = _
  rw [h]
  rfl
theorem repeatN_ints (n : Nat) : repeatN [Value.int IntKind.i64 0] n = ints (List.replicate n 0) := by
  induction n with
  | zero => rfl
  | succ n ih => rw [List.replicate_succ]; show _ = Value.int IntKind.i64 0 :: ints (List.replicate n 0); rw [← ih]; rfl
theorem mx_ints (a b : Int) : mxF (.int .i64 a) (.int .i64 b) = some (.int .i64 (if a < b then b else a)) := by
  simp only [mxF, lt_i]
  by_cases c : a < b
  · rw [decide_eq_true c, if_pos c]; rfl
  · rw [decide_eq_false c, if_neg c]; rfl
theorem sizes_rets {X : Caller} (hX : Xok X) (L : List Int) (hL : shopB L = true) (s : Value) (g : GH) (hT : HasTab g) (hs : SlR g s (ints L)) :
    Rets Tryd.prog X 50 [s] g (fun v g' lo => g.next ≤ lo ∧ g'.ok ∧ Kept g g' ∧ ∃ J T, v = .slice (some ⟨J, 0, none⟩) (2 ^ L.length) (2 ^ L.length) ∧ g.next ≤ J ∧ J < g'.next ∧ g'.get J = cellsOb (ints T) 3 ∧ T.length = 2 ^ L.length ∧ ∀ j, j < 2 ^ L.length → T.getD j 0 = (best (setF L) L.length j : Int)) := by
  obtain ⟨hL1, hL10, hA⟩ := shop_ok hL
  have hl := hs.len
  rw [ints_len] at hl
  have ha := allHats_rets hX.toXfr L hL10 s g hs
  have e2 : ((2 ^ L.length : Nat) : Int) = 2 ^ L.length := by simp
  rw [← e2] at ha
  have hN : 2 ^ L.length ≤ 1024 := Nat.pow_le_pow_right (by decide) hL10
  have hN0 : 0 < 2 ^ L.length := Nat.two_pow_pos _
  have hbl := @bit_lt
  obtain ⟨N, hNe⟩ : ∃ N, 2 ^ L.length = N := ⟨_, rfl⟩
  rw [hNe] at ha hN hN0 hA ⊢
  obtain ⟨A, hAe⟩ : ∃ A, setF L = A := ⟨_, rfl⟩
  rw [hAe] at hA ⊢
  refine Rets.run hX.pres p50 (hX.free 50 (by decide) _ _) rfl fun ho => ?_
  simp +decide (disch := first | assumption | exact cellV_int _ _ | exact cellV_bool _ | omega | (simp only [GH.pn, GH.sn] <;> omega) | (with_reducible ((repeat (first | apply GH.ok_push | apply GH.ok_set)); assumption)) | ((try simp only [GH.push_hid, GH.set_hid]); first | assumption | (refine GH.vis ?_ ?_ <;> first | assumption | ((try simp only [GH.pn, GH.sn]) <;> omega)))) only [go_sem, ↓reduceIte, Nat.reduceEqDiff, Nat.reduceAdd, Int.reduceToNat, Int.reduceAdd, Int.reduceNeg, Int.reduceSub, Int.reduceMul, Int.reduceLT, Int.reduceLE, Int.reduceEq, ↓GH.gp_eq, ↓GH.gp_ne, ↓GH.gs_eq, ↓GH.gs_ne, GH.push_next, GH.set_next]
  refine CallD.calm ha ?_
  rintro v g1 hx1 rfl
  have hn1 := hx1.next
  have hok1 := hx1.ok ho
  have hk1 : Kept g g1 := hx1.kept
  have eN : (N : Int) - 1 + 1 = N := by omega
  simp +decide (disch := first | assumption | exact cellV_int _ _ | exact cellV_bool _ | omega | (simp only [GH.pn, GH.sn] <;> omega) | (with_reducible ((repeat (first | apply GH.ok_push | apply GH.ok_set)); assumption)) | ((try simp only [GH.push_hid, GH.set_hid]); first | assumption | (refine GH.vis ?_ ?_ <;> first | assumption | ((try simp only [GH.pn, GH.sn]) <;> omega)))) only [go_sem, ↓reduceIte, Nat.reduceEqDiff, Nat.reduceAdd, Int.reduceToNat, Int.reduceAdd, Int.reduceNeg, Int.reduceSub, Int.reduceMul, Int.reduceLT, Int.reduceLE, Int.reduceEq, ↓GH.gp_eq, ↓GH.gp_ne, ↓GH.gs_eq, ↓GH.gs_ne, GH.push_next, GH.set_next, eN]
  refine Wk.mkslice (n := N) (c := N) (by simp +decide (disch := first | assumption | exact cellV_int _ _ | exact cellV_bool _ | omega | (simp only [GH.pn, GH.sn] <;> omega) | (with_reducible ((repeat (first | apply GH.ok_push | apply GH.ok_set)); assumption)) | ((try simp only [GH.push_hid, GH.set_hid]); first | assumption | (refine GH.vis ?_ ?_ <;> first | assumption | ((try simp only [GH.pn, GH.sn]) <;> omega)))) only [go_sem, ↓reduceIte, Nat.reduceEqDiff, Nat.reduceAdd, Int.reduceToNat, Int.reduceAdd, Int.reduceNeg, Int.reduceSub, Int.reduceMul, Int.reduceLT, Int.reduceLE, Int.reduceEq, ↓GH.gp_eq, ↓GH.gp_ne, ↓GH.gs_eq, ↓GH.gs_ne, GH.push_next, GH.set_next, eN]; first | done | exact rfl) (by simp +decide (disch := first | assumption | exact cellV_int _ _ | exact cellV_bool _ | omega | (simp only [GH.pn, GH.sn] <;> omega) | (with_reducible ((repeat (first | apply GH.ok_push | apply GH.ok_set)); assumption)) | ((try simp only [GH.push_hid, GH.set_hid]); first | assumption | (refine GH.vis ?_ ?_ <;> first | assumption | ((try simp only [GH.pn, GH.sn]) <;> omega)))) only [go_sem, ↓reduceIte, Nat.reduceEqDiff, Nat.reduceAdd, Int.reduceToNat, Int.reduceAdd, Int.reduceNeg, Int.reduceSub, Int.reduceMul, Int.reduceLT, Int.reduceLE, Int.reduceEq, ↓GH.gp_eq, ↓GH.gp_ne, ↓GH.gs_eq, ↓GH.gs_ne, GH.push_next, GH.set_next, eN]; first | done | exact rfl) (Nat.le_refl _) (by omega) ?_
  simp +decide (disch := first | assumption | exact cellV_int _ _ | exact cellV_bool _ | omega | (simp only [GH.pn, GH.sn] <;> omega) | (with_reducible ((repeat (first | apply GH.ok_push | apply GH.ok_set)); assumption)) | ((try simp only [GH.push_hid, GH.set_hid]); first | assumption | (refine GH.vis ?_ ?_ <;> first | assumption | ((try simp only [GH.pn, GH.sn]) <;> omega)))) only [go_sem, ↓reduceIte, Nat.reduceEqDiff, Nat.reduceAdd, Int.reduceToNat, Int.reduceAdd, Int.reduceNeg, Int.reduceSub, Int.reduceMul, Int.reduceLT, Int.reduceLE, Int.reduceEq, ↓GH.gp_eq, ↓GH.gp_ne, ↓GH.gs_eq, ↓GH.gs_ne, GH.push_next, GH.set_next, eN]
  obtain ⟨J, hJ⟩ : ∃ J, g1.next = J := ⟨_, rfl⟩
  rw [hJ]
  refine Wk.loops (fun m e g' lo => g.next ≤ lo ∧ Kept g g' ∧ J < g'.next ∧ ∃ i : Nat, i + m = N ∧ (ev e (.s 0) = s ∧ ev e (.s 3) = .slice (some ⟨J, 0, none⟩) N N ∧ ev e (.s 13) = .int .i64 (N : Int) ∧ ev e (.s 14) = .int .i64 i) ∧ ∃ T : List Int, g'.get J = cellsOb (ints T) 3 ∧ T.length = N ∧ (i = 0 → T.getD 0 0 = 0) ∧ ∀ j, j < i → T.getD j 0 = (best A L.length j : Int))
    (fun e g' lo => g.next ≤ lo ∧ Kept g g' ∧ J < g'.next ∧ ev e (.s 3) = .slice (some ⟨J, 0, none⟩) N N ∧ ∃ T : List Int, g'.get J = cellsOb (ints T) 3 ∧ T.length = N ∧ ∀ j, j < N → T.getD j 0 = (best A L.length j : Int)) (n := N) ?_ ?_ ?_
  · refine ⟨by omega, hk1.push hok1 _, by rw [← hJ]; exact Nat.lt_succ_self _, 0, by omega, (by simp +decide (disch := first | assumption | (apply GH.ok_push; assumption) | exact cellV_int _ _ | exact cellV_bool _ | omega) only [go_sem, ↓reduceIte, Nat.reduceEqDiff, Nat.reduceAdd, Int.reduceToNat, eN]; first | done | exact rfl), List.replicate N 0, ?_, by simp, fun _ => by rw [List.getD_eq_getElem?_getD, List.getElem?_replicate]; split <;> rfl, fun j hj => by omega⟩
    rw [GH.get_push hok1, if_pos hJ]
    rw [repeatN_ints]
  · rintro e g' lo hog hlg ⟨hlo, hk, hnx, he, T, hget, hTl, hT⟩
    simp +decide (disch := first | assumption | exact cellV_int _ _ | exact cellV_bool _ | omega | (simp only [GH.pn, GH.sn] <;> omega) | (with_reducible ((repeat (first | apply GH.ok_push | apply GH.ok_set)); assumption)) | ((try simp only [GH.push_hid, GH.set_hid]); first | assumption | (refine GH.vis ?_ ?_ <;> first | assumption | ((try simp only [GH.pn, GH.sn]) <;> omega)))) only [go_sem, ↓reduceIte, Nat.reduceEqDiff, Nat.reduceAdd, Int.reduceToNat, Int.reduceAdd, Int.reduceNeg, Int.reduceSub, Int.reduceMul, Int.reduceLT, Int.reduceLE, Int.reduceEq, ↓GH.gp_eq, ↓GH.gp_ne, ↓GH.gs_eq, ↓GH.gs_ne, GH.push_next, GH.set_next, he]
    intro hx0
    exact ⟨hlo, hog, hk, J, T, rfl, by omega, hnx, hget, hTl, hT⟩
  · rintro m e g' lo ho' hl' ih out ⟨hlo, hk, hnx, i, hi, he, T, hget, hTl, hT0, hTb⟩
    have hkn := hk.next
    by_cases ci : i < N
    case neg =>
      have ci' : ¬ (i : Int) < N := by omega
      simp +decide (disch := first | assumption | exact cellV_int _ _ | exact cellV_bool _ | omega | (simp only [GH.pn, GH.sn] <;> omega) | (with_reducible ((repeat (first | apply GH.ok_push | apply GH.ok_set)); assumption)) | ((try simp only [GH.push_hid, GH.set_hid]); first | assumption | (refine GH.vis ?_ ?_ <;> first | assumption | ((try simp only [GH.pn, GH.sn]) <;> omega)))) only [go_sem, ↓reduceIte, Nat.reduceEqDiff, Nat.reduceAdd, Int.reduceToNat, Int.reduceAdd, Int.reduceNeg, Int.reduceSub, Int.reduceMul, Int.reduceLT, Int.reduceLE, Int.reduceEq, ↓GH.gp_eq, ↓GH.gp_ne, ↓GH.gs_eq, ↓GH.gs_ne, GH.push_next, GH.set_next, he, ci']
      have : i = N := by omega
      subst this
      exact out _ _ _ ⟨hlo, hk, hnx, (by simp +decide (disch := first | assumption | (apply GH.ok_push; assumption) | exact cellV_int _ _ | exact cellV_bool _ | omega) only [go_sem, ↓reduceIte, Nat.reduceEqDiff, Nat.reduceAdd, Int.reduceToNat, he]; first | done | exact rfl), T, hget, hTl, hTb⟩
    have ci' : (i : Int) < N := by omega
    by_cases c0 : i = 0
    · subst c0
      simp +decide (disch := first | assumption | exact cellV_int _ _ | exact cellV_bool _ | omega | (simp only [GH.pn, GH.sn] <;> omega) | (with_reducible ((repeat (first | apply GH.ok_push | apply GH.ok_set)); assumption)) | ((try simp only [GH.push_hid, GH.set_hid]); first | assumption | (refine GH.vis ?_ ?_ <;> first | assumption | ((try simp only [GH.pn, GH.sn]) <;> omega)))) only [go_sem, ↓reduceIte, Nat.reduceEqDiff, Nat.reduceAdd, Int.reduceToNat, Int.reduceAdd, Int.reduceNeg, Int.reduceSub, Int.reduceMul, Int.reduceLT, Int.reduceLE, Int.reduceEq, ↓GH.gp_eq, ↓GH.gp_ne, ↓GH.gs_eq, ↓GH.gs_ne, GH.push_next, GH.set_next, he, ci']
      refine ih (m - 1) _ _ _ (by omega) ⟨hlo, hk, hnx, 1, by omega, (by simp +decide (disch := first | assumption | (apply GH.ok_push; assumption) | exact cellV_int _ _ | exact cellV_bool _ | omega) only [go_sem, ↓reduceIte, Nat.reduceEqDiff, Nat.reduceAdd, Int.reduceToNat, he]; first | done | exact rfl), T, hget, hTl, fun h => by omega, fun j hj => ?_⟩
      rw [show j = 0 by omega, hT0 rfl, best_zero]; rfl
    have c0' : ¬ (i : Int) = 0 := by omega
    have hi0 : i ≠ 0 := by omega
    have hcv : convF IntKind.u64 (Value.int IntKind.i64 (i : Int)) = some (Value.int IntKind.u64 (i : Int)) := conv_u64 (by omega)
    have hi2 : i < 2 ^ L.length := by omega
    have hlow := low_lt hi0 hi2
    have hlb := low_bit hi0
    have hdl := del_less hlb
    simp +decide (disch := first | assumption | exact cellV_int _ _ | exact cellV_bool _ | omega | (simp only [GH.pn, GH.sn] <;> omega) | (with_reducible ((repeat (first | apply GH.ok_push | apply GH.ok_set)); assumption)) | ((try simp only [GH.push_hid, GH.set_hid]); first | assumption | (refine GH.vis ?_ ?_ <;> first | assumption | ((try simp only [GH.pn, GH.sn]) <;> omega)))) only [go_sem, ↓reduceIte, Nat.reduceEqDiff, Nat.reduceAdd, Int.reduceToNat, Int.reduceAdd, Int.reduceNeg, Int.reduceSub, Int.reduceMul, Int.reduceLT, Int.reduceLE, Int.reduceEq, ↓GH.gp_eq, ↓GH.gp_ne, ↓GH.gs_eq, ↓GH.gs_ne, GH.push_next, GH.set_next, he, ci', c0', hcv]
    refine CallD.calm (hX.tz g' i (hT.kept hk) (by omega) (by omega)) ?_
    rintro v g2 hx2 rfl
    have hn2 := hx2.next
    have hk2 := hk.ext hx2
    simp +decide (disch := first | assumption | exact cellV_int _ _ | exact cellV_bool _ | omega | (simp only [GH.pn, GH.sn] <;> omega) | (with_reducible ((repeat (first | apply GH.ok_push | apply GH.ok_set)); assumption)) | ((try simp only [GH.push_hid, GH.set_hid]); first | assumption | (refine GH.vis ?_ ?_ <;> first | assumption | ((try simp only [GH.pn, GH.sn]) <;> omega)))) only [go_sem, ↓reduceIte, Nat.reduceEqDiff, Nat.reduceAdd, Int.reduceToNat, Int.reduceAdd, Int.reduceNeg, Int.reduceSub, Int.reduceMul, Int.reduceLT, Int.reduceLE, Int.reduceEq, ↓GH.gp_eq, ↓GH.gp_ne, ↓GH.gs_eq, ↓GH.gs_ne, GH.push_next, GH.set_next, he]
    refine CallD.calm (without_rets hX.toXfr i (low i) (by omega) (by omega) g2) ?_
    rintro v g3 hx3 rfl
    have hn3 := hx3.next
    have hk3 := hk2.ext hx3
    have hok3 := hx3.ok (hx2.ok ho')
    have hget3 : g3.get J = cellsOb (ints T) 3 := ((hx3.gets J (by omega)).trans ((hx2.gets J hnx).trans hget))
    have hpa := iaddrS_at (j := J) (n := N) (c := N) (m := del i (low i)) (x := (del i (low i) : Nat)) rfl (by omega)
    have hpb := iaddrS_at (j := J) (n := N) (c := N) (m := i) (x := (i : Nat)) rfl ci
    have hcell : (ints T)[del i (low i)]? = some (.int .i64 (best A L.length (del i (low i)) : Nat)) := by
      rw [ints_get (by omega), hTb _ hdl]
    have hlenT : (ints T).length = N := by rw [ints_len, hTl]
    generalize hR : del i (low i) = R at *
    simp +decide (disch := first | assumption | exact cellV_int _ _ | exact cellV_bool _ | omega | (simp only [GH.pn, GH.sn] <;> omega) | (with_reducible ((repeat (first | apply GH.ok_push | apply GH.ok_set)); assumption)) | ((try simp only [GH.push_hid, GH.set_hid]); first | assumption | (refine GH.vis ?_ ?_ <;> first | assumption | ((try simp only [GH.pn, GH.sn]) <;> omega)))) only [go_sem, ↓reduceIte, Nat.reduceEqDiff, Nat.reduceAdd, Int.reduceToNat, Int.reduceAdd, Int.reduceNeg, Int.reduceSub, Int.reduceMul, Int.reduceLT, Int.reduceLE, Int.reduceEq, ↓GH.gp_eq, ↓GH.gp_ne, ↓GH.gs_eq, ↓GH.gs_ne, GH.push_next, GH.set_next, he, hpa, hpb, hget3, hcell, hlenT, hl]
    have hw := Wrote.set (o := cellsOb (splice i (ints T) [.int .i64 (best A L.length R : Nat)]) 3) hget3 Nat.one_ne_zero hok3
    have hkw := hw.kept hk3 (show g.next ≤ J by omega)
    have hgw := hw.get.trans (congrArg (fun z => cellsOb z 3) (show splice i (ints T) [.int .i64 (best A L.length R : Nat)] = ints (T.set i (best A L.length R : Nat)) by rw [splice_set _ _ _ (by rw [hlenT]; exact ci), ints_set]))
    have hnw := hkw.next
    have hRb : R < i := hdl
    have hAl := hA (low i) hlow
    have hbe := best_eq A L.length hi0
    rw [hR] at hbe
    refine Wk.loops (fun m' e' g' lo' => g.next ≤ lo' ∧ Kept g g' ∧ J < g'.next ∧ ∃ k : Nat, k + m' = L.length ∧ (ev e' (.s 0) = s ∧ ev e' (.s 3) = .slice (some ⟨J, 0, none⟩) N N ∧ ev e' (.s 13) = .int .i64 (N : Int) ∧ ev e' (.s 14) = .int .i64 i ∧ ev e' (.s 4) = .int .i64 i ∧ ev e' (.s 5) = .int .i64 (low i : Nat) ∧ ev e' (.s 6) = .int .i64 R ∧ ev e' (.s 33) = .int .i64 (L.length : Int) ∧ ev e' (.s 34) = .int .i64 k) ∧ ∃ T : List Int, g'.get J = cellsOb (ints T) 3 ∧ T.length = N ∧ (∀ j, j < i → T.getD j 0 = (best A L.length j : Int)) ∧ T.getD i 0 = (mxs (fun k => (R &&& A (low i)).testBit k) (fun k => best A L.length (del R k) + 1) (best A L.length R) k : Nat))
      (fun e' g' lo' => g.next ≤ lo' ∧ Kept g g' ∧ J < g'.next ∧ (ev e' (.s 0) = s ∧ ev e' (.s 3) = .slice (some ⟨J, 0, none⟩) N N ∧ ev e' (.s 13) = .int .i64 (N : Int) ∧ ev e' (.s 14) = .int .i64 i) ∧ ∃ T : List Int, g'.get J = cellsOb (ints T) 3 ∧ T.length = N ∧ ∀ j, j < i + 1 → T.getD j 0 = (best A L.length j : Int)) (n := L.length) ?_ ?_ ?_
    · refine ⟨by omega, hkw, by rw [hw.next]; omega, 0, by omega, (by simp +decide (disch := first | assumption | (apply GH.ok_push; assumption) | exact cellV_int _ _ | exact cellV_bool _ | omega) only [go_sem, ↓reduceIte, Nat.reduceEqDiff, Nat.reduceAdd, Int.reduceToNat, he, hl]; first | done | exact rfl), _, hgw, by simp [hTl], fun j hj => ?_, ?_⟩
      · rw [getD_set _ _ _ _ (by omega), if_neg (by omega)]; exact hTb j hj
      · rw [getD_set _ _ _ _ (by omega), if_pos rfl]; rfl
    · rintro e' g' lo' - - ⟨hlo', hk', hnx', he', T', hget', hTl', hTb'⟩
      simp +decide (disch := first | assumption | exact cellV_int _ _ | exact cellV_bool _ | omega | (simp only [GH.pn, GH.sn] <;> omega) | (with_reducible ((repeat (first | apply GH.ok_push | apply GH.ok_set)); assumption)) | ((try simp only [GH.push_hid, GH.set_hid]); first | assumption | (refine GH.vis ?_ ?_ <;> first | assumption | ((try simp only [GH.pn, GH.sn]) <;> omega)))) only [go_sem, ↓reduceIte, Nat.reduceEqDiff, Nat.reduceAdd, Int.reduceToNat, Int.reduceAdd, Int.reduceNeg, Int.reduceSub, Int.reduceMul, Int.reduceLT, Int.reduceLE, Int.reduceEq, ↓GH.gp_eq, ↓GH.gp_ne, ↓GH.gs_eq, ↓GH.gs_ne, GH.push_next, GH.set_next, he']
      exact ih (m - 1) _ _ _ (by omega) ⟨hlo', hk', hnx', i + 1, by omega, (by simp +decide (disch := first | assumption | (apply GH.ok_push; assumption) | exact cellV_int _ _ | exact cellV_bool _ | omega) only [go_sem, ↓reduceIte, Nat.reduceEqDiff, Nat.reduceAdd, Int.reduceToNat, he']; first | done | exact rfl), T', hget', hTl', fun h => by omega, hTb'⟩
    · rintro m' e' g' lo' ho'' hl'' ih' out' ⟨hlo', hk', hnx', k, hkm, he', T', hget', hTl', hTb', hTi'⟩
      have hkn' := hk'.next
      by_cases ck : k < L.length
      case neg =>
        have ck' : ¬ (k : Int) < L.length := by omega
        simp +decide (disch := first | assumption | exact cellV_int _ _ | exact cellV_bool _ | omega | (simp only [GH.pn, GH.sn] <;> omega) | (with_reducible ((repeat (first | apply GH.ok_push | apply GH.ok_set)); assumption)) | ((try simp only [GH.push_hid, GH.set_hid]); first | assumption | (refine GH.vis ?_ ?_ <;> first | assumption | ((try simp only [GH.pn, GH.sn]) <;> omega)))) only [go_sem, ↓reduceIte, Nat.reduceEqDiff, Nat.reduceAdd, Int.reduceToNat, Int.reduceAdd, Int.reduceNeg, Int.reduceSub, Int.reduceMul, Int.reduceLT, Int.reduceLE, Int.reduceEq, ↓GH.gp_eq, ↓GH.gp_ne, ↓GH.gs_eq, ↓GH.gs_ne, GH.push_next, GH.set_next, he', ck']
        have : k = L.length := by omega
        subst this
        refine out' _ _ _ ⟨hlo', hk', hnx', (by simp +decide (disch := first | assumption | (apply GH.ok_push; assumption) | exact cellV_int _ _ | exact cellV_bool _ | omega) only [go_sem, ↓reduceIte, Nat.reduceEqDiff, Nat.reduceAdd, Int.reduceToNat, he']; first | done | exact rfl), T', hget', hTl', fun j hj => ?_⟩
        rcases Nat.lt_succ_iff_lt_or_eq.1 hj with c | c
        · exact hTb' j c
        · rw [c, hTi', ← hbe]
      have ck' : (k : Int) < L.length := by omega
      have hskk := hs.kept hk'
      obtain ⟨j2, o2, hj2, hq1, hq2⟩ := hskk.ptr (ints_get (D := L) (i := low i) hlow)
      have hq1 := hq1 (low i : Int) rfl
      rw [hAl.1] at hq2
      have hand := and_i (a := R) (b := A (low i)) (by omega) (by omega)
      have hha := has_rets hX.toXfr ((R &&& A (low i) : Nat) : Int) k (by omega)
      rw [bitI_nat] at hha
      simp +decide (disch := first | assumption | exact cellV_int _ _ | exact cellV_bool _ | omega | (simp only [GH.pn, GH.sn] <;> omega) | (with_reducible ((repeat (first | apply GH.ok_push | apply GH.ok_set)); assumption)) | ((try simp only [GH.push_hid, GH.set_hid]); first | assumption | (refine GH.vis ?_ ?_ <;> first | assumption | ((try simp only [GH.pn, GH.sn]) <;> omega)))) only [go_sem, ↓reduceIte, Nat.reduceEqDiff, Nat.reduceAdd, Int.reduceToNat, Int.reduceAdd, Int.reduceNeg, Int.reduceSub, Int.reduceMul, Int.reduceLT, Int.reduceLE, Int.reduceEq, ↓GH.gp_eq, ↓GH.gp_ne, ↓GH.gs_eq, ↓GH.gs_ne, GH.push_next, GH.set_next, he', ck', hq1, hq2, hand]
      refine CallD.calm (hha _) ?_
      rintro v g4 hx4 rfl
      have hn4 := hx4.next
      have hk4 := hk'.ext hx4
      cases cb : (R &&& A (low i)).testBit k with
      | false =>
        simp +decide (disch := first | assumption | exact cellV_int _ _ | exact cellV_bool _ | omega | (simp only [GH.pn, GH.sn] <;> omega) | (with_reducible ((repeat (first | apply GH.ok_push | apply GH.ok_set)); assumption)) | ((try simp only [GH.push_hid, GH.set_hid]); first | assumption | (refine GH.vis ?_ ?_ <;> first | assumption | ((try simp only [GH.pn, GH.sn]) <;> omega)))) only [go_sem, ↓reduceIte, Nat.reduceEqDiff, Nat.reduceAdd, Int.reduceToNat, Int.reduceAdd, Int.reduceNeg, Int.reduceSub, Int.reduceMul, Int.reduceLT, Int.reduceLE, Int.reduceEq, ↓GH.gp_eq, ↓GH.gp_ne, ↓GH.gs_eq, ↓GH.gs_ne, GH.push_next, GH.set_next, he']
        refine ih' (m' - 1) _ _ _ (by omega) ⟨hlo', hk4, by omega, k + 1, by omega, (by simp +decide (disch := first | assumption | (apply GH.ok_push; assumption) | exact cellV_int _ _ | exact cellV_bool _ | omega) only [go_sem, ↓reduceIte, Nat.reduceEqDiff, Nat.reduceAdd, Int.reduceToNat, he']; first | done | exact rfl), T', (hx4.gets J (by omega)).trans hget', hTl', hTb', ?_⟩
        rw [hTi', mxs, cb]; rfl
      | true =>
        have hok4 := hx4.ok ho''
        have hget4 := (hx4.gets J (by omega)).trans hget'
        have hlenT' : (ints T').length = N := by rw [ints_len, hTl']
        have hpi := iaddrS_at (j := J) (n := N) (c := N) (m := i) (x := (i : Nat)) rfl ci
        have hdk := del_le R k
        have hpk := iaddrS_at (j := J) (n := N) (c := N) (m := del R k) (x := (del R k : Nat)) rfl (by omega)
        have hci : (ints T')[i]? = some (.int .i64 (mxs (fun k => (R &&& A (low i)).testBit k) (fun k => best A L.length (del R k) + 1) (best A L.length R) k : Nat)) := by
          rw [ints_get (by omega), hTi']
        have hck : (ints T')[del R k]? = some (.int .i64 (best A L.length (del R k) : Nat)) := by
          rw [ints_get (by omega), hTb' _ (by omega)]
        have hbs := best_small A L.length (del R k)
        have hmz : mxs (fun k => (R &&& A (low i)).testBit k) (fun k => best A L.length (del R k) + 1) (best A L.length R) (k + 1) = max (mxs (fun k => (R &&& A (low i)).testBit k) (fun k => best A L.length (del R k) + 1) (best A L.length R) k) (best A L.length (del R k) + 1) := by
          rw [mxs, if_pos cb]
        generalize mxs (fun k => (R &&& A (low i)).testBit k) (fun k => best A L.length (del R k) + 1) (best A L.length R) k = mk at *
        generalize hBk : best A L.length (del R k) = bk at *
        have hmx := mx_ints (mk : Int) (1 + (bk : Int))
        simp +decide (disch := first | assumption | exact cellV_int _ _ | exact cellV_bool _ | omega | (simp only [GH.pn, GH.sn] <;> omega) | (with_reducible ((repeat (first | apply GH.ok_push | apply GH.ok_set)); assumption)) | ((try simp only [GH.push_hid, GH.set_hid]); first | assumption | (refine GH.vis ?_ ?_ <;> first | assumption | ((try simp only [GH.pn, GH.sn]) <;> omega)))) only [go_sem, ↓reduceIte, Nat.reduceEqDiff, Nat.reduceAdd, Int.reduceToNat, Int.reduceAdd, Int.reduceNeg, Int.reduceSub, Int.reduceMul, Int.reduceLT, Int.reduceLE, Int.reduceEq, ↓GH.gp_eq, ↓GH.gp_ne, ↓GH.gs_eq, ↓GH.gs_ne, GH.push_next, GH.set_next, he', hpi, hget4, hci]
        refine CallD.calmH (by simp [spansOf, spanAt, blt_d]) rfl (without_rets hX.toXfr R k (by omega) (by omega) g4) ?_
        rintro v g5 hx5 rfl
        have hn5 := hx5.next
        have hok5 := hx5.ok hok4
        have hk5 := hk4.ext hx5
        have hget5 := (hx5.gets J (by omega)).trans hget4
        simp +decide (disch := first | assumption | exact cellV_int _ _ | exact cellV_bool _ | omega | (simp only [GH.pn, GH.sn] <;> omega) | (with_reducible ((repeat (first | apply GH.ok_push | apply GH.ok_set)); assumption)) | ((try simp only [GH.push_hid, GH.set_hid]); first | assumption | (refine GH.vis ?_ ?_ <;> first | assumption | ((try simp only [GH.pn, GH.sn]) <;> omega)))) only [go_sem, ↓reduceIte, Nat.reduceEqDiff, Nat.reduceAdd, Int.reduceToNat, Int.reduceAdd, Int.reduceNeg, Int.reduceSub, Int.reduceMul, Int.reduceLT, Int.reduceLE, Int.reduceEq, ↓GH.gp_eq, ↓GH.gp_ne, ↓GH.gs_eq, ↓GH.gs_ne, GH.push_next, GH.set_next, he', hpi, hpk, hget5, hck, hmx, hlenT']
        have hw5 := Wrote.set (o := cellsOb (splice i (ints T') [.int .i64 (if (mk : Int) < 1 + (bk : Int) then 1 + (bk : Int) else mk)]) 3) hget5 Nat.one_ne_zero hok5
        have hg5 := hw5.get.trans (congrArg (fun z => cellsOb z 3) (show splice i (ints T') [.int .i64 (if (mk : Int) < 1 + (bk : Int) then 1 + (bk : Int) else mk)] = ints (T'.set i (if (mk : Int) < 1 + (bk : Int) then 1 + (bk : Int) else mk)) by rw [splice_set _ _ _ (by rw [hlenT']; exact ci), ints_set]))
        refine ih' (m' - 1) _ _ _ (by omega) ⟨by omega, hw5.kept hk5 (by omega), by rw [hw5.next]; omega, k + 1, by omega, (by simp +decide (disch := first | assumption | (apply GH.ok_push; assumption) | exact cellV_int _ _ | exact cellV_bool _ | omega) only [go_sem, ↓reduceIte, Nat.reduceEqDiff, Nat.reduceAdd, Int.reduceToNat, he']; first | done | exact rfl), _, hg5, by simp [hTl'], fun j hj => ?_, ?_⟩
        · rw [getD_set _ _ _ _ (by omega), if_neg (by omega)]; exact hTb' j hj
        · rw [getD_set _ _ _ _ (by omega), if_pos rfl, hmz]
          split <;> omega
end Go.Proofs.YtnpapnpedcbfnaaDoor
set_option maxRecDepth 100000
set_option maxHeartbeats 4000000
set_option linter.unusedSimpArgs false
set_option linter.unusedVariables false
namespace Go.Proofs.YtnpapnpedcbfnaaDoor
open Go.Ds Go.Vs
def cellsP (l : List (Nat × Nat)) : List Value := l.flatMap fun p => [.int .i64 p.1, .int .i64 p.2]
theorem cellsP_len (l : List (Nat × Nat)) : (cellsP l).length = l.length * 2 := by
  induction l with
  | nil => rfl
  | cons p l ih => simp only [cellsP] at ih; simp [cellsP, ih]; omega
theorem cellsP_snoc (l : List (Nat × Nat)) (p : Nat × Nat) : cellsP (l ++ [p]) = cellsP l ++ [.int .i64 p.1, .int .i64 p.2] := by simp [cellsP]
theorem bslQ (x y a b : Value) : bsl 2 #[x, y] [(0, .agg #[a, b])] = some #[a, b] := rfl
theorem ownQ_low {g : GH} {s : Value} {sz m : Nat} {vs : List Value} {t : TypeId} {b b' : Nat} (h : OwnQ g s sz m vs t b) (hb : b' ≤ b) : OwnQ g s sz m vs t b' := by
  rcases h with h | ⟨j, fam, h1, h2, h3, h4, h5, h6, h7⟩
  · exact .inl h
  · exact .inr ⟨j, fam, h1, h2, h3, h4, h5, by omega, h7⟩
/-- All hats. -/
def allN (n : Nat) : Nat := 2 ^ n - 1
theorem all_bit (n j : Nat) : (allN n).testBit j = decide (j < n) := by unfold allN; rw [Nat.testBit_two_pow_sub_one]
theorem pick_is {A : Nat → Nat} {n s i k : Nat} (hl : low s = i) (hk : k < n) (h1 : (del s i &&& A i).testBit k = true) (h2 : 1 + best A n (del (del s i) k) = best A n s)
    (h3 : ∀ j, j < k → ((del s i &&& A i).testBit j && decide (1 + best A n (del (del s i) j) = best A n s)) = false) : pick A n s = some k := by
  unfold pick
  rw [List.find?_range_eq_some, hl]
  exact ⟨by rw [h1, decide_eq_true h2]; rfl, by simpa using hk, fun j hj => by rw [h3 j hj]; rfl⟩
theorem pick_not {A : Nat → Nat} {n s i : Nat} (hl : low s = i) (h3 : ∀ j, j < n → ((del s i &&& A i).testBit j && decide (1 + best A n (del (del s i) j) = best A n s)) = false) : pick A n s = none := by
  unfold pick
  rw [List.find?_eq_none, hl]
  intro j hj
  rw [h3 j (List.mem_range.1 hj)]
  simp
theorem least_rets {X : Caller} (hX : Xok X) (L : List Int) (hL : shopB L = true) (s : Value) (g : GH) (hT : HasTab g) (hs : SlR g s (ints L)) :
    Rets Tryd.prog X 46 [s] g (fun v g' lo => g.next ≤ lo ∧ g'.ok ∧ Kept g g' ∧ OwnQ g' v 2 (lrg (setF L) L.length (allN L.length)).length (cellsP (lrg (setF L) L.length (allN L.length))) 56 g.next) := by
  obtain ⟨hL1, hL10, hA⟩ := shop_ok hL
  have hl := hs.len
  rw [ints_len] at hl
  have hsz := sizes_rets hX L hL s g hT hs
  have ha := fun g hs => allHats_rets hX.toXfr L hL10 s g hs
  have e2 : (2 : Int) ^ L.length - 1 = (allN L.length : Nat) := by
    unfold allN
    have := Nat.two_pow_pos L.length
    have e2 : ((2 ^ L.length : Nat) : Int) = 2 ^ L.length := by simp
    omega
  have hN : 2 ^ L.length ≤ 1024 := Nat.pow_le_pow_right (by decide) hL10
  rw [e2] at ha
  have hal : allN L.length < 2 ^ L.length := by unfold allN; have := Nat.two_pow_pos L.length; omega
  have hab := all_bit L.length
  obtain ⟨N, hNe⟩ : ∃ N, 2 ^ L.length = N := ⟨_, rfl⟩
  have hlt2 : ∀ F, F < N → F < 2 ^ L.length := fun F h => by omega
  rw [hNe] at hsz hN hA hal
  obtain ⟨A, hAe⟩ : ∃ A, setF L = A := ⟨_, rfl⟩
  rw [hAe] at hA hsz ⊢
  generalize hall : allN L.length = all at *
  refine Rets.run hX.pres p46 (hX.free 46 (by decide) _ _) rfl fun ho => ?_
  simp +decide (disch := first | assumption | exact cellV_int _ _ | exact cellV_bool _ | omega | (simp only [GH.pn, GH.sn] <;> omega) | (with_reducible ((repeat (first | apply GH.ok_push | apply GH.ok_set)); assumption)) | ((try simp only [GH.push_hid, GH.set_hid]); first | assumption | (refine GH.vis ?_ ?_ <;> first | assumption | ((try simp only [GH.pn, GH.sn]) <;> omega)))) only [go_sem, ↓reduceIte, Nat.reduceEqDiff, Nat.reduceAdd, Int.reduceToNat, Int.reduceAdd, Int.reduceNeg, Int.reduceSub, Int.reduceMul, Int.reduceLT, Int.reduceLE, Int.reduceEq, ↓GH.gp_eq, ↓GH.gp_ne, ↓GH.gs_eq, ↓GH.gs_ne, GH.push_next, GH.set_next]
  refine CallD.calm hsz ?_
  rintro v g1 hx1 ⟨hok1, hk1, J, T, rfl, hJ1, hJ2, hget, hTl, hTb⟩
  have hn1 := hx1.next
  simp +decide (disch := first | assumption | exact cellV_int _ _ | exact cellV_bool _ | omega | (simp only [GH.pn, GH.sn] <;> omega) | (with_reducible ((repeat (first | apply GH.ok_push | apply GH.ok_set)); assumption)) | ((try simp only [GH.push_hid, GH.set_hid]); first | assumption | (refine GH.vis ?_ ?_ <;> first | assumption | ((try simp only [GH.pn, GH.sn]) <;> omega)))) only [go_sem, ↓reduceIte, Nat.reduceEqDiff, Nat.reduceAdd, Int.reduceToNat, Int.reduceAdd, Int.reduceNeg, Int.reduceSub, Int.reduceMul, Int.reduceLT, Int.reduceLE, Int.reduceEq, ↓GH.gp_eq, ↓GH.gp_ne, ↓GH.gs_eq, ↓GH.gs_ne, GH.push_next, GH.set_next]
  refine CallD.calm (ha g1 (hs.kept hk1)) ?_
  rintro v g2 hx2 rfl
  have hn2 := hx2.next
  have hok2 := hx2.ok hok1
  have hk2 : Kept g g2 := hk1.ext hx2
  have hget2 := (hx2.gets J hJ2).trans hget
  simp +decide (disch := first | assumption | exact cellV_int _ _ | exact cellV_bool _ | omega | (simp only [GH.pn, GH.sn] <;> omega) | (with_reducible ((repeat (first | apply GH.ok_push | apply GH.ok_set)); assumption)) | ((try simp only [GH.push_hid, GH.set_hid]); first | assumption | (refine GH.vis ?_ ?_ <;> first | assumption | ((try simp only [GH.pn, GH.sn]) <;> omega)))) only [go_sem, ↓reduceIte, Nat.reduceEqDiff, Nat.reduceAdd, Int.reduceToNat, Int.reduceAdd, Int.reduceNeg, Int.reduceSub, Int.reduceMul, Int.reduceLT, Int.reduceLE, Int.reduceEq, ↓GH.gp_eq, ↓GH.gp_ne, ↓GH.gs_eq, ↓GH.gs_ne, GH.push_next, GH.set_next, hl]
  refine Wk.loops (fun m e g' lo => g.next ≤ lo ∧ Kept g2 g' ∧ ∃ i F P o, i + m = L.length ∧ (ev e (.s 0) = s ∧ ev e (.s 3) = .slice (some ⟨J, 0, none⟩) N N ∧ ev e (.s 4) = .int .i64 (F : Nat) ∧ ev e (.s 5) = o ∧ ev e (.s 14) = .int .i64 (L.length : Int) ∧ ev e (.s 15) = .int .i64 (i : Nat)) ∧ F < N ∧ (∀ j, j < i → F.testBit j = false) ∧ P ++ lrg A L.length F = lrg A L.length all ∧ OwnQ g' o 2 P.length (cellsP P) 56 g2.next)
    (fun e g' lo => g.next ≤ lo ∧ Kept g2 g' ∧ ∃ o, ev e (.s 5) = o ∧ OwnQ g' o 2 (lrg A L.length all).length (cellsP (lrg A L.length all)) 56 g2.next) (n := L.length) ?_ ?_ ?_
  · exact ⟨by omega, Kept.refl _, 0, all, [], _, by omega, (by simp +decide (disch := first | assumption | (apply GH.ok_push; assumption) | exact cellV_int _ _ | exact cellV_bool _ | omega) only [go_sem, ↓reduceIte, Nat.reduceEqDiff, Nat.reduceAdd, Int.reduceToNat, hl]; first | done | exact rfl), hal, fun j hj => by omega, rfl, OwnQ.nil⟩
  · rintro e g' lo hog hlg ⟨hlo, hk, o, he, hown⟩
    simp +decide (disch := first | assumption | exact cellV_int _ _ | exact cellV_bool _ | omega | (simp only [GH.pn, GH.sn] <;> omega) | (with_reducible ((repeat (first | apply GH.ok_push | apply GH.ok_set)); assumption)) | ((try simp only [GH.push_hid, GH.set_hid]); first | assumption | (refine GH.vis ?_ ?_ <;> first | assumption | ((try simp only [GH.pn, GH.sn]) <;> omega)))) only [go_sem, ↓reduceIte, Nat.reduceEqDiff, Nat.reduceAdd, Int.reduceToNat, Int.reduceAdd, Int.reduceNeg, Int.reduceSub, Int.reduceMul, Int.reduceLT, Int.reduceLE, Int.reduceEq, ↓GH.gp_eq, ↓GH.gp_ne, ↓GH.gs_eq, ↓GH.gs_ne, GH.push_next, GH.set_next, he]
    intro hx0
    exact ⟨hlo, hog, hk2.trans hk, ownQ_low hown (by omega)⟩
  · rintro m e g' lo ho' hl' ih out ⟨hlo, hk, i, F, P, o, hi, he, hF, hFb, hP, hown⟩
    have hkn := hk.next
    by_cases ci : i < L.length
    case neg =>
      have ci' : ¬ (i : Int) < L.length := by omega
      simp +decide (disch := first | assumption | exact cellV_int _ _ | exact cellV_bool _ | omega | (simp only [GH.pn, GH.sn] <;> omega) | (with_reducible ((repeat (first | apply GH.ok_push | apply GH.ok_set)); assumption)) | ((try simp only [GH.push_hid, GH.set_hid]); first | assumption | (refine GH.vis ?_ ?_ <;> first | assumption | ((try simp only [GH.pn, GH.sn]) <;> omega)))) only [go_sem, ↓reduceIte, Nat.reduceEqDiff, Nat.reduceAdd, Int.reduceToNat, Int.reduceAdd, Int.reduceNeg, Int.reduceSub, Int.reduceMul, Int.reduceLT, Int.reduceLE, Int.reduceEq, ↓GH.gp_eq, ↓GH.gp_ne, ↓GH.gs_eq, ↓GH.gs_ne, GH.push_next, GH.set_next, he, ci']
      have : i = L.length := by omega
      subst this
      have hF0 : F = 0 := by
        apply Nat.eq_of_testBit_eq
        intro j
        rw [Nat.zero_testBit]
        rcases Nat.lt_or_ge j L.length with c | c
        · exact hFb j c
        · exact Nat.testBit_lt_two_pow (Nat.lt_of_lt_of_le (hlt2 F hF) (Nat.pow_le_pow_right (by decide) c))
      rw [hF0, lrg_zero, List.append_nil] at hP
      rw [hP] at hown
      exact out _ _ _ ⟨hlo, hk, o, (by simp +decide (disch := first | assumption | (apply GH.ok_push; assumption) | exact cellV_int _ _ | exact cellV_bool _ | omega) only [go_sem, ↓reduceIte, Nat.reduceEqDiff, Nat.reduceAdd, Int.reduceToNat, he]; first | done | exact rfl), hown⟩
    have ci' : (i : Int) < L.length := by omega
    have hfi := has_rets hX.toXfr (F : Int) i (by omega)
    rw [bitI_nat] at hfi
    simp +decide (disch := first | assumption | exact cellV_int _ _ | exact cellV_bool _ | omega | (simp only [GH.pn, GH.sn] <;> omega) | (with_reducible ((repeat (first | apply GH.ok_push | apply GH.ok_set)); assumption)) | ((try simp only [GH.push_hid, GH.set_hid]); first | assumption | (refine GH.vis ?_ ?_ <;> first | assumption | ((try simp only [GH.pn, GH.sn]) <;> omega)))) only [go_sem, ↓reduceIte, Nat.reduceEqDiff, Nat.reduceAdd, Int.reduceToNat, Int.reduceAdd, Int.reduceNeg, Int.reduceSub, Int.reduceMul, Int.reduceLT, Int.reduceLE, Int.reduceEq, ↓GH.gp_eq, ↓GH.gp_ne, ↓GH.gs_eq, ↓GH.gs_ne, GH.push_next, GH.set_next, he, ci']
    refine CallD.calm (hfi _) ?_
    rintro v g3 hx3 rfl
    have hn3 := hx3.next
    have hk3 := hk.ext hx3
    have hok3 := hx3.ok ho'
    cases cb : F.testBit i with
    | false =>
      simp +decide (disch := first | assumption | exact cellV_int _ _ | exact cellV_bool _ | omega | (simp only [GH.pn, GH.sn] <;> omega) | (with_reducible ((repeat (first | apply GH.ok_push | apply GH.ok_set)); assumption)) | ((try simp only [GH.push_hid, GH.set_hid]); first | assumption | (refine GH.vis ?_ ?_ <;> first | assumption | ((try simp only [GH.pn, GH.sn]) <;> omega)))) only [go_sem, ↓reduceIte, Nat.reduceEqDiff, Nat.reduceAdd, Int.reduceToNat, Int.reduceAdd, Int.reduceNeg, Int.reduceSub, Int.reduceMul, Int.reduceLT, Int.reduceLE, Int.reduceEq, ↓GH.gp_eq, ↓GH.gp_ne, ↓GH.gs_eq, ↓GH.gs_ne, GH.push_next, GH.set_next, he]
      refine ih (m - 1) _ _ _ (by omega) ⟨hlo, hk3, i + 1, F, P, o, by omega, (by simp +decide (disch := first | assumption | (apply GH.ok_push; assumption) | exact cellV_int _ _ | exact cellV_bool _ | omega) only [go_sem, ↓reduceIte, Nat.reduceEqDiff, Nat.reduceAdd, Int.reduceToNat, he]; first | done | exact rfl), hF, fun j hj => ?_, hP, hown.kept hx3.kept⟩
      rcases Nat.lt_succ_iff_lt_or_eq.1 hj with c | c
      · exact hFb j c
      · rw [c]; exact cb
    | true =>
    have hlow : low F = i := low_is cb hFb
    have hF0 : F ≠ 0 := by rintro rfl; simp at cb
    simp +decide (disch := first | assumption | exact cellV_int _ _ | exact cellV_bool _ | omega | (simp only [GH.pn, GH.sn] <;> omega) | (with_reducible ((repeat (first | apply GH.ok_push | apply GH.ok_set)); assumption)) | ((try simp only [GH.push_hid, GH.set_hid]); first | assumption | (refine GH.vis ?_ ?_ <;> first | assumption | ((try simp only [GH.pn, GH.sn]) <;> omega)))) only [go_sem, ↓reduceIte, Nat.reduceEqDiff, Nat.reduceAdd, Int.reduceToNat, Int.reduceAdd, Int.reduceNeg, Int.reduceSub, Int.reduceMul, Int.reduceLT, Int.reduceLE, Int.reduceEq, ↓GH.gp_eq, ↓GH.gp_ne, ↓GH.gs_eq, ↓GH.gs_ne, GH.push_next, GH.set_next, he]
    refine CallD.calm (without_rets hX.toXfr F i (by omega) (by omega) g3) ?_
    rintro v g4 hx4 rfl
    have hn4 := hx4.next
    have hk4 := hk3.ext hx4
    have hok4 := hx4.ok hok3
    have hown4 := (hown.kept hx3.kept).kept hx4.kept
    have hdl := del_less cb
    have hRb : ∀ j, j < i + 1 → (del F i).testBit j = false := fun j hj => by
      rw [del_bit]
      rcases Nat.lt_succ_iff_lt_or_eq.1 hj with c | c
      · rw [hFb j c]; rfl
      · rw [c]; simp
    generalize hR : del F i = R at *
    simp +decide (disch := first | assumption | exact cellV_int _ _ | exact cellV_bool _ | omega | (simp only [GH.pn, GH.sn] <;> omega) | (with_reducible ((repeat (first | apply GH.ok_push | apply GH.ok_set)); assumption)) | ((try simp only [GH.push_hid, GH.set_hid]); first | assumption | (refine GH.vis ?_ ?_ <;> first | assumption | ((try simp only [GH.pn, GH.sn]) <;> omega)))) only [go_sem, ↓reduceIte, Nat.reduceEqDiff, Nat.reduceAdd, Int.reduceToNat, Int.reduceAdd, Int.reduceNeg, Int.reduceSub, Int.reduceMul, Int.reduceLT, Int.reduceLE, Int.reduceEq, ↓GH.gp_eq, ↓GH.gp_ne, ↓GH.gs_eq, ↓GH.gs_ne, GH.push_next, GH.set_next, he, hl]
    refine Wk.loops (fun m' e' g' lo' => g.next ≤ lo' ∧ Kept g2 g' ∧ ∃ k : Nat, k + m' = L.length ∧ (ev e' (.s 0) = s ∧ ev e' (.s 3) = .slice (some ⟨J, 0, none⟩) N N ∧ ev e' (.s 4) = .int .i64 (F : Nat) ∧ ev e' (.s 5) = o ∧ ev e' (.s 14) = .int .i64 (L.length : Int) ∧ ev e' (.s 15) = .int .i64 (i : Nat) ∧ ev e' (.s 6) = .int .i64 (i : Nat) ∧ ev e' (.s 7) = .int .i64 (R : Nat) ∧ ev e' (.s 26) = .int .i64 (L.length : Int) ∧ ev e' (.s 27) = .int .i64 (k : Nat)) ∧ OwnQ g' o 2 P.length (cellsP P) 56 g2.next ∧ ∀ j, j < k → ((R &&& A i).testBit j && decide (1 + best A L.length (del R j) = best A L.length F)) = false)
      (fun e' g' lo' => g.next ≤ lo' ∧ Kept g2 g' ∧ (ev e' (.s 0) = s ∧ ev e' (.s 3) = .slice (some ⟨J, 0, none⟩) N N ∧ ev e' (.s 5) = o ∧ ev e' (.s 14) = .int .i64 (L.length : Int) ∧ ev e' (.s 15) = .int .i64 (i : Nat) ∧ ev e' (.s 7) = .int .i64 (R : Nat)) ∧ OwnQ g' o 2 P.length (cellsP P) 56 g2.next ∧ lrg A L.length F = lrg A L.length R) (n := L.length) ?_ ?_ ?_
    · exact ⟨hlo, hk4, 0, by omega, (by simp +decide (disch := first | assumption | (apply GH.ok_push; assumption) | exact cellV_int _ _ | exact cellV_bool _ | omega) only [go_sem, ↓reduceIte, Nat.reduceEqDiff, Nat.reduceAdd, Int.reduceToNat, he, hl]; first | done | exact rfl), hown4, fun j hj => by omega⟩
    · rintro e' g' lo' - - ⟨hlo', hk', he', hown', hlr⟩
      simp +decide (disch := first | assumption | exact cellV_int _ _ | exact cellV_bool _ | omega | (simp only [GH.pn, GH.sn] <;> omega) | (with_reducible ((repeat (first | apply GH.ok_push | apply GH.ok_set)); assumption)) | ((try simp only [GH.push_hid, GH.set_hid]); first | assumption | (refine GH.vis ?_ ?_ <;> first | assumption | ((try simp only [GH.pn, GH.sn]) <;> omega)))) only [go_sem, ↓reduceIte, Nat.reduceEqDiff, Nat.reduceAdd, Int.reduceToNat, Int.reduceAdd, Int.reduceNeg, Int.reduceSub, Int.reduceMul, Int.reduceLT, Int.reduceLE, Int.reduceEq, ↓GH.gp_eq, ↓GH.gp_ne, ↓GH.gs_eq, ↓GH.gs_ne, GH.push_next, GH.set_next, he']
      refine ih (m - 1) _ _ _ (by omega) ⟨hlo', hk', i + 1, R, P, o, by omega, (by simp +decide (disch := first | assumption | (apply GH.ok_push; assumption) | exact cellV_int _ _ | exact cellV_bool _ | omega) only [go_sem, ↓reduceIte, Nat.reduceEqDiff, Nat.reduceAdd, Int.reduceToNat, he']; first | done | exact rfl), by omega, hRb, by rw [← hlr]; exact hP, hown'⟩
    · rintro m' e' g' lo' ho'' hl'' ih' out' ⟨hlo', hk', k, hkm, he', hown', hno⟩
      have hkn' := hk'.next
      by_cases ck : k < L.length
      case neg =>
        have ck' : ¬ (k : Int) < L.length := by omega
        simp +decide (disch := first | assumption | exact cellV_int _ _ | exact cellV_bool _ | omega | (simp only [GH.pn, GH.sn] <;> omega) | (with_reducible ((repeat (first | apply GH.ok_push | apply GH.ok_set)); assumption)) | ((try simp only [GH.push_hid, GH.set_hid]); first | assumption | (refine GH.vis ?_ ?_ <;> first | assumption | ((try simp only [GH.pn, GH.sn]) <;> omega)))) only [go_sem, ↓reduceIte, Nat.reduceEqDiff, Nat.reduceAdd, Int.reduceToNat, Int.reduceAdd, Int.reduceNeg, Int.reduceSub, Int.reduceMul, Int.reduceLT, Int.reduceLE, Int.reduceEq, ↓GH.gp_eq, ↓GH.gp_ne, ↓GH.gs_eq, ↓GH.gs_ne, GH.push_next, GH.set_next, he', ck']
        have : k = L.length := by omega
        subst this
        have hpn := pick_not (A := A) (n := L.length) (s := F) hlow (by rw [hR]; exact hno)
        refine out' _ _ _ ⟨hlo', hk', (by simp +decide (disch := first | assumption | (apply GH.ok_push; assumption) | exact cellV_int _ _ | exact cellV_bool _ | omega) only [go_sem, ↓reduceIte, Nat.reduceEqDiff, Nat.reduceAdd, Int.reduceToNat, he']; first | done | exact rfl), hown', ?_⟩
        rw [lrg_none hF0 hpn, hlow, hR]
      have ck' : (k : Int) < L.length := by omega
      have hskk := (hs.kept hk2).kept hk'
      obtain ⟨j2, o2, hj2, hq1, hq2⟩ := hskk.ptr (ints_get (D := L) (i := i) ci)
      have hq1 := hq1 (i : Int) rfl
      have hAi := hA i ci
      rw [hAi.1] at hq2
      have hand := and_i (a := R) (b := A i) (by omega) (by omega)
      have hha := has_rets hX.toXfr ((R &&& A i : Nat) : Int) k (by omega)
      rw [bitI_nat] at hha
      simp +decide (disch := first | assumption | exact cellV_int _ _ | exact cellV_bool _ | omega | (simp only [GH.pn, GH.sn] <;> omega) | (with_reducible ((repeat (first | apply GH.ok_push | apply GH.ok_set)); assumption)) | ((try simp only [GH.push_hid, GH.set_hid]); first | assumption | (refine GH.vis ?_ ?_ <;> first | assumption | ((try simp only [GH.pn, GH.sn]) <;> omega)))) only [go_sem, ↓reduceIte, Nat.reduceEqDiff, Nat.reduceAdd, Int.reduceToNat, Int.reduceAdd, Int.reduceNeg, Int.reduceSub, Int.reduceMul, Int.reduceLT, Int.reduceLE, Int.reduceEq, ↓GH.gp_eq, ↓GH.gp_ne, ↓GH.gs_eq, ↓GH.gs_ne, GH.push_next, GH.set_next, he', ck', hq1, hq2, hand]
      refine CallD.calm (hha _) ?_
      rintro v g5 hx5 rfl
      have hn5 := hx5.next
      have hk5 := hk'.ext hx5
      have hok5 := hx5.ok ho''
      have hown5 := hown'.kept hx5.kept
      cases cb2 : (R &&& A i).testBit k with
      | false =>
        simp +decide (disch := first | assumption | exact cellV_int _ _ | exact cellV_bool _ | omega | (simp only [GH.pn, GH.sn] <;> omega) | (with_reducible ((repeat (first | apply GH.ok_push | apply GH.ok_set)); assumption)) | ((try simp only [GH.push_hid, GH.set_hid]); first | assumption | (refine GH.vis ?_ ?_ <;> first | assumption | ((try simp only [GH.pn, GH.sn]) <;> omega)))) only [go_sem, ↓reduceIte, Nat.reduceEqDiff, Nat.reduceAdd, Int.reduceToNat, Int.reduceAdd, Int.reduceNeg, Int.reduceSub, Int.reduceMul, Int.reduceLT, Int.reduceLE, Int.reduceEq, ↓GH.gp_eq, ↓GH.gp_ne, ↓GH.gs_eq, ↓GH.gs_ne, GH.push_next, GH.set_next, he']
        refine ih' (m' - 1) _ _ _ (by omega) ⟨hlo', hk5, k + 1, by omega, (by simp +decide (disch := first | assumption | (apply GH.ok_push; assumption) | exact cellV_int _ _ | exact cellV_bool _ | omega) only [go_sem, ↓reduceIte, Nat.reduceEqDiff, Nat.reduceAdd, Int.reduceToNat, he']; first | done | exact rfl), hown5, fun j hj => ?_⟩
        rcases Nat.lt_succ_iff_lt_or_eq.1 hj with c | c
        · exact hno j c
        · rw [c, cb2]; rfl
      | true =>
      simp +decide (disch := first | assumption | exact cellV_int _ _ | exact cellV_bool _ | omega | (simp only [GH.pn, GH.sn] <;> omega) | (with_reducible ((repeat (first | apply GH.ok_push | apply GH.ok_set)); assumption)) | ((try simp only [GH.push_hid, GH.set_hid]); first | assumption | (refine GH.vis ?_ ?_ <;> first | assumption | ((try simp only [GH.pn, GH.sn]) <;> omega)))) only [go_sem, ↓reduceIte, Nat.reduceEqDiff, Nat.reduceAdd, Int.reduceToNat, Int.reduceAdd, Int.reduceNeg, Int.reduceSub, Int.reduceMul, Int.reduceLT, Int.reduceLE, Int.reduceEq, ↓GH.gp_eq, ↓GH.gp_ne, ↓GH.gs_eq, ↓GH.gs_ne, GH.push_next, GH.set_next, he']
      refine CallD.calm (without_rets hX.toXfr R k (by omega) (by omega) g5) ?_
      rintro v g6 hx6 rfl
      have hn6 := hx6.next
      have hk6 := hk5.ext hx6
      have hok6 := hx6.ok hok5
      have hown6 := hown5.kept hx6.kept
      have hget6 : g6.get J = cellsOb (ints T) 3 := (hk6.gets J (by omega)).trans hget2
      have hdk := del_le R k
      have hJ5 : J < g5.next := by omega
      have hpk := iaddrS_at (j := J) (n := N) (c := N) (m := del R k) (x := (del R k : Nat)) rfl (by omega)
      have hpf := iaddrS_at (j := J) (n := N) (c := N) (m := F) (x := (F : Nat)) rfl hF
      have hck : (ints T)[del R k]? = some (.int .i64 (best A L.length (del R k) : Nat)) := by rw [ints_get (by omega), hTb _ (by omega)]
      have hcf : (ints T)[F]? = some (.int .i64 (best A L.length F : Nat)) := by rw [ints_get (by omega), hTb _ (by omega)]
      have hbs := best_small A L.length (del R k)
      have hPl : P.length ≤ 1024 := by
        have h1 := congrArg List.length hP
        rw [List.length_append, lrg_len, lrg_len] at h1
        have := best_small A L.length all
        omega
      have hkR : R.testBit k = true := by rw [Nat.testBit_and, Bool.and_eq_true] at cb2; exact cb2.1
      by_cases ce : 1 + best A L.length (del R k) = best A L.length F
      · have ce' : 1 + (best A L.length (del R k) : Int) = (best A L.length F : Int) := by omega
        have hpi := pick_is (A := A) (n := L.length) (s := F) (i := i) hlow ck (by rw [hR]; exact cb2) (by rw [hR]; exact ce) (by rw [hR]; exact hno)
        have hls := lrg_some hF0 hpi
        rw [hlow, hR] at hls
        generalize hBk : best A L.length (del R k) = bk at *
        generalize hBf : best A L.length F = bf at *
        simp +decide (disch := first | assumption | exact cellV_int _ _ | exact cellV_bool _ | omega | (simp only [GH.pn, GH.sn] <;> omega) | (with_reducible ((repeat (first | apply GH.ok_push | apply GH.ok_set)); assumption)) | ((try simp only [GH.push_hid, GH.set_hid]); first | assumption | (refine GH.vis ?_ ?_ <;> first | assumption | ((try simp only [GH.pn, GH.sn]) <;> omega)))) only [go_sem, ↓reduceIte, Nat.reduceEqDiff, Nat.reduceAdd, Int.reduceToNat, Int.reduceAdd, Int.reduceNeg, Int.reduceSub, Int.reduceMul, Int.reduceLT, Int.reduceLE, Int.reduceEq, ↓GH.gp_eq, ↓GH.gp_ne, ↓GH.gs_eq, ↓GH.gs_ne, GH.push_next, GH.set_next, he', hpk, hpf, hget6, hck, hcf, ce', bslQ]
        refine AppD.ownQ (lw := g.next) (new := [.int .i64 (i : Nat), .int .i64 (k : Nat)]) (tx := 56) (hown6.kept ((Kept.refl g6).push hok6 _)) (by simp (disch := first | assumption | exact cellV_int _ _ | exact cellV_bool _ | omega | (simp only [GH.pn, GH.sn] <;> omega) | (with_reducible ((repeat (first | apply GH.ok_push | apply GH.ok_set)); assumption)) | ((try simp only [GH.push_hid, GH.set_hid]); first | assumption | (refine GH.vis ?_ ?_ <;> first | assumption | ((try simp only [GH.pn, GH.sn]) <;> omega)))) only [↓GH.gp_eq, ↓GH.gp_ne, ↓GH.gs_eq, ↓GH.gs_ne, GH.push_next, GH.set_next]; first | done | exact rfl) rfl (by omega) (by omega) rfl (by omega) (by simp only [GH.push_next]; omega) hlo' (by omega) (GH.ok_push hok6) (fun s' g7 lo7 sp wr hgr hlo7 => ?_)
        have hk7 : Kept g2 g7 := (hk6.push hok6 _).grewQ hgr (Nat.le_refl _)
        have hn7 := hgr.next
        have hok7 := hgr.ok
        have hown7 := hgr.own
        simp +decide (disch := first | assumption | exact cellV_int _ _ | exact cellV_bool _ | omega | (simp only [GH.pn, GH.sn] <;> omega) | (with_reducible ((repeat (first | apply GH.ok_push | apply GH.ok_set)); assumption)) | ((try simp only [GH.push_hid, GH.set_hid]); first | assumption | (refine GH.vis ?_ ?_ <;> first | assumption | ((try simp only [GH.pn, GH.sn]) <;> omega)))) only [go_sem, ↓reduceIte, Nat.reduceEqDiff, Nat.reduceAdd, Int.reduceToNat, Int.reduceAdd, Int.reduceNeg, Int.reduceSub, Int.reduceMul, Int.reduceLT, Int.reduceLE, Int.reduceEq, ↓GH.gp_eq, ↓GH.gp_ne, ↓GH.gs_eq, ↓GH.gs_ne, GH.push_next, GH.set_next, he']
        refine CallD.calm (without_rets hX.toXfr R k (by omega) (by omega) g7) ?_
        rintro v g8 hx8 rfl
        have hn8 := hx8.next
        simp +decide (disch := first | assumption | exact cellV_int _ _ | exact cellV_bool _ | omega | (simp only [GH.pn, GH.sn] <;> omega) | (with_reducible ((repeat (first | apply GH.ok_push | apply GH.ok_set)); assumption)) | ((try simp only [GH.push_hid, GH.set_hid]); first | assumption | (refine GH.vis ?_ ?_ <;> first | assumption | ((try simp only [GH.pn, GH.sn]) <;> omega)))) only [go_sem, ↓reduceIte, Nat.reduceEqDiff, Nat.reduceAdd, Int.reduceToNat, Int.reduceAdd, Int.reduceNeg, Int.reduceSub, Int.reduceMul, Int.reduceLT, Int.reduceLE, Int.reduceEq, ↓GH.gp_eq, ↓GH.gp_ne, ↓GH.gs_eq, ↓GH.gs_ne, GH.push_next, GH.set_next, he']
        refine Wk.leave ?_
        simp +decide (disch := first | assumption | exact cellV_int _ _ | exact cellV_bool _ | omega | (simp only [GH.pn, GH.sn] <;> omega) | (with_reducible ((repeat (first | apply GH.ok_push | apply GH.ok_set)); assumption)) | ((try simp only [GH.push_hid, GH.set_hid]); first | assumption | (refine GH.vis ?_ ?_ <;> first | assumption | ((try simp only [GH.pn, GH.sn]) <;> omega)))) only [go_sem, ↓reduceIte, Nat.reduceEqDiff, Nat.reduceAdd, Int.reduceToNat, Int.reduceAdd, Int.reduceNeg, Int.reduceSub, Int.reduceMul, Int.reduceLT, Int.reduceLE, Int.reduceEq, ↓GH.gp_eq, ↓GH.gp_ne, ↓GH.gs_eq, ↓GH.gs_ne, GH.push_next, GH.set_next, he']
        refine ih (m - 1) _ _ _ (by omega) ⟨by omega, hk7.ext hx8, i + 1, del R k, P ++ [(i, k)], s', by omega, (by simp +decide (disch := first | assumption | (apply GH.ok_push; assumption) | exact cellV_int _ _ | exact cellV_bool _ | omega) only [go_sem, ↓reduceIte, Nat.reduceEqDiff, Nat.reduceAdd, Int.reduceToNat, he']; first | done | exact rfl), by omega, fun j hj => ?_, ?_, ?_⟩
        · rw [del_bit, hRb j hj]; rfl
        · rw [← hP, hls]; simp
        · rw [cellsP_snoc, List.length_append]
          exact hown7.kept hx8.kept
      · have ce' : ¬ 1 + (best A L.length (del R k) : Int) = (best A L.length F : Int) := by omega
        have hnn : ((R &&& A i).testBit k && decide (1 + best A L.length (del R k) = best A L.length F)) = false := by rw [decide_eq_false ce, Bool.and_false]
        generalize hBk : best A L.length (del R k) = bk at *
        generalize hBf : best A L.length F = bf at *
        simp +decide (disch := first | assumption | exact cellV_int _ _ | exact cellV_bool _ | omega | (simp only [GH.pn, GH.sn] <;> omega) | (with_reducible ((repeat (first | apply GH.ok_push | apply GH.ok_set)); assumption)) | ((try simp only [GH.push_hid, GH.set_hid]); first | assumption | (refine GH.vis ?_ ?_ <;> first | assumption | ((try simp only [GH.pn, GH.sn]) <;> omega)))) only [go_sem, ↓reduceIte, Nat.reduceEqDiff, Nat.reduceAdd, Int.reduceToNat, Int.reduceAdd, Int.reduceNeg, Int.reduceSub, Int.reduceMul, Int.reduceLT, Int.reduceLE, Int.reduceEq, ↓GH.gp_eq, ↓GH.gp_ne, ↓GH.gs_eq, ↓GH.gs_ne, GH.push_next, GH.set_next, he', hpk, hpf, hget6, hck, hcf, ce']
        refine ih' (m' - 1) _ _ _ (by omega) ⟨hlo', hk6, k + 1, by omega, (by simp +decide (disch := first | assumption | (apply GH.ok_push; assumption) | exact cellV_int _ _ | exact cellV_bool _ | omega) only [go_sem, ↓reduceIte, Nat.reduceEqDiff, Nat.reduceAdd, Int.reduceToNat, he']; first | done | exact rfl), hown6, fun j hj => ?_⟩
        rcases Nat.lt_succ_iff_lt_or_eq.1 hj with c | c
        · exact hno j c
        · rw [c, hBk]; exact hnn
end Go.Proofs.YtnpapnpedcbfnaaDoor
